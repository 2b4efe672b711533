/-
  Stresses: what the program reckons by grades is what the document says of truths (plain lists).
-/
import Derived.Test.YtboffligjgjgjaaGrA
namespace Go.Proofs.Ytboffligjgjgjaa
open Go.RowKit

theorem pair_ext {a b : Int × Int} (h1 : ∀ x, a.1 ≤ x ↔ b.1 ≤ x) (h2 : ∀ x, x ≤ a.2 ↔ x ≤ b.2) : a = b := by
  obtain ⟨a1, a2⟩ := a
  obtain ⟨b1, b2⟩ := b
  have p1 := (h1 a1).1 (Int.le_refl _)
  have p2 := (h1 b1).2 (Int.le_refl _)
  have p3 := (h2 a2).1 (Int.le_refl _)
  have p4 := (h2 b2).2 (Int.le_refl _)
  simp only at p1 p2 p3 p4
  have e1 : a1 = b1 := by omega
  have e2 : a2 = b2 := by omega
  rw [e1, e2]
theorem cut1_lo (s o : Int × Int) (x : Int) : (cut1 s o).1 ≤ x ↔ s.1 ≤ x ∧ o.1 ≤ x := by simp only [cut1]; omega
theorem cut1_hi (s o : Int × Int) (x : Int) : x ≤ (cut1 s o).2 ↔ x ≤ s.2 ∧ x ≤ o.2 := by simp only [cut1]; omega
theorem foldC_lo {α : Type} (f : α → Int × Int) (x : Int) : ∀ (l : List α) (s : Int × Int), (l.foldl (fun s q => cut1 s (f q)) s).1 ≤ x ↔ s.1 ≤ x ∧ ∀ q ∈ l, (f q).1 ≤ x
  | [], s => by simp
  | q :: l, s => by
    rw [List.foldl_cons, foldC_lo f x l, cut1_lo]
    simp only [List.mem_cons, forall_eq_or_imp]
    constructor
    · rintro ⟨⟨h1, h2⟩, h3⟩; exact ⟨h1, h2, h3⟩
    · rintro ⟨h1, h2, h3⟩; exact ⟨⟨h1, h2⟩, h3⟩
theorem foldC_hi {α : Type} (f : α → Int × Int) (x : Int) : ∀ (l : List α) (s : Int × Int), x ≤ (l.foldl (fun s q => cut1 s (f q)) s).2 ↔ x ≤ s.2 ∧ ∀ q ∈ l, x ≤ (f q).2
  | [], s => by simp
  | q :: l, s => by
    rw [List.foldl_cons, foldC_hi f x l, cut1_hi]
    simp only [List.mem_cons, forall_eq_or_imp]
    constructor
    · rintro ⟨⟨h1, h2⟩, h3⟩; exact ⟨h1, h2, h3⟩
    · rintro ⟨h1, h2, h3⟩; exact ⟨⟨h1, h2⟩, h3⟩

/-! ### What its own tests leave -/
/-- Which stresses a test leaves, as the program says it. -/
def says (a : Int) (t : Ts) : Int × Int := if t.held = true then (needN a t.force, 200000) else (1, needN a t.force - 1)
def saidL (p : Pol) (k : Nat) (ts : List Ts) : List (Int × Int) := (ts.filter fun t => decide (t.pole = p.id) && decide (t.sec = (k : Int))).map (says (ar p k))
def cutL (s : Int × Int) (l : List (Int × Int)) : Int × Int := l.foldl cut1 s
theorem own1_in (p : Pol) (k : Nat) (s : Int × Int) (t : Ts) : s.1 ≤ (own1 p k s t).1 ∧ (own1 p k s t).2 ≤ s.2 := by
  unfold own1
  split
  · split
    · simp only; omega
    · simp only; omega
  · omega
theorem foldO_in (p : Pol) (k : Nat) : ∀ (ts : List Ts) (s : Int × Int), s.1 ≤ (ts.foldl (own1 p k) s).1 ∧ (ts.foldl (own1 p k) s).2 ≤ s.2
  | [], s => by simp
  | t :: ts, s => by
    have h1 := own1_in p k s t
    have h2 := foldO_in p k ts (own1 p k s t)
    rw [List.foldl_cons]
    omega
theorem own_in (p : Pol) (g : Gd) (ts : List Ts) (k : Nat) : (st0 g k).1 ≤ (own p g ts k).1 ∧ (own p g ts k).2 ≤ (st0 g k).2 := foldO_in p k ts _
theorem cut_said (p : Pol) (k : Nat) : ∀ (ts : List Ts) (s : Int × Int), 1 ≤ s.1 → s.2 ≤ 200000 → cutL s (saidL p k ts) = ts.foldl (own1 p k) s
  | [], s, _, _ => rfl
  | t :: ts, s, h1, h2 => by
    have hi := own1_in p k s t
    have ih := cut_said p k ts (own1 p k s t) (by omega) (by omega)
    rw [List.foldl_cons, ← ih]
    unfold saidL
    by_cases hp : t.pole = p.id ∧ t.sec = (k : Int)
    · rw [List.filter_cons_of_pos (by simp [hp])]
      simp only [List.map_cons, cutL, List.foldl_cons]
      congr 1
      unfold own1 says cut1
      rw [if_pos hp]
      by_cases hh : t.held = true
      · simp only [hh, if_true]
        rw [show min s.2 200000 = s.2 by omega]
      · simp only [hh, Bool.false_eq_true, if_false]
        rw [show max s.1 1 = s.1 by omega]
    · rw [List.filter_cons_of_neg (by simpa using hp)]
      unfold own1
      rw [if_neg hp]

/-! ### All of one grade -/
/-- What all of one grade have in common, each one wider by the same number. -/
def nearG (g : Gd) (vary : Int) (ts : List Ts) (l : List Pol) (k : Nat) : Int × Int := l.foldl (fun s q => cut1 s (wid1 vary (own q g ts k))) (st0 g k)
def leftG (g : Gd) (vary : Int) (ts : List Ts) (l : List Pol) (k : Nat) (p : Pol) : Int × Int := cut1 (own p g ts k) (nearG g vary ts l k)
theorem leftG_span {gs : List Gd} {vary : Int} {ps : List Pol} {ts : List Ts} {p : Pol} {k : Nat} {g : Gd} (hg : ∀ q ∈ peers gs ps (gOf gs p), gAt gs q = g) (hp : gAt gs p = g) :
    leftG g vary ts (peers gs ps (gOf gs p)) k p = spanT gs vary ps ts p k := by
  unfold leftG nearG spanT
  have hin := own_in p g ts k
  have e : ∀ q ∈ peers gs ps (gOf gs p), ownP gs ts k q = own q g ts k := fun q hq => by unfold ownP; rw [hg q hq]
  have e2 : ownP gs ts k p = own p g ts k := by unfold ownP; rw [hp]
  rw [e2]
  refine pair_ext (fun x => ?_) (fun x => ?_)
  · rw [cut1_lo, foldC_lo, foldC_lo]
    constructor
    · rintro ⟨h1, -, h3⟩
      exact ⟨h1, fun q hq => by rw [e q hq]; exact h3 q hq⟩
    · rintro ⟨h1, h3⟩
      exact ⟨h1, by omega, fun q hq => by rw [← e q hq]; exact h3 q hq⟩
  · rw [cut1_hi, foldC_hi, foldC_hi]
    constructor
    · rintro ⟨h1, -, h3⟩
      exact ⟨h1, fun q hq => by rw [e q hq]; exact h3 q hq⟩
    · rintro ⟨h1, h3⟩
      exact ⟨h1, by omega, fun q hq => by rw [← e q hq]; exact h3 q hq⟩
theorem mem_peers {gs : List Gd} {ps : List Pol} {n : Nat} {q : Pol} : q ∈ peers gs ps n ↔ q ∈ ps ∧ gOf gs q = n := by simp [peers]
theorem gAt_peer {gs : List Gd} {ps : List Pol} {n : Nat} {q : Pol} (h : q ∈ peers gs ps n) : gAt gs q = (gs[n - 1]?).getD ⟨0, 0, 0, 0, 0, 0, 0, 0⟩ := by unfold gAt; rw [(mem_peers.1 h).2]
/-- Something is left of each pole that has a grade. -/
def leftAll (gs : List Gd) (vary : Int) (ps : List Pol) (ts : List Ts) : Bool :=
  ps.all fun p => gOf gs p == 0 || (List.range 3).all fun k => decide ((spanT gs vary ps ts p k).1 ≤ (spanT gs vary ps ts p k).2)
theorem truth_left {gs : List Gd} {vary : Int} {ps : List Pol} {ts : List Ts} (hv : 0 ≤ vary) : truth gs vary ps ts = leftAll gs vary ps ts := by
  have step : ∀ p ∈ ps, gOf gs p ≠ 0 → ∀ k, ((spanT gs vary ps ts p k).1 ≤ (spanT gs vary ps ts p k).2 ↔
      (ownP gs ts k p).1 ≤ (ownP gs ts k p).2 ∧ (∀ q ∈ peers gs ps (gOf gs p), (ownP gs ts k p).1 ≤ (ownP gs ts k q).2 + vary) ∧ (∀ q ∈ peers gs ps (gOf gs p), (ownP gs ts k q).1 - vary ≤ (ownP gs ts k p).2) ∧
      ∀ q ∈ peers gs ps (gOf gs p), ∀ r ∈ peers gs ps (gOf gs p), (ownP gs ts k q).1 - vary ≤ (ownP gs ts k r).2 + vary) := by
    intro p _ _ k
    have hlo : ∀ x, (spanT gs vary ps ts p k).1 ≤ x ↔ (ownP gs ts k p).1 ≤ x ∧ ∀ q ∈ peers gs ps (gOf gs p), (ownP gs ts k q).1 - vary ≤ x := fun x => foldC_lo (fun q => wid1 vary (ownP gs ts k q)) x _ _
    have hhi : ∀ x, x ≤ (spanT gs vary ps ts p k).2 ↔ x ≤ (ownP gs ts k p).2 ∧ ∀ q ∈ peers gs ps (gOf gs p), x ≤ (ownP gs ts k q).2 + vary := fun x => foldC_hi (fun q => wid1 vary (ownP gs ts k q)) x _ _
    rw [hlo]
    simp only [hhi]
    constructor
    · rintro ⟨⟨h1, h2⟩, h3⟩
      exact ⟨h1, h2, fun q hq => (h3 q hq).1, fun q hq r hr => (h3 q hq).2 r hr⟩
    · rintro ⟨h1, h2, h3, h4⟩
      exact ⟨⟨h1, h2⟩, fun q hq => ⟨h3 q hq, fun r hr => h4 q hq r hr⟩⟩
  rw [Bool.eq_iff_iff]
  unfold truth leftAll
  simp only [List.all_eq_true, List.mem_range, Bool.or_eq_true, beq_iff_eq, Bool.and_eq_true, decide_eq_true_eq, bne_iff_ne, ne_eq]
  constructor
  · intro h p hp
    by_cases h0 : gOf gs p = 0
    · exact .inl h0
    · refine .inr fun k hk => (step p hp h0 k).2 ?_
      have own_of : ∀ q ∈ peers gs ps (gOf gs p), (ownP gs ts k q).1 ≤ (ownP gs ts k q).2 ∧ ∀ r ∈ peers gs ps (gOf gs p), (ownP gs ts k q).1 ≤ (ownP gs ts k r).2 + vary := by
        intro q hq
        obtain ⟨hqp, hqg⟩ := mem_peers.1 hq
        rcases h q hqp k hk with h1 | ⟨h1, h2⟩
        · omega
        · refine ⟨h1, fun r hr => ?_⟩
          obtain ⟨hrp, hrg⟩ := mem_peers.1 hr
          rcases h2 r hrp with h3 | h3
          · omega
          · exact h3
      have hpp : p ∈ peers gs ps (gOf gs p) := mem_peers.2 ⟨hp, rfl⟩
      refine ⟨(own_of p hpp).1, (own_of p hpp).2, fun q hq => ?_, fun q hq r hr => ?_⟩
      · have := (own_of q hq).2 p hpp; omega
      · have := (own_of q hq).2 r hr; omega
  · intro h p hp k hk
    rcases h p hp with h0 | h1
    · exact .inl h0
    · by_cases h0 : gOf gs p = 0
      · exact .inl h0
      refine .inr ?_
      obtain ⟨a1, a2, a3, a4⟩ := (step p hp h0 k).1 (h1 k hk)
      refine ⟨a1, fun q hq => ?_⟩
      by_cases hqg : gOf gs q = gOf gs p
      · exact .inr (a2 q (mem_peers.2 ⟨hq, hqg⟩))
      · exact .inl hqg

/-! ### Fewer tests leave more -/
theorem own1_mono (p : Pol) (k : Nat) (t : Ts) {s o : Int × Int} (h1 : s.1 ≤ o.1) (h2 : o.2 ≤ s.2) : (own1 p k s t).1 ≤ (own1 p k o t).1 ∧ (own1 p k o t).2 ≤ (own1 p k s t).2 := by
  unfold own1
  split
  · split
    · simp only; omega
    · simp only; omega
  · exact ⟨h1, h2⟩
theorem foldO_mono (p : Pol) (k : Nat) : ∀ (ts us : List Ts) (s o : Int × Int), ts.Sublist us → s.1 ≤ o.1 → o.2 ≤ s.2 → (ts.foldl (own1 p k) s).1 ≤ (us.foldl (own1 p k) o).1 ∧ (us.foldl (own1 p k) o).2 ≤ (ts.foldl (own1 p k) s).2
  | _, _, s, o, .slnil, h1, h2 => ⟨h1, h2⟩
  | ts, u :: us, s, o, .cons _ h, h1, h2 => by
    have := own1_in p k o u
    rw [List.foldl_cons]
    exact foldO_mono p k ts us s (own1 p k o u) h (by omega) (by omega)
  | t :: ts, _ :: us, s, o, .cons_cons _ h, h1, h2 => by
    have := own1_mono p k t h1 h2
    rw [List.foldl_cons, List.foldl_cons]
    exact foldO_mono p k ts us _ _ h this.1 this.2
theorem truth_fewer {gs : List Gd} {vary : Int} {ps : List Pol} {ts us : List Ts} (hs : ts.Sublist us) (h : truth gs vary ps us = true) : truth gs vary ps ts = true := by
  have hm : ∀ p k, (ownP gs ts k p).1 ≤ (ownP gs us k p).1 ∧ (ownP gs us k p).2 ≤ (ownP gs ts k p).2 := fun p k => foldO_mono p k ts us _ _ hs (Int.le_refl _) (Int.le_refl _)
  unfold truth at h ⊢
  simp only [List.all_eq_true, List.mem_range, Bool.or_eq_true, beq_iff_eq, Bool.and_eq_true, decide_eq_true_eq, bne_iff_ne, ne_eq] at h ⊢
  intro p hp k hk
  rcases h p hp k hk with h0 | ⟨h1, h2⟩
  · exact .inl h0
  · refine .inr ⟨?_, fun q hq => ?_⟩
    · have := hm p k; omega
    · rcases h2 q hq with h3 | h3
      · exact .inl h3
      · refine .inr ?_
        have := hm p k
        have := hm q k
        omega

end Go.Proofs.Ytboffligjgjgjaa
