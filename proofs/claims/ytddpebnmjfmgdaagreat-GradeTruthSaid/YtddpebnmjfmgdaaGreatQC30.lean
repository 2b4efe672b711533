/-
  A test more, of one section of one pole (plain lists).
-/
import Derived.Test.YtddpebnmjfmgdaaGreatQC29
set_option linter.all false
namespace Go.Proofs.YtddpebnmjfmgdaaGreat
open Go.RowKit

theorem ownP_fewer {gs : List Gd} {ts us : List Ts} (hs : ts.Sublist us) (k : Nat) (p : Pol) : (ownP gs ts k p).1 ≤ (ownP gs us k p).1 ∧ (ownP gs us k p).2 ≤ (ownP gs ts k p).2 := foldO_mono p k ts us _ _ hs (Int.le_refl _) (Int.le_refl _)
theorem span_fewer {gs : List Gd} {vary : Int} {ps : List Pol} {ts us : List Ts} (hs : ts.Sublist us) (p : Pol) (k : Nat) : (spanT gs vary ps ts p k).1 ≤ (spanT gs vary ps us p k).1 ∧ (spanT gs vary ps us p k).2 ≤ (spanT gs vary ps ts p k).2 := by
  have hlo : ∀ (ts : List Ts) x, (spanT gs vary ps ts p k).1 ≤ x ↔ (ownP gs ts k p).1 ≤ x ∧ ∀ q ∈ peers gs ps (gOf gs p), (ownP gs ts k q).1 - vary ≤ x := fun ts x => foldC_lo (fun q => wid1 vary (ownP gs ts k q)) x _ _
  have hhi : ∀ (ts : List Ts) x, x ≤ (spanT gs vary ps ts p k).2 ↔ x ≤ (ownP gs ts k p).2 ∧ ∀ q ∈ peers gs ps (gOf gs p), x ≤ (ownP gs ts k q).2 + vary := fun ts x => foldC_hi (fun q => wid1 vary (ownP gs ts k q)) x _ _
  refine ⟨?_, ?_⟩
  · rw [hlo]
    obtain ⟨h1, h2⟩ := (hlo us _).1 (Int.le_refl _)
    refine ⟨?_, fun q hq => ?_⟩
    · have := ownP_fewer (gs := gs) hs k p; omega
    · have := ownP_fewer (gs := gs) hs k q; have := h2 q hq; omega
  · rw [hhi]
    obtain ⟨h1, h2⟩ := (hhi us _).1 (Int.le_refl _)
    refine ⟨?_, fun q hq => ?_⟩
    · have := ownP_fewer (gs := gs) hs k p; omega
    · have := ownP_fewer (gs := gs) hs k q; have := h2 q hq; omega
theorem bears_mono {p : Pol} {k : Nat} (h : 0 ≤ ar p k) {s t : Int} (hst : s ≤ t) : bears p k s ≤ bears p k t := by
  unfold bears
  have h1 : s * ar p k ≤ t * ar p k := Int.mul_le_mul_of_nonneg_right hst h
  have h2 : s * ar p k / 1000 ≤ t * ar p k / 1000 := Int.ediv_le_ediv (by decide) h1
  omega
theorem ownP_nil (gs : List Gd) (k : Nat) (p : Pol) : ownP gs [] k p = st0 (gAt gs p) k := rfl
theorem span_nil {gs : List Gd} {vary : Int} {ps : List Pol} (hv : 0 ≤ vary) (p : Pol) (k : Nat) : spanT gs vary ps [] p k = st0 (gAt gs p) k := by
  have key : ∀ (l : List Pol), (∀ q ∈ l, gAt gs q = gAt gs p) → l.foldl (fun s q => cut1 s (wid1 vary (ownP gs [] k q))) (st0 (gAt gs p) k) = st0 (gAt gs p) k := by
    intro l
    induction l with
    | nil => intro _; rfl
    | cons q l ih =>
      intro h
      rw [List.foldl_cons, ownP_nil, h q (by simp)]
      have e : cut1 (st0 (gAt gs p) k) (wid1 vary (st0 (gAt gs p) k)) = st0 (gAt gs p) k := by
        refine Prod.ext ?_ ?_
        · simp only [cut1, wid1]; omega
        · simp only [cut1, wid1]; omega
      rw [e]
      exact ih (fun q hq => h q (by simp [hq]))
  unfold spanT
  rw [ownP_nil]
  refine key _ (fun q hq => ?_)
  unfold gAt
  rw [(mem_peers.1 hq).2]
theorem okGds_st : ∀ (l : List Gd) (a v : Int), okGds l a v = true → ∀ g ∈ l, ∀ k, k < 3 → (st0 g k).1 ≤ (st0 g k).2
  | [], _, _, _ => fun g hg => by cases hg
  | g :: l, a, v, h => by
    simp only [okGds, Bool.and_eq_true] at h
    intro x hx k hk
    rcases List.mem_cons.1 hx with rfl | hx
    · have h1 := h.1
      simp only [okGd, okSt, Bool.and_eq_true, decide_eq_true_eq] at h1
      obtain ⟨_, _, ⟨a1, _⟩, ⟨a2, _⟩, a3, _⟩ := h1
      unfold st0
      split
      · exact a1
      · split
        · exact a2
        · exact a3
    · exact okGds_st l _ _ h.2 x hx k hk
theorem gAt_mem_of {gs : List Gd} {p : Pol} (h : gOf gs p ≠ 0) : gAt gs p ∈ gs := by
  have hl := gOf_le gs p
  unfold gAt
  have hi : gOf gs p - 1 < gs.length := by omega
  rw [List.getElem?_eq_getElem hi]
  exact List.getElem_mem hi
theorem truth_nil {gs : List Gd} {vary : Int} {ps : List Pol} (hg : okGrading gs vary = true) : truth gs vary ps [] = true := by
  simp only [okGrading, Bool.and_eq_true, inR_iff] at hg
  have hst := okGds_st gs 0 1 hg.2.2
  unfold truth
  simp only [List.all_eq_true, List.mem_range, Bool.or_eq_true, beq_iff_eq, Bool.and_eq_true, decide_eq_true_eq, bne_iff_ne, ne_eq]
  intro p _ k hk
  by_cases h0 : gOf gs p = 0
  · exact .inl h0
  · have h1 := hst _ (gAt_mem_of h0) k hk
    refine .inr ⟨h1, fun q _ => ?_⟩
    by_cases he : gOf gs q = gOf gs p
    · refine .inr ?_
      have e : gAt gs q = gAt gs p := by unfold gAt; rw [he]
      rw [ownP_nil, ownP_nil, e]
      have := hg.2.1
      omega
    · exact .inl he
theorem fnd_self {ps : List Pol} (hu : Up ps) {p : Pol} (hp : p ∈ ps) : hasPol ps p.id = true ∧ fndP ps p.id = p := by
  have hh : hasPol ps p.id = true := by simp only [hasPol, List.any_eq_true, decide_eq_true_eq]; exact ⟨p, hp, rfl⟩
  refine ⟨hh, ?_⟩
  rcases at_cases ps p.id with ⟨h, _⟩ | ⟨i, _, _, hi, e⟩
  · rw [hh] at h; cases h
  · have h1 : ps[i] ∈ ps := List.getElem_mem hi
    have h2 : ps[i].id = p.id := by
      rw [e]
      unfold fndP
      cases hf : ps.find? (fun q => decide (q.id = p.id)) with
      | none => rw [List.find?_eq_none] at hf; exact absurd (by simp) (hf p hp)
      | some q => simpa using List.find?_some hf
    rw [← e]
    exact hu.inj h1 hp h2
/-- What the law asks of a pole, a section, all tests and some of them. -/
theorem sStr_at {gs : List Gd} {vary : Int} {ps : List Pol} {ts : List Ts} (h : gChk gs vary ps ts = 0) {p : Pol} (hp : p ∈ ps) {k : Nat} (hk : k < 3) : sStr gs vary ps ts p.id k =
    if gOf gs p = 0 then ((0, 0), 8) else if truth gs vary ps ts = true then ((bears p k (spanT gs vary ps ts p k).1, bears p k (spanT gs vary ps ts p k).2), 0) else ((0, 0), 52) := by
  obtain ⟨h1, h2⟩ := fnd_self (grOk_of h).up hp
  have hr : inR (k : Int) 0 2 = true := inR_iff.2 (by omega)
  unfold sStr
  rw [if_pos h, if_pos h1, if_pos hr, h2, Int.toNat_natCast]
theorem sGrade_at {gs : List Gd} {vary : Int} {ps : List Pol} {ts : List Ts} (h : gChk gs vary ps ts = 0) {p : Pol} (hp : p ∈ ps) : sGrade gs vary ps ts p.id = (((gOf gs p : Nat) : Int), 0) := by
  obtain ⟨h1, h2⟩ := fnd_self (grOk_of h).up hp
  unfold sGrade
  rw [if_pos h, if_pos h1, h2]
theorem sClash_nil {gs : List Gd} {vary : Int} {ps : List Pol} {ts : List Ts} (h : gChk gs vary ps ts = 0) (ht : truth gs vary ps ts = true) : sClash gs vary ps ts = ([], 0) := by
  unfold sClash
  rw [if_pos h, clash_none ht]

end Go.Proofs.YtddpebnmjfmgdaaGreat

namespace Go.Proofs.YtddpebnmjfmgdaaGreat
open Go.RowKit

theorem own1_lo (p : Pol) (k : Nat) (s s' : Int × Int) (u : Ts) : (own1 p k s' u).1 ≤ s'.1 ∨ (own1 p k s' u).1 ≤ (own1 p k s u).1 := by
  unfold own1
  split
  · split
    · simp only; omega
    · simp only; omega
  · omega
theorem own1_hi (p : Pol) (k : Nat) (s s' : Int × Int) (u : Ts) : s'.2 ≤ (own1 p k s' u).2 ∨ (own1 p k s u).2 ≤ (own1 p k s' u).2 := by
  unfold own1
  split
  · split
    · simp only; omega
    · simp only; omega
  · omega
theorem fold_lo (p : Pol) (k : Nat) : ∀ (ts : List Ts) (s : Int × Int), (ts.foldl (own1 p k) s).1 ≤ s.1 ∨ ∃ t ∈ ts, (ts.foldl (own1 p k) s).1 ≤ (own1 p k s t).1
  | [], s => .inl (Int.le_refl _)
  | t :: ts, s => by
    rw [List.foldl_cons]
    rcases fold_lo p k ts (own1 p k s t) with h | ⟨u, hu, h⟩
    · exact .inr ⟨t, List.mem_cons_self, h⟩
    · rcases own1_lo p k s (own1 p k s t) u with h2 | h2
      · exact .inr ⟨t, List.mem_cons_self, by omega⟩
      · exact .inr ⟨u, List.mem_cons_of_mem _ hu, by omega⟩
theorem fold_hi (p : Pol) (k : Nat) : ∀ (ts : List Ts) (s : Int × Int), s.2 ≤ (ts.foldl (own1 p k) s).2 ∨ ∃ t ∈ ts, (own1 p k s t).2 ≤ (ts.foldl (own1 p k) s).2
  | [], s => .inl (Int.le_refl _)
  | t :: ts, s => by
    rw [List.foldl_cons]
    rcases fold_hi p k ts (own1 p k s t) with h | ⟨u, hu, h⟩
    · exact .inr ⟨t, List.mem_cons_self, h⟩
    · rcases own1_hi p k s (own1 p k s t) u with h2 | h2
      · exact .inr ⟨t, List.mem_cons_self, by omega⟩
      · exact .inr ⟨u, List.mem_cons_of_mem _ hu, by omega⟩
theorem truth_two {gs : List Gd} {vary : Int} {ps : List Pol} {ts : List Ts} (h0 : truth gs vary ps [] = true)
    (h2 : ∀ t ∈ ts, ∀ u ∈ ts, ∃ T : List Ts, truth gs vary ps T = true ∧ [t].Sublist T ∧ [u].Sublist T) : truth gs vary ps ts = true := by
  have key : ∀ p q k, ∃ T : List Ts, truth gs vary ps T = true ∧ (ownP gs ts k p).1 ≤ (ownP gs T k p).1 ∧ (ownP gs T k q).2 ≤ (ownP gs ts k q).2 := by
    intro p q k
    have lo : ∀ (T : List Ts) (t : Ts), [t].Sublist T → (own1 p k (st0 (gAt gs p) k) t).1 ≤ (ownP gs T k p).1 := fun T t h => (foldO_mono p k [t] T _ _ h (Int.le_refl _) (Int.le_refl _)).1
    have hi : ∀ (T : List Ts) (t : Ts), [t].Sublist T → (ownP gs T k q).2 ≤ (own1 q k (st0 (gAt gs q) k) t).2 := fun T t h => (foldO_mono q k [t] T _ _ h (Int.le_refl _) (Int.le_refl _)).2
    have lo0 : ∀ T : List Ts, (st0 (gAt gs p) k).1 ≤ (ownP gs T k p).1 := fun T => (foldO_mono p k [] T _ _ (List.nil_sublist _) (Int.le_refl _) (Int.le_refl _)).1
    have hi0 : ∀ T : List Ts, (ownP gs T k q).2 ≤ (st0 (gAt gs q) k).2 := fun T => (foldO_mono q k [] T _ _ (List.nil_sublist _) (Int.le_refl _) (Int.le_refl _)).2
    rcases fold_lo p k ts (st0 (gAt gs p) k) with a | ⟨t, ht, a⟩ <;> rcases fold_hi q k ts (st0 (gAt gs q) k) with b | ⟨u, hu, b⟩
    · exact ⟨[], h0, Int.le_trans a (lo0 _), Int.le_trans (hi0 _) b⟩
    · obtain ⟨T, hT, s1, -⟩ := h2 u hu u hu
      exact ⟨T, hT, Int.le_trans a (lo0 _), Int.le_trans (hi _ _ s1) b⟩
    · obtain ⟨T, hT, s1, -⟩ := h2 t ht t ht
      exact ⟨T, hT, Int.le_trans a (lo _ _ s1), Int.le_trans (hi0 _) b⟩
    · obtain ⟨T, hT, s1, s2⟩ := h2 t ht u hu
      exact ⟨T, hT, Int.le_trans a (lo _ _ s1), Int.le_trans (hi _ _ s2) b⟩
  unfold truth
  simp only [List.all_eq_true, List.mem_range, Bool.or_eq_true, beq_iff_eq, Bool.and_eq_true, decide_eq_true_eq, bne_iff_ne, ne_eq]
  intro p hp k hk
  by_cases hg : gOf gs p = 0
  · exact .inl hg
  have use : ∀ T : List Ts, truth gs vary ps T = true → (ownP gs T k p).1 ≤ (ownP gs T k p).2 ∧ ∀ q ∈ ps, ¬ gOf gs q = gOf gs p ∨ (ownP gs T k p).1 ≤ (ownP gs T k q).2 + vary := by
    intro T hT
    unfold truth at hT
    simp only [List.all_eq_true, List.mem_range, Bool.or_eq_true, beq_iff_eq, Bool.and_eq_true, decide_eq_true_eq, bne_iff_ne, ne_eq] at hT
    rcases hT p hp k hk with h | h
    · exact absurd h hg
    · exact h
  refine .inr ⟨?_, fun q hq => ?_⟩
  · obtain ⟨T, hT, a, b⟩ := key p p k
    have := (use T hT).1
    omega
  · obtain ⟨T, hT, a, b⟩ := key p q k
    rcases (use T hT).2 q hq with h | h
    · exact .inl h
    · exact .inr (by omega)
theorem pairF_none_at {bad : Nat → Nat → Bool} {n : Nat} (h : pairF bad n = none) : ∀ i, i < n → ∀ k, k < n → bad i k = false := by
  intro i hi k hk
  unfold pairF at h
  rw [List.find?_eq_none] at h
  have := h (i, k) (List.mem_flatMap.2 ⟨i, List.mem_range.2 hi, List.mem_map.2 ⟨k, List.mem_range.2 hk, rfl⟩⟩)
  simpa using this
/-- Tests that allow no truth clash. -/
theorem clash_some {gs : List Gd} {vary : Int} {ps : List Pol} {ts : List Ts} (h0 : truth gs vary ps [] = true) (h : truth gs vary ps ts = false) : clashL gs vary ps ts ≠ [] := by
  intro hc
  unfold clashL at hc
  split at hc
  · cases hc
  · rename_i hf
    unfold pairL at hc
    split at hc
    · cases hc
    · rename_i hp
      rw [List.find?_eq_none] at hf
      have hp := pairF_none_at hp
      have h1 : ∀ t ∈ ts, truth gs vary ps [t] = true := fun t ht => by have := hf t ht; simpa [oneBad] using this
      have ht : truth gs vary ps ts = true := truth_two h0 (by
        intro t ht u hu
        obtain ⟨i, hi, rfl⟩ := List.getElem_of_mem ht
        obtain ⟨k, hk, rfl⟩ := List.getElem_of_mem hu
        rcases Nat.lt_trichotomy i k with hik | hik | hik
        · have hb := hp i hi k hk
          rw [badT_at hi hk, decide_eq_true hik, Bool.true_and] at hb
          exact ⟨[ts[i], ts[k]], by simpa using hb, List.singleton_sublist.2 (by simp), List.singleton_sublist.2 (by simp)⟩
        · subst hik
          exact ⟨[ts[i]], h1 _ ht, List.Sublist.refl _, List.Sublist.refl _⟩
        · have hb := hp k hk i hi
          rw [badT_at hk hi, decide_eq_true hik, Bool.true_and] at hb
          exact ⟨[ts[k], ts[i]], by simpa using hb, List.singleton_sublist.2 (by simp), List.singleton_sublist.2 (by simp)⟩)
      rw [ht] at h
      cases h

end Go.Proofs.YtddpebnmjfmgdaaGreat

namespace Go.Proofs.YtddpebnmjfmgdaaGreat
open Go.RowKit

/-- The tests that bear one of the numbers. -/
def subT (ts : List Ts) (ids : List Int) : List Ts := ts.flatMap fun x => (ids.filter fun d => decide (x.id = d)).map fun _ => x
def UpT (ts : List Ts) : Prop := ts.Pairwise fun a b => a.id < b.id
theorem subT_cons (x : Ts) (l : List Ts) (ids : List Int) : subT (x :: l) ids = ((ids.filter fun d => decide (x.id = d)).map fun _ => x) ++ subT l ids := by simp [subT]
theorem subT_drop {l : List Ts} {a : Int} {ids : List Int} (h : ∀ y ∈ l, y.id ≠ a) : subT l (a :: ids) = subT l ids := by
  induction l with
  | nil => rfl
  | cons x l ih =>
    rw [subT_cons, subT_cons, ih (fun y hy => h y (List.mem_cons_of_mem _ hy))]
    have := h x List.mem_cons_self
    simp [this]
theorem subT_nil (l : List Ts) : subT l [] = [] := by
  induction l with
  | nil => rfl
  | cons x l ih => rw [subT_cons, ih]; rfl
theorem subT_one : ∀ (ts : List Ts) (i : Nat) (hi : i < ts.length), UpT ts → subT ts [ts[i].id] = [ts[i]]
  | x :: l, 0, _, h => by
    have h1 := (List.pairwise_cons.1 h).1
    have h2 : ∀ y ∈ l, y.id ≠ x.id := fun y hy => by have := h1 y hy; omega
    rw [subT_cons]
    simp only [List.getElem_cons_zero]
    rw [subT_drop h2, subT_nil]
    simp
  | x :: l, i + 1, hi, h => by
    have hl : i < l.length := by simpa using hi
    have h1 := (List.pairwise_cons.1 h).1 l[i] (List.getElem_mem hl)
    have ih := subT_one l i hl (List.pairwise_cons.1 h).2
    rw [subT_cons]
    simp only [List.getElem_cons_succ]
    rw [ih]
    have : ¬ x.id = l[i].id := by omega
    simp [this]
theorem subT_two : ∀ (ts : List Ts) (i k : Nat) (hk : k < ts.length) (hik : i < k), UpT ts → subT ts [ts[i].id, ts[k].id] = [ts[i], ts[k]]
  | x :: l, 0, k + 1, hk, _, h => by
    have hl : k < l.length := by simpa using hk
    have h1 := (List.pairwise_cons.1 h).1
    have h2 : ∀ y ∈ l, y.id ≠ x.id := fun y hy => by have := h1 y hy; omega
    have h3 := h1 l[k] (List.getElem_mem hl)
    rw [subT_cons]
    simp only [List.getElem_cons_zero, List.getElem_cons_succ]
    rw [subT_drop h2, subT_one l k hl (List.pairwise_cons.1 h).2]
    have : ¬ x.id = l[k].id := by omega
    simp [this]
  | x :: l, i + 1, k + 1, hk, hik, h => by
    have hl : k < l.length := by simpa using hk
    have h1 := (List.pairwise_cons.1 h).1
    have ih := subT_two l i k hl (by omega) (List.pairwise_cons.1 h).2
    have a1 := h1 l[i] (List.getElem_mem (by omega))
    have a2 := h1 l[k] (List.getElem_mem hl)
    rw [subT_cons]
    simp only [List.getElem_cons_succ]
    rw [ih]
    have b1 : ¬ x.id = l[i].id := by omega
    have b2 : ¬ x.id = l[k].id := by omega
    simp [b1, b2]
theorem byIdL_upT (ok : Ts → Bool) : ∀ (ts : List Ts) (n : Int), byIdL Ts.id ok ts n = true → UpT ts ∧ ∀ p ∈ ts, n ≤ p.id ∧ p.id ≤ 9999 ∧ ok p = true
  | [], _, _ => ⟨.nil, fun _ h => by cases h⟩
  | p :: ps, n, h => by
    simp only [byIdL, Bool.and_eq_true, inR_iff] at h
    obtain ⟨i1, i2⟩ := byIdL_upT ok ps _ h.2.2
    refine ⟨List.pairwise_cons.2 ⟨fun q hq => by have := (i2 q hq).1; omega, i1⟩, fun q hq => ?_⟩
    rcases List.mem_cons.1 hq with rfl | hq
    · exact ⟨h.1.1, h.1.2, h.2.1⟩
    · have := i2 q hq
      exact ⟨by omega, this.2⟩
theorem byId_sub {α : Type} {id : α → Int} {ok : α → Bool} {l r : List α} (hs : l.Sublist r) : ∀ (n m : Int), m ≤ n → byIdL id ok r n = true → byIdL id ok l m = true := by
  induction hs with
  | slnil => intro n m _ _; rfl
  | cons x _ ih =>
    intro n m hm h
    simp only [byIdL, Bool.and_eq_true, inR_iff] at h
    exact ih (id x + 1) m (by omega) h.2.2
  | cons_cons x _ ih =>
    intro n m hm h
    simp only [byIdL, Bool.and_eq_true, inR_iff] at h ⊢
    exact ⟨⟨by omega, h.1.2⟩, h.2.1, ih _ _ (Int.le_refl _) h.2.2⟩
theorem gChk_sub {gs : List Gd} {vary : Int} {ps : List Pol} {ts us : List Ts} (hs : us.Sublist ts) (h : gChk gs vary ps ts = 0) : gChk gs vary ps us = 0 := by
  obtain ⟨h1, h2⟩ := gChk_ok h
  simp only [okSheet, okTsL, Bool.and_eq_true, decide_eq_true_eq] at h2
  have hl := hs.length_le
  unfold gChk
  rw [if_pos h1, if_pos]
  simp only [okSheet, okTsL, Bool.and_eq_true, decide_eq_true_eq]
  exact ⟨h2.1, by omega, byId_sub hs _ _ (Int.le_refl _) h2.2.2⟩
theorem gChk_upT {gs : List Gd} {vary : Int} {ps : List Pol} {ts : List Ts} (h : gChk gs vary ps ts = 0) : UpT ts := by
  obtain ⟨h1, h2⟩ := gChk_ok h
  simp only [okSheet, okTsL, Bool.and_eq_true, decide_eq_true_eq] at h2
  exact (byIdL_upT _ _ _ h2.2.2).1
theorem pairF_first {bad : Nat → Nat → Bool} {n i k : Nat} (h : pairF bad n = some (i, k)) : i < n ∧ k < n ∧ bad i k = true ∧ ∀ a, a < n → ∀ b, b < n → bad a b = true → i < a ∨ (i = a ∧ k ≤ b) := by
  unfold pairF at h
  have hord : ((List.range n).flatMap fun i => (List.range n).map fun k => (i, k)).Pairwise fun p q : Nat × Nat => p.1 < q.1 ∨ (p.1 = q.1 ∧ p.2 < q.2) := by
    rw [List.pairwise_flatMap]
    refine ⟨fun a _ => ?_, ?_⟩
    · rw [List.pairwise_map]
      exact List.pairwise_lt_range.imp fun {x y} hxy => .inr ⟨rfl, hxy⟩
    · refine List.pairwise_lt_range.imp fun {x y} hxy => ?_
      intro p hp q hq
      obtain ⟨_, _, rfl⟩ := List.mem_map.1 hp
      obtain ⟨_, _, rfl⟩ := List.mem_map.1 hq
      exact .inl hxy
  have hm := List.mem_of_find?_eq_some h
  obtain ⟨i', hi, hm⟩ := List.mem_flatMap.1 hm
  obtain ⟨k', hk, e⟩ := List.mem_map.1 hm
  simp only [Prod.mk.injEq] at e
  obtain ⟨rfl, rfl⟩ := e
  have hb := List.find?_some h
  refine ⟨List.mem_range.1 hi, List.mem_range.1 hk, hb, fun a ha b hb' hab => ?_⟩
  obtain ⟨_, la, lb, he, hn⟩ := List.find?_eq_some_iff_append.1 h
  have hin : (a, b) ∈ (List.range n).flatMap fun i => (List.range n).map fun k => (i, k) := List.mem_flatMap.2 ⟨a, List.mem_range.2 ha, List.mem_map.2 ⟨b, List.mem_range.2 hb', rfl⟩⟩
  rw [he] at hin hord
  rcases List.mem_append.1 hin with h1 | h1
  · have := hn _ h1
    simp [hab] at this
  · rcases List.mem_cons.1 h1 with h2 | h2
    · simp only [Prod.mk.injEq] at h2
      exact .inr ⟨h2.1.symm, by omega⟩
    · have := (List.pairwise_cons.1 (List.pairwise_append.1 hord).2.1).1 _ h2
      simp only at this
      rcases this with h3 | h3
      · exact .inl h3
      · exact .inr ⟨h3.1, by omega⟩
/-- What Clash tells, in three cases. -/
theorem clash_cases {gs : List Gd} {vary : Int} {ps : List Pol} {ts : List Ts} (h0 : truth gs vary ps [] = true) :
    (truth gs vary ps ts = true ∧ clashL gs vary ps ts = []) ∨
    (truth gs vary ps ts = false ∧ ∃ i, ∃ hi : i < ts.length, clashL gs vary ps ts = [ts[i].id] ∧ truth gs vary ps [ts[i]] = false ∧ ∀ j, ∀ hj : j < ts.length, truth gs vary ps [ts[j]] = false → i ≤ j) ∨
    (truth gs vary ps ts = false ∧ ∃ i k, ∃ hk : k < ts.length, ∃ hik : i < k, clashL gs vary ps ts = [ts[i].id, ts[k].id] ∧ truth gs vary ps [ts[i], ts[k]] = false ∧ (∀ t ∈ ts, truth gs vary ps [t] = true) ∧
      ∀ a b, ∀ hb : b < ts.length, ∀ hab : a < b, truth gs vary ps [ts[a], ts[b]] = false → i < a ∨ (i = a ∧ k ≤ b)) := by
  cases ht : truth gs vary ps ts
  · have hne := clash_some h0 ht
    refine .inr ?_
    cases hf : ts.find? (oneBad gs vary ps) with
    | some t =>
      refine .inl ⟨rfl, ?_⟩
      obtain ⟨hb, i, hi, e, hfi⟩ := List.find?_eq_some_iff_getElem.1 hf
      refine ⟨i, hi, ?_, ?_, fun j hj hbad => ?_⟩
      · simp only [clashL, hf, e]
      · rw [e]; simpa [oneBad] using hb
      · refine Nat.le_of_not_lt fun hlt => ?_
        have := hfi j hlt
        simp [oneBad, hbad] at this
    | none =>
      refine .inr ⟨rfl, ?_⟩
      cases hp : pairF (badT gs vary ps ts) ts.length with
      | none => exact absurd (by simp only [clashL, hf, pairL, hp]) hne
      | some p =>
        obtain ⟨i, k⟩ := p
        obtain ⟨hi, hk, hb, hfirst⟩ := pairF_first hp
        rw [badT_at hi hk] at hb
        simp only [Bool.and_eq_true, decide_eq_true_eq, Bool.not_eq_true'] at hb
        refine ⟨i, k, hk, hb.1, ?_, hb.2, fun t ht => ?_, fun a b hb' hab hbad => ?_⟩
        · simp only [clashL, hf, pairL, hp, idAt, List.getElem?_eq_getElem hi, List.getElem?_eq_getElem hk, Option.map_some, Option.getD_some]
        · rw [List.find?_eq_none] at hf
          have := hf t ht
          simpa [oneBad] using this
        · refine hfirst a (by omega) b hb' ?_
          rw [badT_at (by omega) hb', hbad, decide_eq_true hab]
          rfl
  · exact .inl ⟨rfl, clash_none ht⟩

end Go.Proofs.YtddpebnmjfmgdaaGreat

namespace Go.Proofs.YtddpebnmjfmgdaaGreat
open Go.RowKit

theorem ownP_add (gs : List Gd) (ts : List Ts) (t : Ts) (k : Nat) (q : Pol) : ownP gs (ts ++ [t]) k q = own1 q k (ownP gs ts k q) t := by
  unfold ownP own
  rw [List.foldl_append]
  rfl
theorem span_lo {gs : List Gd} {vary : Int} {ps : List Pol} {ts : List Ts} {p : Pol} {k : Nat} (x : Int) : (spanT gs vary ps ts p k).1 ≤ x ↔ (ownP gs ts k p).1 ≤ x ∧ ∀ q ∈ peers gs ps (gOf gs p), (ownP gs ts k q).1 - vary ≤ x := foldC_lo (fun q => wid1 vary (ownP gs ts k q)) x _ _
theorem span_hi {gs : List Gd} {vary : Int} {ps : List Pol} {ts : List Ts} {p : Pol} {k : Nat} (x : Int) : x ≤ (spanT gs vary ps ts p k).2 ↔ x ≤ (ownP gs ts k p).2 ∧ ∀ q ∈ peers gs ps (gOf gs p), x ≤ (ownP gs ts k q).2 + vary := foldC_hi (fun q => wid1 vary (ownP gs ts k q)) x _ _
theorem truth_iff {gs : List Gd} {vary : Int} {ps : List Pol} {ts : List Ts} : truth gs vary ps ts = true ↔ ∀ p ∈ ps, gOf gs p ≠ 0 → ∀ k, k < 3 → (ownP gs ts k p).1 ≤ (ownP gs ts k p).2 ∧ ∀ q ∈ peers gs ps (gOf gs p), (ownP gs ts k p).1 ≤ (ownP gs ts k q).2 + vary := by
  unfold truth
  simp only [List.all_eq_true, List.mem_range, Bool.or_eq_true, beq_iff_eq, Bool.and_eq_true, decide_eq_true_eq, bne_iff_ne, ne_eq, mem_peers]
  constructor
  · intro h p hp h0 k hk
    rcases h p hp k hk with h1 | h1
    · exact absurd h1 h0
    · refine ⟨h1.1, fun q hq => ?_⟩
      rcases h1.2 q hq.1 with h2 | h2
      · exact absurd hq.2 h2
      · exact h2
  · intro h p hp k hk
    by_cases h0 : gOf gs p = 0
    · exact .inl h0
    · obtain ⟨h1, h2⟩ := h p hp h0 k hk
      refine .inr ⟨h1, fun q hq => ?_⟩
      by_cases he : gOf gs q = gOf gs p
      · exact .inr (h2 q ⟨hq, he⟩)
      · exact .inl he
section
variable {gs : List Gd} {vary : Int} {ps : List Pol} {ts : List Ts} {p : Pol} {k : Nat} {id f : Int}
theorem add_other {h : Bool} (hu : Up ps) (hp : p ∈ ps) {q : Pol} (hq : q ∈ ps) {j : Nat} (hne : ¬ (q = p ∧ j = k)) : ownP gs (ts ++ [⟨id, p.id, k, f, h⟩]) j q = ownP gs ts j q := by
  rw [ownP_add]
  unfold own1
  refine if_neg fun e => hne ⟨hu.inj hq hp e.1.symm, ?_⟩
  have := e.2
  simp only at this
  omega
theorem add_held : ownP gs (ts ++ [⟨id, p.id, k, f, true⟩]) k p = (max (ownP gs ts k p).1 (needN (ar p k) f), (ownP gs ts k p).2) := by
  rw [ownP_add]
  unfold own1
  rw [if_pos ⟨rfl, rfl⟩, if_pos rfl]
theorem add_broke : ownP gs (ts ++ [⟨id, p.id, k, f, false⟩]) k p = ((ownP gs ts k p).1, min (ownP gs ts k p).2 (needN (ar p k) f - 1)) := by
  rw [ownP_add]
  unfold own1
  rw [if_pos ⟨rfl, rfl⟩, if_neg (by simp)]
/-- What a test that held leaves of the span. -/
theorem span_held (hu : Up ps) (hp : p ∈ ps) (hv : 0 ≤ vary) : spanT gs vary ps (ts ++ [⟨id, p.id, k, f, true⟩]) p k = (max (spanT gs vary ps ts p k).1 (needN (ar p k) f), (spanT gs vary ps ts p k).2) := by
  refine pair_ext (fun x => ?_) (fun x => ?_)
  · have e : (max (spanT gs vary ps ts p k).1 (needN (ar p k) f) ≤ x) ↔ (spanT gs vary ps ts p k).1 ≤ x ∧ needN (ar p k) f ≤ x := by omega
    simp only
    rw [e, span_lo, span_lo, add_held]
    constructor
    · rintro ⟨h1, h2⟩
      simp only at h1
      refine ⟨⟨by omega, fun q hq => ?_⟩, by omega⟩
      by_cases hqp : q = p
      · subst hqp; omega
      · have := h2 q hq
        rw [add_other hu hp (mem_peers.1 hq).1 (fun e => hqp e.1)] at this
        exact this
    · rintro ⟨⟨h1, h2⟩, h3⟩
      simp only
      refine ⟨by omega, fun q hq => ?_⟩
      by_cases hqp : q = p
      · subst hqp
        rw [add_held]
        simp only
        omega
      · rw [add_other hu hp (mem_peers.1 hq).1 (fun e => hqp e.1)]
        exact h2 q hq
  · simp only
    rw [span_hi, span_hi, add_held]
    have e : ∀ q ∈ peers gs ps (gOf gs p), (ownP gs (ts ++ [⟨id, p.id, k, f, true⟩]) k q).2 = (ownP gs ts k q).2 := fun q hq => by
      by_cases hqp : q = p
      · subst hqp; rw [add_held]
      · rw [add_other hu hp (mem_peers.1 hq).1 (fun e => hqp e.1)]
    constructor
    · rintro ⟨h1, h2⟩
      exact ⟨h1, fun q hq => by have := h2 q hq; rw [e q hq] at this; exact this⟩
    · rintro ⟨h1, h2⟩
      exact ⟨h1, fun q hq => by rw [e q hq]; exact h2 q hq⟩
/-- What a test that broke leaves of the span. -/
theorem span_broke (hu : Up ps) (hp : p ∈ ps) (hv : 0 ≤ vary) : spanT gs vary ps (ts ++ [⟨id, p.id, k, f, false⟩]) p k = ((spanT gs vary ps ts p k).1, min (spanT gs vary ps ts p k).2 (needN (ar p k) f - 1)) := by
  refine pair_ext (fun x => ?_) (fun x => ?_)
  · simp only
    rw [span_lo, span_lo, add_broke]
    have e : ∀ q ∈ peers gs ps (gOf gs p), (ownP gs (ts ++ [⟨id, p.id, k, f, false⟩]) k q).1 = (ownP gs ts k q).1 := fun q hq => by
      by_cases hqp : q = p
      · subst hqp; rw [add_broke]
      · rw [add_other hu hp (mem_peers.1 hq).1 (fun e => hqp e.1)]
    constructor
    · rintro ⟨h1, h2⟩
      exact ⟨h1, fun q hq => by have := h2 q hq; rw [e q hq] at this; exact this⟩
    · rintro ⟨h1, h2⟩
      exact ⟨h1, fun q hq => by rw [e q hq]; exact h2 q hq⟩
  · have e : (x ≤ min (spanT gs vary ps ts p k).2 (needN (ar p k) f - 1)) ↔ x ≤ (spanT gs vary ps ts p k).2 ∧ x ≤ needN (ar p k) f - 1 := by omega
    simp only
    rw [e, span_hi, span_hi, add_broke]
    constructor
    · rintro ⟨h1, h2⟩
      simp only at h1
      refine ⟨⟨by omega, fun q hq => ?_⟩, by omega⟩
      by_cases hqp : q = p
      · subst hqp; omega
      · have := h2 q hq
        rw [add_other hu hp (mem_peers.1 hq).1 (fun e => hqp e.1)] at this
        exact this
    · rintro ⟨⟨h1, h2⟩, h3⟩
      simp only
      refine ⟨by omega, fun q hq => ?_⟩
      by_cases hqp : q = p
      · subst hqp
        rw [add_broke]
        simp only
        omega
      · rw [add_other hu hp (mem_peers.1 hq).1 (fun e => hqp e.1)]
        exact h2 q hq
theorem truth_held (hu : Up ps) (hp : p ∈ ps) (hv : 0 ≤ vary) (h0 : gOf gs p ≠ 0) (hk : k < 3) (ht : truth gs vary ps ts = true) : truth gs vary ps (ts ++ [⟨id, p.id, k, f, true⟩]) = decide (needN (ar p k) f ≤ (spanT gs vary ps ts p k).2) := by
  rw [truth_iff] at ht
  have e2 : ∀ q ∈ ps, ∀ j, (ownP gs (ts ++ [⟨id, p.id, k, f, true⟩]) j q).2 = (ownP gs ts j q).2 := fun q hq j => by
    by_cases hqp : q = p ∧ j = k
    · obtain ⟨rfl, rfl⟩ := hqp; rw [add_held]
    · rw [add_other hu hp hq hqp]
  rw [Bool.eq_iff_iff, decide_eq_true_eq, truth_iff, span_hi]
  constructor
  · intro h
    obtain ⟨h1, h2⟩ := h p hp h0 k hk
    rw [add_held] at h1 h2
    simp only at h1 h2
    refine ⟨by omega, fun q hq => ?_⟩
    have := h2 q hq
    rw [e2 q (mem_peers.1 hq).1] at this
    omega
  · rintro ⟨h1, h2⟩ q hq hq0 j hj
    obtain ⟨t1, t2⟩ := ht q hq hq0 j hj
    by_cases hqp : q = p ∧ j = k
    · obtain ⟨rfl, rfl⟩ := hqp
      rw [add_held]
      simp only
      refine ⟨by omega, fun r hr => ?_⟩
      rw [e2 r (mem_peers.1 hr).1]
      have := t2 r hr
      have := h2 r hr
      omega
    · rw [add_other hu hp hq hqp]
      refine ⟨t1, fun r hr => ?_⟩
      rw [e2 r (mem_peers.1 hr).1]
      exact t2 r hr
theorem truth_broke (hu : Up ps) (hp : p ∈ ps) (hv : 0 ≤ vary) (h0 : gOf gs p ≠ 0) (hk : k < 3) (ht : truth gs vary ps ts = true) : truth gs vary ps (ts ++ [⟨id, p.id, k, f, false⟩]) = decide ((spanT gs vary ps ts p k).1 < needN (ar p k) f) := by
  rw [truth_iff] at ht
  have e1 : ∀ q ∈ ps, ∀ j, (ownP gs (ts ++ [⟨id, p.id, k, f, false⟩]) j q).1 = (ownP gs ts j q).1 := fun q hq j => by
    by_cases hqp : q = p ∧ j = k
    · obtain ⟨rfl, rfl⟩ := hqp; rw [add_broke]
    · rw [add_other hu hp hq hqp]
  have el : (spanT gs vary ps ts p k).1 < needN (ar p k) f ↔ (spanT gs vary ps ts p k).1 ≤ needN (ar p k) f - 1 := by omega
  rw [Bool.eq_iff_iff, decide_eq_true_eq, truth_iff, el, span_lo]
  constructor
  · intro h
    obtain ⟨h1, h2⟩ := h p hp h0 k hk
    rw [add_broke] at h1
    simp only at h1
    refine ⟨by omega, fun q hq => ?_⟩
    have hg := (mem_peers.1 hq).2
    have h3 := (h q (mem_peers.1 hq).1 (by rw [hg]; exact h0) k hk).2 p (mem_peers.2 ⟨hp, hg.symm⟩)
    rw [e1 q (mem_peers.1 hq).1, add_broke] at h3
    simp only at h3
    omega
  · rintro ⟨h1, h2⟩ q hq hq0 j hj
    obtain ⟨t1, t2⟩ := ht q hq hq0 j hj
    rw [e1 q hq]
    by_cases hqp : q = p ∧ j = k
    · obtain ⟨rfl, rfl⟩ := hqp
      rw [add_broke]
      simp only
      refine ⟨by omega, fun r hr => ?_⟩
      by_cases hrp : r = q
      · subst hrp
        rw [add_broke]
        simp only
        omega
      · rw [add_other hu hp (mem_peers.1 hr).1 (fun e => hrp e.1)]
        exact t2 r hr
    · rw [add_other hu hp hq hqp]
      refine ⟨t1, fun r hr => ?_⟩
      by_cases hrp : r = p ∧ j = k
      · obtain ⟨rfl, rfl⟩ := hrp
        rw [add_broke]
        simp only
        have a1 := t2 r hr
        have a2 := h2 q (mem_peers.2 ⟨hq, (mem_peers.1 hr).2.symm⟩)
        omega
      · rw [add_other hu hp (mem_peers.1 hr).1 hrp]
        exact t2 r hr
end
/-- The number of the next test. -/
def nxtL (ts : List Ts) : Int := ts.foldl (fun m t => max m (t.id + 1)) 0
theorem nxt_le : ∀ (ts : List Ts) (m : Int), m ≤ ts.foldl (fun m t => max m (t.id + 1)) m ∧ ∀ t ∈ ts, t.id < ts.foldl (fun m t => max m (t.id + 1)) m
  | [], m => ⟨Int.le_refl _, fun t h => by cases h⟩
  | t :: ts, m => by
    obtain ⟨h1, h2⟩ := nxt_le ts (max m (t.id + 1))
    rw [List.foldl_cons]
    refine ⟨by omega, fun u hu => ?_⟩
    rcases List.mem_cons.1 hu with rfl | hu
    · omega
    · exact h2 u hu
theorem nxtL_step (ts : List Ts) (i : Nat) (hi : i < ts.length) : nxtL (ts.take (i + 1)) = max (nxtL (ts.take i)) (ts[i].id + 1) := by
  unfold nxtL
  rw [List.take_add_one, List.getElem?_eq_getElem hi, List.foldl_append]
  rfl
theorem gChk_tid {gs : List Gd} {vary : Int} {ps : List Pol} {ts : List Ts} (h : gChk gs vary ps ts = 0) : ∀ t ∈ ts, 0 ≤ t.id ∧ t.id ≤ 9999 := by
  obtain ⟨h1, h2⟩ := gChk_ok h
  simp only [okSheet, okTsL, Bool.and_eq_true, decide_eq_true_eq] at h2
  exact fun t ht => let h3 := (byIdL_upT _ _ _ h2.2.2).2 t ht; ⟨h3.1, h3.2.1⟩
theorem nxt_max (M : Int) : ∀ (ts : List Ts) (m : Int), m ≤ M → (∀ t ∈ ts, t.id + 1 ≤ M) → ts.foldl (fun m t => max m (t.id + 1)) m ≤ M
  | [], m, h, _ => h
  | t :: ts, m, h, ht => by
    rw [List.foldl_cons]
    have := ht t (by simp)
    exact nxt_max M ts _ (by omega) (fun u hu => ht u (by simp [hu]))
theorem nxtL_bnd {gs : List Gd} {vary : Int} {ps : List Pol} {ts : List Ts} (h : gChk gs vary ps ts = 0) (i : Nat) : 0 ≤ nxtL (ts.take i) ∧ nxtL (ts.take i) ≤ 10000 := by
  refine ⟨(nxt_le _ 0).1, nxt_max 10000 _ 0 (by decide) (fun t ht => ?_)⟩
  have := gChk_tid h t (List.mem_of_mem_take ht)
  omega
theorem byId_add {α : Type} {id : α → Int} {ok : α → Bool} {x : α} (hx : ok x = true) (h9 : id x ≤ 9999) : ∀ (l : List α) (n : Int), byIdL id ok l n = true → n ≤ id x → (∀ y ∈ l, id y < id x) → byIdL id ok (l ++ [x]) n = true
  | [], n, _, hn, _ => by
    simp only [List.nil_append, byIdL, Bool.and_eq_true, inR_iff]
    exact ⟨⟨hn, h9⟩, hx, trivial⟩
  | y :: l, n, h, hn, hl => by
    simp only [byIdL, Bool.and_eq_true] at h
    simp only [List.cons_append, byIdL, Bool.and_eq_true]
    have := hl y (by simp)
    exact ⟨h.1, h.2.1, byId_add hx h9 l _ h.2.2 (by omega) (fun z hz => hl z (by simp [hz]))⟩
theorem gChk_add {gs : List Gd} {vary : Int} {ps : List Pol} {ts : List Ts} (h : gChk gs vary ps ts = 0) {t : Ts} (ht : okTs ps t = true) (hl : ts.length < 20) (hid : t.id = nxtL ts) (h9 : nxtL ts ≤ 9999) : gChk gs vary ps (ts ++ [t]) = 0 := by
  obtain ⟨h1, h2⟩ := gChk_ok h
  simp only [okSheet, okTsL, Bool.and_eq_true, decide_eq_true_eq] at h2
  obtain ⟨n1, n2⟩ := nxt_le ts 0
  unfold gChk
  rw [if_pos h1, if_pos]
  simp only [okSheet, okTsL, Bool.and_eq_true, decide_eq_true_eq]
  refine ⟨h2.1, by simp; omega, byId_add ht (by rw [hid]; exact h9) _ _ h2.2.2 (by rw [hid]; exact n1) (fun y hy => by rw [hid]; exact n2 y hy)⟩
theorem need_le {a f x : Int} (ha : 0 < a) : needN a f ≤ x ↔ 1000 * f ≤ x * a := by
  unfold needN
  have h1 : (1000 * f + a - 1) / a ≤ x ↔ (1000 * f + a - 1) / a < x + 1 := by omega
  rw [h1, Int.ediv_lt_iff_lt_mul ha, Int.add_mul]
  omega
/-- What a force tells of strengths. -/
theorem bears_le {p : Pol} {k : Nat} (ha : 0 < ar p k) {f x : Int} (hf : f ≤ 1000000) : f ≤ bears p k x ↔ needN (ar p k) f ≤ x := by
  rw [need_le ha]
  unfold bears
  have e : f ≤ x * ar p k / 1000 ↔ f * 1000 ≤ x * ar p k := Int.le_ediv_iff_mul_le (by decide)
  rw [show f ≤ min (x * ar p k / 1000) 1000000 ↔ f ≤ x * ar p k / 1000 from by omega, e]
  omega
theorem span_ends {gs : List Gd} {vary : Int} {ps : List Pol} {ts : List Ts} (hv : 0 ≤ vary) (ht : truth gs vary ps ts = true) {p : Pol} (hp : p ∈ ps) (h0 : gOf gs p ≠ 0) {k : Nat} (hk : k < 3) : (spanT gs vary ps ts p k).1 ≤ (spanT gs vary ps ts p k).2 := by
  rw [span_hi]
  have ht' := truth_iff.1 ht
  obtain ⟨t1, t2⟩ := ht' p hp h0 k hk
  refine ⟨?_, fun q hq => ?_⟩
  · rw [span_lo]
    refine ⟨t1, fun q hq => ?_⟩
    have hgq := (mem_peers.1 hq).2
    have := (ht' q (mem_peers.1 hq).1 (by rw [hgq]; exact h0) k hk).2 p (mem_peers.2 ⟨hp, hgq.symm⟩)
    omega
  · rw [span_lo]
    refine ⟨t2 q hq, fun r hr => ?_⟩
    have hgr := (mem_peers.1 hr).2
    have hgq := (mem_peers.1 hq).2
    have := (ht' r (mem_peers.1 hr).1 (by rw [hgr]; exact h0) k hk).2 q (mem_peers.2 ⟨(mem_peers.1 hq).1, by rw [hgq, hgr]⟩)
    have := (ht' r (mem_peers.1 hr).1 (by rw [hgr]; exact h0) k hk)
    omega
theorem str_ok {gs : List Gd} {vary : Int} {ps : List Pol} {ts : List Ts} (hc : gChk gs vary ps ts = 0) (ht : truth gs vary ps ts = true) {p : Pol} (hp : p ∈ ps) (h0 : gOf gs p ≠ 0) {k : Nat} (hk : k < 3) :
    ∃ b, sStr gs vary ps ts p.id k = (b, 0) ∧ 0 ≤ b.1 ∧ b.1 ≤ b.2 ∧ b.2 ≤ 1000000 := by
  have hg := grOk_of hc
  have hv := hg.v.1
  have har := (ar_pos (okPol_secs (hg.po p hp).2) k).1
  have sb := sStr_at hc hp hk
  rw [if_neg h0, ht, if_pos rfl] at sb
  have hM : gOf gs p - 1 < gs.length := by have := gOf_le gs p; omega
  have hgA : gAt gs p = gs[gOf gs p - 1] := by unfold gAt; rw [List.getElem?_eq_getElem hM]; rfl
  have hX := hg.ok _ (List.getElem_mem hM) k hk
  have s1 := span_fewer (gs := gs) (vary := vary) (ps := ps) (List.nil_sublist ts) p k
  rw [span_nil hv, hgA] at s1
  have hlh := span_ends hv ht hp h0 hk
  have hlo1 : 0 ≤ (spanT gs vary ps ts p k).1 := by omega
  refine ⟨_, sb, ?_, bears_mono (Int.le_of_lt har) hlh, by simp only [bears]; omega⟩
  have h1 := Int.mul_nonneg hlo1 (Int.le_of_lt har)
  have h2 := Int.ediv_nonneg h1 (show (0 : Int) ≤ 1000 by decide)
  simp only [bears]
  omega
/-- What is so of both ends. -/
structure EndF (gs : List Gd) (vary : Int) (ps : List Pol) (ts : List Ts) (p : Pol) (k : Nat) (f id : Int) (b x y : Int × Int) (ex ey : Int) (cx cy : List Int) : Prop where
  sb : sStr gs vary ps ts p.id k = (b, 0)
  sx : sStr gs vary ps (ts ++ [⟨id, p.id, k, f, true⟩]) p.id k = (x, ex)
  sy : sStr gs vary ps (ts ++ [⟨id, p.id, k, f, false⟩]) p.id k = (y, ey)
  lx : sClash gs vary ps (ts ++ [⟨id, p.id, k, f, true⟩]) = (cx, 0)
  ly : sClash gs vary ps (ts ++ [⟨id, p.id, k, f, false⟩]) = (cy, 0)
theorem ends_of {gs : List Gd} {vary : Int} {ps : List Pol} {ts : List Ts} (hc : gChk gs vary ps ts = 0) (ht : truth gs vary ps ts = true) {p : Pol} (hp : p ∈ ps) (h0 : gOf gs p ≠ 0) {k : Nat} (hk : k < 3) {f : Int} (hf1 : 1 ≤ f) (hf : f ≤ 1000000) (hl : ts.length < 20) (h9 : nxtL ts ≤ 9999) :
    ∃ b x y ex ey cx cy, EndF gs vary ps ts p k f (nxtL ts) b x y ex ey cx cy ∧ (0 ≤ b.1 ∧ b.1 ≤ b.2 ∧ b.2 ≤ 1000000) ∧
      ((f ≤ b.1 ∧ ex = 0 ∧ cx = [] ∧ x = b ∧ ey = 52 ∧ cy ≠ []) ∨ (b.2 < f ∧ b.1 < f ∧ ey = 0 ∧ cy = [] ∧ y = b ∧ ex = 52 ∧ cx ≠ []) ∨
        (b.1 < f ∧ f ≤ b.2 ∧ ex = 0 ∧ cx = [] ∧ ey = 0 ∧ cy = [] ∧ f ≤ x.1 ∧ x.2 = b.2 ∧ y.1 = b.1 ∧ y.2 < f)) := by
  have hg := grOk_of hc
  have hgr := (gChk_ok hc).1
  have hv := hg.v.1
  have har := (ar_pos (okPol_secs (hg.po p hp).2) k).1
  have hok : ∀ h : Bool, okTs ps ⟨nxtL ts, p.id, k, f, h⟩ = true := fun h => by
    simp only [okTs, Bool.and_eq_true, inR_iff]
    exact ⟨(fnd_self hg.up hp).1, ⟨by omega, by omega⟩, hf1, hf⟩
  have hcx : gChk gs vary ps (ts ++ [⟨nxtL ts, p.id, k, f, true⟩]) = 0 := gChk_add hc (hok true) hl rfl h9
  have hcy : gChk gs vary ps (ts ++ [⟨nxtL ts, p.id, k, f, false⟩]) = 0 := gChk_add hc (hok false) hl rfl h9
  have sb := sStr_at hc hp hk
  have sx := sStr_at hcx hp hk
  have sy := sStr_at hcy hp hk
  rw [if_neg h0] at sb sx sy
  rw [ht, if_pos rfl] at sb
  have tx := truth_held (id := nxtL ts) (f := f) hg.up hp hv h0 hk ht
  have ty := truth_broke (id := nxtL ts) (f := f) hg.up hp hv h0 hk ht
  have px := span_held (gs := gs) (ts := ts) (k := k) (id := nxtL ts) (f := f) hg.up hp hv
  have py := span_broke (gs := gs) (ts := ts) (k := k) (id := nxtL ts) (f := f) hg.up hp hv
  have htn := truth_nil (ps := ps) hgr
  have hM : gOf gs p - 1 < gs.length := by have := gOf_le gs p; omega
  have hgA : gAt gs p = gs[gOf gs p - 1] := by unfold gAt; rw [List.getElem?_eq_getElem hM]; rfl
  have hX := hg.ok _ (List.getElem_mem hM) k hk
  have s1 := span_fewer (gs := gs) (vary := vary) (ps := ps) (List.nil_sublist ts) p k
  rw [span_nil hv, hgA] at s1
  have hlh := span_ends hv ht hp h0 hk
  generalize hlo : (spanT gs vary ps ts p k).1 = lo at *
  generalize hhi : (spanT gs vary ps ts p k).2 = hi at *
  have hlo1 : 1 ≤ lo := by omega
  have b0 : 0 ≤ bears p k lo := by
    unfold bears
    have := Int.mul_nonneg (show 0 ≤ lo by omega) (Int.le_of_lt har)
    have := Int.ediv_nonneg this (show (0 : Int) ≤ 1000 by decide)
    omega
  have b1 := bears_mono (Int.le_of_lt har) hlh
  have b2 : bears p k hi ≤ 1000000 := by unfold bears; omega
  have f1 := bears_le har hf (x := lo)
  have f2 := bears_le har hf (x := hi)
  rw [tx, px] at sx
  rw [ty, py] at sy
  simp only [decide_eq_true_eq] at sx sy
  have cl0 : ∀ T, gChk gs vary ps T = 0 → truth gs vary ps T = true → sClash gs vary ps T = ([], 0) := fun T h1 h2 => sClash_nil h1 h2
  have cl1 : ∀ T, gChk gs vary ps T = 0 → truth gs vary ps T = false → ∃ c, c ≠ [] ∧ sClash gs vary ps T = (c, 0) := fun T h1 h2 => ⟨clashL gs vary ps T, clash_some htn h2, by unfold sClash; rw [if_pos h1]⟩
  by_cases hn1 : needN (ar p k) f ≤ lo
  · have hn2 : needN (ar p k) f ≤ hi := by omega
    have e1 : max lo (needN (ar p k) f) = lo := by omega
    rw [if_pos hn2, e1] at sx
    rw [if_neg (by omega)] at sy
    obtain ⟨c, hc1, hc2⟩ := cl1 _ hcy (by rw [ty]; exact decide_eq_false (by omega))
    exact ⟨_, _, _, _, _, [], c, ⟨sb, sx, sy, cl0 _ hcx (by rw [tx]; exact decide_eq_true hn2), hc2⟩, ⟨b0, b1, b2⟩, .inl ⟨f1.2 hn1, rfl, rfl, rfl, rfl, hc1⟩⟩
  · rw [if_pos (by omega)] at sy
    have hf3 : bears p k lo < f := by
      rcases (by omega : bears p k lo < f ∨ f ≤ bears p k lo) with h | h
      · exact h
      · exact absurd (f1.1 h) hn1
    by_cases hn2 : needN (ar p k) f ≤ hi
    · have e1 : max lo (needN (ar p k) f) = needN (ar p k) f := by omega
      have e2 : min hi (needN (ar p k) f - 1) = needN (ar p k) f - 1 := by omega
      rw [if_pos hn2, e1] at sx
      rw [e2] at sy
      have g1 := (bears_le har hf (x := needN (ar p k) f)).2 (Int.le_refl _)
      have g2 : bears p k (needN (ar p k) f - 1) < f := by
        rcases (by omega : bears p k (needN (ar p k) f - 1) < f ∨ f ≤ bears p k (needN (ar p k) f - 1)) with h | h
        · exact h
        · have := (bears_le har hf (x := needN (ar p k) f - 1)).1 h; omega
      exact ⟨_, _, _, _, _, [], [], ⟨sb, sx, sy, cl0 _ hcx (by rw [tx]; exact decide_eq_true hn2), cl0 _ hcy (by rw [ty]; exact decide_eq_true (by omega))⟩, ⟨b0, b1, b2⟩, .inr (.inr ⟨hf3, f2.2 hn2, rfl, rfl, rfl, rfl, g1, rfl, rfl, g2⟩)⟩
    · have e2 : min hi (needN (ar p k) f - 1) = hi := by omega
      rw [if_neg hn2] at sx
      rw [e2] at sy
      have hf4 : bears p k hi < f := by
        rcases (by omega : bears p k hi < f ∨ f ≤ bears p k hi) with h | h
        · exact h
        · exact absurd (f2.1 h) hn2
      obtain ⟨c, hc1, hc2⟩ := cl1 _ hcx (by rw [tx]; exact decide_eq_false hn2)
      exact ⟨_, _, _, _, _, c, [], ⟨sb, sx, sy, hc2, cl0 _ hcy (by rw [ty]; exact decide_eq_true (by omega))⟩, ⟨b0, b1, b2⟩, .inr (.inl ⟨hf4, hf3, rfl, rfl, rfl, rfl, hc1⟩)⟩

end Go.Proofs.YtddpebnmjfmgdaaGreat
