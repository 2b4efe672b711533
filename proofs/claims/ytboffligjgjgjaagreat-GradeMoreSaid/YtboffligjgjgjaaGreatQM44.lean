/-
  A test more makes no span wider (plain lists); valid sheets with fewer tests; a pole by its place.
-/
import Derived.Test.YtboffligjgjgjaaGreatQM34
set_option linter.all false
namespace Go.Proofs.YtboffligjgjgjaaGreat
open Go.RowKit

theorem ownP_fewer {gs : List Gd} {ts us : List Ts} (hs : ts.Sublist us) (k : Nat) (p : Pol) : (ownP gs ts k p).1 ≤ (ownP gs us k p).1 ∧ (ownP gs us k p).2 ≤ (ownP gs ts k p).2 := foldO_mono p k ts us _ _ hs (Int.le_refl _) (Int.le_refl _)
theorem span_fewer {gs : List Gd} {vary : Int} {ps : List Pol} {ts us : List Ts} (hs : ts.Sublist us) (p : Pol) (k : Nat) : (spanT gs vary ps ts p k).1 ≤ (spanT gs vary ps us p k).1 ∧ (spanT gs vary ps us p k).2 ≤ (spanT gs vary ps ts p k).2 := by
  have hlo : ∀ (ts : List Ts) x, (spanT gs vary ps ts p k).1 ≤ x ↔ (ownP gs ts k p).1 ≤ x ∧ ∀ q ∈ peers gs ps (gOf gs p), (ownP gs ts k q).1 - vary ≤ x := fun ts x => foldC_lo (fun q => wid1 vary (ownP gs ts k q)) x _ _
  have hhi : ∀ (ts : List Ts) x, x ≤ (spanT gs vary ps ts p k).2 ↔ x ≤ (ownP gs ts k p).2 ∧ ∀ q ∈ peers gs ps (gOf gs p), x ≤ (ownP gs ts k q).2 + vary := fun ts x => foldC_hi (fun q => wid1 vary (ownP gs ts k q)) x _ _
  refine ⟨?_, ?_⟩
  · rw [hlo]
    obtain ⟨h1, h2⟩ := (hlo us _).1 (Int.le_refl _)
    refine ⟨?_, fun q hq => ?_⟩
    · have := ownP_fewer (gs := gs) hs k p; omega
    · have := ownP_fewer (gs := gs) hs k q; have := h2 q hq; omega
  · rw [hhi]
    obtain ⟨h1, h2⟩ := (hhi us _).1 (Int.le_refl _)
    refine ⟨?_, fun q hq => ?_⟩
    · have := ownP_fewer (gs := gs) hs k p; omega
    · have := ownP_fewer (gs := gs) hs k q; have := h2 q hq; omega
theorem bears_mono {p : Pol} {k : Nat} (h : 0 ≤ ar p k) {s t : Int} (hst : s ≤ t) : bears p k s ≤ bears p k t := by
  unfold bears
  have h1 : s * ar p k ≤ t * ar p k := Int.mul_le_mul_of_nonneg_right hst h
  have h2 : s * ar p k / 1000 ≤ t * ar p k / 1000 := Int.ediv_le_ediv (by decide) h1
  omega
theorem ownP_nil (gs : List Gd) (k : Nat) (p : Pol) : ownP gs [] k p = st0 (gAt gs p) k := rfl
theorem span_nil {gs : List Gd} {vary : Int} {ps : List Pol} (hv : 0 ≤ vary) (p : Pol) (k : Nat) : spanT gs vary ps [] p k = st0 (gAt gs p) k := by
  have key : ∀ (l : List Pol), (∀ q ∈ l, gAt gs q = gAt gs p) → l.foldl (fun s q => cut1 s (wid1 vary (ownP gs [] k q))) (st0 (gAt gs p) k) = st0 (gAt gs p) k := by
    intro l
    induction l with
    | nil => intro _; rfl
    | cons q l ih =>
      intro h
      rw [List.foldl_cons, ownP_nil, h q (by simp)]
      have e : cut1 (st0 (gAt gs p) k) (wid1 vary (st0 (gAt gs p) k)) = st0 (gAt gs p) k := by
        refine Prod.ext ?_ ?_
        · simp only [cut1, wid1]; omega
        · simp only [cut1, wid1]; omega
      rw [e]
      exact ih (fun q hq => h q (by simp [hq]))
  unfold spanT
  rw [ownP_nil]
  refine key _ (fun q hq => ?_)
  unfold gAt
  rw [(mem_peers.1 hq).2]
theorem okGds_st : ∀ (l : List Gd) (a v : Int), okGds l a v = true → ∀ g ∈ l, ∀ k, k < 3 → (st0 g k).1 ≤ (st0 g k).2
  | [], _, _, _ => fun g hg => by cases hg
  | g :: l, a, v, h => by
    simp only [okGds, Bool.and_eq_true] at h
    intro x hx k hk
    rcases List.mem_cons.1 hx with rfl | hx
    · have h1 := h.1
      simp only [okGd, okSt, Bool.and_eq_true, decide_eq_true_eq] at h1
      obtain ⟨_, _, ⟨a1, _⟩, ⟨a2, _⟩, a3, _⟩ := h1
      unfold st0
      split
      · exact a1
      · split
        · exact a2
        · exact a3
    · exact okGds_st l _ _ h.2 x hx k hk
theorem gAt_mem_of {gs : List Gd} {p : Pol} (h : gOf gs p ≠ 0) : gAt gs p ∈ gs := by
  have hl := gOf_le gs p
  unfold gAt
  have hi : gOf gs p - 1 < gs.length := by omega
  rw [List.getElem?_eq_getElem hi]
  exact List.getElem_mem hi
theorem truth_nil {gs : List Gd} {vary : Int} {ps : List Pol} (hg : okGrading gs vary = true) : truth gs vary ps [] = true := by
  simp only [okGrading, Bool.and_eq_true, inR_iff] at hg
  have hst := okGds_st gs 0 1 hg.2.2
  unfold truth
  simp only [List.all_eq_true, List.mem_range, Bool.or_eq_true, beq_iff_eq, Bool.and_eq_true, decide_eq_true_eq, bne_iff_ne, ne_eq]
  intro p _ k hk
  by_cases h0 : gOf gs p = 0
  · exact .inl h0
  · have h1 := hst _ (gAt_mem_of h0) k hk
    refine .inr ⟨h1, fun q _ => ?_⟩
    by_cases he : gOf gs q = gOf gs p
    · refine .inr ?_
      have e : gAt gs q = gAt gs p := by unfold gAt; rw [he]
      rw [ownP_nil, ownP_nil, e]
      have := hg.2.1
      omega
    · exact .inl he
theorem byId_take {α : Type} {id : α → Int} {ok : α → Bool} : ∀ (l : List α) (n : Int) (m : Nat), byIdL id ok l n = true → byIdL id ok (l.take m) n = true
  | [], n, m, _ => by simp [byIdL]
  | x :: l, n, 0, _ => by simp [byIdL]
  | x :: l, n, m + 1, h => by
    simp only [byIdL, Bool.and_eq_true] at h
    simp only [List.take_succ_cons, byIdL, Bool.and_eq_true]
    exact ⟨h.1, h.2.1, byId_take l _ m h.2.2⟩
theorem gChk_take {gs : List Gd} {vary : Int} {ps : List Pol} {ts : List Ts} (h : gChk gs vary ps ts = 0) (m : Nat) : gChk gs vary ps (ts.take m) = 0 := by
  obtain ⟨h1, h2⟩ := gChk_ok h
  simp only [okSheet, okTsL, Bool.and_eq_true, decide_eq_true_eq] at h2
  unfold gChk
  rw [if_pos h1, if_pos]
  simp only [okSheet, okTsL, Bool.and_eq_true, decide_eq_true_eq]
  exact ⟨h2.1, by simp; omega, byId_take _ _ _ h2.2.2⟩
theorem fnd_self {ps : List Pol} (hu : Up ps) {p : Pol} (hp : p ∈ ps) : hasPol ps p.id = true ∧ fndP ps p.id = p := by
  have hh : hasPol ps p.id = true := by simp only [hasPol, List.any_eq_true, decide_eq_true_eq]; exact ⟨p, hp, rfl⟩
  refine ⟨hh, ?_⟩
  rcases at_cases ps p.id with ⟨h, _⟩ | ⟨i, _, _, hi, e⟩
  · rw [hh] at h; cases h
  · have h1 : ps[i] ∈ ps := List.getElem_mem hi
    have h2 : ps[i].id = p.id := by
      rw [e]
      unfold fndP
      cases hf : ps.find? (fun q => decide (q.id = p.id)) with
      | none => rw [List.find?_eq_none] at hf; exact absurd (by simp) (hf p hp)
      | some q => simpa using List.find?_some hf
    rw [← e]
    exact hu.inj h1 hp h2
/-- What the law asks of a pole, a section, all tests and some of them. -/
theorem sStr_at {gs : List Gd} {vary : Int} {ps : List Pol} {ts : List Ts} (h : gChk gs vary ps ts = 0) {p : Pol} (hp : p ∈ ps) {k : Nat} (hk : k < 3) : sStr gs vary ps ts p.id k =
    if gOf gs p = 0 then ((0, 0), 8) else if truth gs vary ps ts = true then ((bears p k (spanT gs vary ps ts p k).1, bears p k (spanT gs vary ps ts p k).2), 0) else ((0, 0), 52) := by
  obtain ⟨h1, h2⟩ := fnd_self (grOk_of h).up hp
  have hr : inR (k : Int) 0 2 = true := inR_iff.2 (by omega)
  unfold sStr
  rw [if_pos h, if_pos h1, if_pos hr, h2, Int.toNat_natCast]
theorem sGrade_at {gs : List Gd} {vary : Int} {ps : List Pol} {ts : List Ts} (h : gChk gs vary ps ts = 0) {p : Pol} (hp : p ∈ ps) : sGrade gs vary ps ts p.id = (((gOf gs p : Nat) : Int), 0) := by
  obtain ⟨h1, h2⟩ := fnd_self (grOk_of h).up hp
  unfold sGrade
  rw [if_pos h, if_pos h1, h2]
theorem sClash_nil {gs : List Gd} {vary : Int} {ps : List Pol} {ts : List Ts} (h : gChk gs vary ps ts = 0) (ht : truth gs vary ps ts = true) : sClash gs vary ps ts = ([], 0) := by
  unfold sClash
  rw [if_pos h, clash_none ht]

end Go.Proofs.YtboffligjgjgjaaGreat
