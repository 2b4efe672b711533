/-
  What grades and strengths are.
-/
import Derived.Test.YtboffligjgjgjaaGreatQM20
import Derived.Test.YtboffligjgjgjaaGreatQM28
import Derived.Test.YtboffligjgjgjaaGreatQM27
set_option linter.all false
namespace Go.Proofs.YtboffligjgjgjaaGreat
open Go.RowKit

/-- A pole's grade, and why there is none. -/
def sGrade (gs : List Gd) (vary : Int) (ps : List Pol) (ts : List Ts) (id : Int) : Int × Int :=
  if gChk gs vary ps ts = 0 then if hasPol ps id = true then ((gOf gs (fndP ps id) : Nat), 0) else (0, 6) else (0, gChk gs vary ps ts)
/-- A section's strength, and why there is none. -/
def sStr (gs : List Gd) (vary : Int) (ps : List Pol) (ts : List Ts) (id sec : Int) : (Int × Int) × Int :=
  if gChk gs vary ps ts = 0 then
    if hasPol ps id = true then
      if inR sec 0 2 = true then
        if gOf gs (fndP ps id) = 0 then ((0, 0), 8)
        else if truth gs vary ps ts = true then ((bears (fndP ps id) sec.toNat (spanT gs vary ps ts (fndP ps id) sec.toNat).1, bears (fndP ps id) sec.toNat (spanT gs vary ps ts (fndP ps id) sec.toNat).2), 0)
        else ((0, 0), 52)
      else ((0, 0), 2)
    else ((0, 0), 6)
  else ((0, 0), gChk gs vary ps ts)
/-- Where a pole stands. -/
theorem at_cases (ps : List Pol) (id : Int) : (hasPol ps id = false ∧ idxL (fun p : Pol => decide (p.id = id)) ps 0 = -1) ∨ ∃ i : Nat, hasPol ps id = true ∧ idxL (fun p : Pol => decide (p.id = id)) ps 0 = (i : Int) ∧ ∃ h : i < ps.length, ps[i] = fndP ps id := by
  unfold hasPol fndP
  rcases idxL_find (P := fun p : Pol => decide (p.id = id)) ps 0 with ⟨e1, e2, e3⟩ | ⟨k, x, e1, e2, e3, e4⟩
  · exact .inl ⟨e3, e1⟩
  · refine .inr ⟨k, e4, by rw [e1, Nat.zero_add], (List.getElem?_eq_some_iff.1 e2).1, ?_⟩
    rw [e3, (List.getElem?_eq_some_iff.1 e2).2]
    rfl
theorem gChk_ok {gs : List Gd} {vary : Int} {ps : List Pol} {ts : List Ts} (h : gChk gs vary ps ts = 0) : okGrading gs vary = true ∧ okSheet ps ts = true := by
  unfold gChk at h
  by_cases h1 : okGrading gs vary = true
  · by_cases h2 : okSheet ps ts = true
    · exact ⟨h1, h2⟩
    · rw [if_pos h1, if_neg h2] at h; exact absurd h (by decide)
  · rw [if_neg h1] at h; exact absurd h (by decide)
theorem okSheet_parts {ps : List Pol} {ts : List Ts} (h : okSheet ps ts = true) : (ps.length ≤ 12 ∧ ts.length ≤ 20) ∧ Up ps ∧ (∀ p ∈ ps, (0 ≤ p.id ∧ p.id ≤ 9999) ∧ okPol p = true) ∧ (∀ t ∈ ts, okT t) := by
  simp only [okSheet, okPols, okTsL, Bool.and_eq_true, decide_eq_true_eq] at h
  obtain ⟨⟨h1, h2⟩, h3, h4⟩ := h
  have hu := byIdL_up okPol ps 0 h2
  refine ⟨⟨h1, h3⟩, hu.1, fun p hp => ⟨⟨(hu.2 p hp).1, (hu.2 p hp).2.1⟩, (hu.2 p hp).2.2⟩, ?_⟩
  have key : ∀ (l : List Ts) (n : Int), byIdL Ts.id (okTs ps) l n = true → ∀ t ∈ l, okT t := by
    intro l
    induction l with
    | nil => intro n _ t ht; cases ht
    | cons y l ih =>
      intro n h t ht
      simp only [byIdL, okTs, Bool.and_eq_true, inR_iff] at h
      rcases List.mem_cons.1 ht with rfl | ht
      · exact ⟨h.2.1.2.1, h.2.1.2.2⟩
      · exact ih _ h.2.2 t ht
  exact key ts 0 h4
theorem okGds_mem : ∀ (l : List Gd) (a v : Int), okGds l a v = true → ∀ g ∈ l, okG2 g
  | [], _, _, _, g, hg => by cases hg
  | y :: l, a, v, h, g, hg => by
    simp only [okGds, okGd, okSt, Bool.and_eq_true, inR_iff, decide_eq_true_eq] at h
    rcases List.mem_cons.1 hg with rfl | hg
    · intro k hk
      obtain ⟨⟨_, _, h0, h1, h2⟩, _⟩ := h
      have h3 : k = 0 ∨ k = 1 ∨ k = 2 := by omega
      rcases h3 with rfl | rfl | rfl
      · exact ⟨h0.2.1, h0.2.2⟩
      · exact ⟨h1.2.1, h1.2.2⟩
      · exact ⟨h2.2.1, h2.2.2⟩
    · exact okGds_mem l _ _ h.2 g hg
theorem okGrading_parts {gs : List Gd} {vary : Int} (h : okGrading gs vary = true) : gs.length ≤ 3 ∧ (0 ≤ vary ∧ vary ≤ 200000) ∧ ∀ g ∈ gs, okG2 g := by
  simp only [okGrading, Bool.and_eq_true, inR_iff] at h
  exact ⟨by omega, h.2.1, okGds_mem gs _ _ h.2.2⟩
theorem span_small {gs : List Gd} {vary : Int} {ps : List Pol} {ts : List Ts} {p : Pol} {k : Nat} (hv : 0 ≤ vary) (ht : truth gs vary ps ts = true) (hp : p ∈ ps) (hk : k < 3) (hpo : okPol p = true) (hg : 1 ≤ gOf gs p) (htt : ∀ t ∈ ts, okT t) (hok : ∀ g ∈ gs, okG2 g) :
    (1 ≤ (spanT gs vary ps ts p k).1 ∧ (spanT gs vary ps ts p k).1 ≤ 200000) ∧ (1 ≤ (spanT gs vary ps ts p k).2 ∧ (spanT gs vary ps ts p k).2 ≤ 200000) := by
  have hs := ownP_small (ts := ts) hk hpo hg htt hok
  have hc : (ownP gs ts k p).1 ≤ (spanT gs vary ps ts p k).1 ∧ (spanT gs vary ps ts p k).2 ≤ (ownP gs ts k p).2 := cutF_le (fun q => wid1 vary (ownP gs ts k q)) (peers gs ps (gOf gs p)) (ownP gs ts k p)
  have hl : (spanT gs vary ps ts p k).1 ≤ (spanT gs vary ps ts p k).2 := by
    rw [truth_left hv] at ht
    unfold leftAll at ht
    have := List.all_eq_true.1 ht p hp
    simp only [Bool.or_eq_true, beq_iff_eq, List.all_eq_true, List.mem_range, decide_eq_true_eq] at this
    rcases this with h | h
    · omega
    · exact h k hk
  omega

end Go.Proofs.YtboffligjgjgjaaGreat
