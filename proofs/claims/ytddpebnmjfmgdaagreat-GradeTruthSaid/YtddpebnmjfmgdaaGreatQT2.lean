/-
  GuC
-/
import Derived.Test.YtddpebnmjfmgdaaGreatQT1
import Derived.Test.YtddpebnmjfmgdaaGreatQC30
set_option linter.all false
namespace Go.Proofs.YtddpebnmjfmgdaaGreat
open Go.RowKit

theorem fold_fit (p : Pol) (k : Nat) (x : Int) : ∀ (l : List Ts), (∀ t ∈ l, t.pole = p.id → t.sec = (k : Int) → (t.held = true ↔ needN (ar p k) t.force ≤ x)) → ∀ s : Int × Int, s.1 ≤ x ∧ x ≤ s.2 → (l.foldl (own1 p k) s).1 ≤ x ∧ x ≤ (l.foldl (own1 p k) s).2
  | [], _, s, h => h
  | t :: l, hl, s, h => by
    rw [List.foldl_cons]
    refine fold_fit p k x l (fun u hu => hl u (List.mem_cons_of_mem _ hu)) _ ?_
    have ht := hl t List.mem_cons_self
    unfold own1
    by_cases hm : t.pole = p.id ∧ t.sec = (k : Int)
    · rw [if_pos hm]
      have h2 := ht hm.1 hm.2
      by_cases hh : t.held = true
      · rw [if_pos hh]
        have := h2.1 hh
        simp only
        omega
      · rw [if_neg hh]
        have : ¬ needN (ar p k) t.force ≤ x := fun e => hh (h2.2 e)
        simp only
        omega
    · rw [if_neg hm]
      exact h
/-- Stresses that are so, and tests that tell of them. -/
structure FitS (gs : List Gd) (vary : Int) (ps : List Pol) (ts : List Ts) (F : Nat → Nat → Int) : Prop where
  inn : ∀ i, ∀ hi : i < ps.length, ∀ k, k < 3 → gOf gs ps[i] ≠ 0 → (st0 (gAt gs ps[i]) k).1 ≤ F i k ∧ F i k ≤ (st0 (gAt gs ps[i]) k).2
  near : ∀ i, ∀ hi : i < ps.length, ∀ j, ∀ hj : j < ps.length, ∀ k, k < 3 → gOf gs ps[i] ≠ 0 → gOf gs ps[j] = gOf gs ps[i] → F i k ≤ F j k + vary
  says : ∀ t ∈ ts, ∀ i, ∀ hi : i < ps.length, t.pole = ps[i].id → ∀ k : Nat, k < 3 → t.sec = (k : Int) → (t.held = true ↔ 1000 * t.force ≤ F i k * ar ps[i] k)
section
variable {gs : List Gd} {vary : Int} {ps : List Pol} {ts : List Ts} {F : Nat → Nat → Int}
theorem own_fit (h : FitS gs vary ps ts F) {i : Nat} (hi : i < ps.length) {k : Nat} (hk : k < 3) (h0 : gOf gs ps[i] ≠ 0) (ha : 0 < ar ps[i] k) : (ownP gs ts k ps[i]).1 ≤ F i k ∧ F i k ≤ (ownP gs ts k ps[i]).2 := by
  refine fold_fit ps[i] k (F i k) ts (fun t ht hp hs => ?_) _ (h.inn i hi k hk h0)
  rw [need_le ha]
  exact h.says t ht i hi hp k hk hs
theorem truth_fit (hg : GrOk gs vary ps ts) (h : FitS gs vary ps ts F) : truth gs vary ps ts = true := by
  have har : ∀ i (hi : i < ps.length) k, 0 < ar ps[i] k := fun i hi k => (ar_pos (okPol_secs (hg.po _ (List.getElem_mem hi)).2) k).1
  rw [truth_iff]
  intro p hp h0 k hk
  obtain ⟨i, hi, rfl⟩ := List.getElem_of_mem hp
  have h1 := own_fit h hi hk h0 (har i hi k)
  refine ⟨by omega, fun q hq => ?_⟩
  obtain ⟨hq1, hq2⟩ := mem_peers.1 hq
  obtain ⟨j, hj, rfl⟩ := List.getElem_of_mem hq1
  have h2 := own_fit h hj hk (by rw [hq2]; exact h0) (har j hj k)
  have h3 := h.near i hi j hj k hk h0 hq2
  omega
theorem span_fit (hg : GrOk gs vary ps ts) (h : FitS gs vary ps ts F) {i : Nat} (hi : i < ps.length) {k : Nat} (hk : k < 3) (h0 : gOf gs ps[i] ≠ 0) : (spanT gs vary ps ts ps[i] k).1 ≤ F i k ∧ F i k ≤ (spanT gs vary ps ts ps[i] k).2 := by
  have har : ∀ i (hi : i < ps.length) k, 0 < ar ps[i] k := fun i hi k => (ar_pos (okPol_secs (hg.po _ (List.getElem_mem hi)).2) k).1
  have h1 := own_fit h hi hk h0 (har i hi k)
  refine ⟨?_, ?_⟩
  · rw [span_lo]
    refine ⟨h1.1, fun q hq => ?_⟩
    obtain ⟨hq1, hq2⟩ := mem_peers.1 hq
    obtain ⟨j, hj, rfl⟩ := List.getElem_of_mem hq1
    have h2 := own_fit h hj hk (by rw [hq2]; exact h0) (har j hj k)
    have h3 := h.near j hj i hi k hk (by rw [hq2]; exact h0) hq2.symm
    omega
  · rw [span_hi]
    refine ⟨h1.2, fun q hq => ?_⟩
    obtain ⟨hq1, hq2⟩ := mem_peers.1 hq
    obtain ⟨j, hj, rfl⟩ := List.getElem_of_mem hq1
    have h2 := own_fit h hj hk (by rw [hq2]; exact h0) (har j hj k)
    have h3 := h.near i hi j hj k hk h0 hq2
    omega
/-- What Strength tells where there are such stresses. -/
theorem str_fit (hc : gChk gs vary ps ts = 0) (h : FitS gs vary ps ts F) {i : Nat} (hi : i < ps.length) {k : Nat} (hk : k < 3) : (gOf gs ps[i] = 0 ∧ sStr gs vary ps ts ps[i].id k = ((0, 0), 8)) ∨
    (gOf gs ps[i] ≠ 0 ∧ ∃ b, sStr gs vary ps ts ps[i].id k = (b, 0) ∧ b.1 ≤ bears ps[i] k (F i k) ∧ bears ps[i] k (F i k) ≤ b.2) := by
  have hg := grOk_of hc
  have hs := sStr_at hc (List.getElem_mem hi) hk
  by_cases h0 : gOf gs ps[i] = 0
  · rw [if_pos h0] at hs
    exact .inl ⟨h0, hs⟩
  · rw [if_neg h0, truth_fit hg h, if_pos rfl] at hs
    have har := (ar_pos (okPol_secs (hg.po _ (List.getElem_mem hi)).2) k).1
    obtain ⟨h1, h2⟩ := span_fit hg h hi hk h0
    exact .inr ⟨h0, _, hs, bears_mono (Int.le_of_lt har) h1, bears_mono (Int.le_of_lt har) h2⟩
end

def chB (b : List Int) (i : Nat) : Int := b[i]?.getD 0
def baseI (gs : List Gd) (b : List Int) (p : Pol) (k : Nat) : Int := (st0 (gAt gs p) k).1 + chB b (3 * gOf gs p + k) % ((st0 (gAt gs p) k).2 - (st0 (gAt gs p) k).1 + 1)
def stI (gs : List Gd) (vary : Int) (b : List Int) (i : Nat) (p : Pol) (k : Nat) : Int :=
  if gOf gs p = 0 then 0 else min (baseI gs b p k + chB b (9 + 3 * i + k) % (vary + 1)) (st0 (gAt gs p) k).2
def atN (ps : List Pol) (id : Int) : Nat := (idxL (fun p : Pol => decide (p.id = id)) ps 0).toNat
def hT (gs : List Gd) (vary : Int) (b : List Int) (ps : List Pol) (t : Ts) : Ts := ⟨t.id, t.pole, t.sec, t.force, decide (1000 * t.force ≤ stI gs vary b (atN ps t.pole) (fndP ps t.pole) t.sec.toNat * ar (fndP ps t.pole) t.sec.toNat)⟩
theorem at_self {ps : List Pol} (hu : Up ps) {i : Nat} (hi : i < ps.length) : atN ps ps[i].id = i ∧ fndP ps ps[i].id = ps[i] := by
  have h1 := fnd_self hu (List.getElem_mem hi)
  refine ⟨?_, h1.2⟩
  rcases at_cases ps ps[i].id with ⟨h, _⟩ | ⟨j, _, e, hj, ej⟩
  · rw [h1.1] at h; cases h
  · rw [h1.2] at ej
    unfold atN
    rw [e, Int.toNat_natCast]
    have hp := List.pairwise_iff_getElem.1 hu
    rcases Nat.lt_trichotomy i j with hij | hij | hij
    · have := hp i j hi hj hij; rw [ej] at this; omega
    · exact hij.symm
    · have := hp j i hj hi hij; rw [ej] at this; omega
theorem st_ends {gs : List Gd} (hok : ∀ g ∈ gs, okG2 g) {p : Pol} (h0 : gOf gs p ≠ 0) {k : Nat} (hk : k < 3) : 1 ≤ (st0 (gAt gs p) k).1 ∧ (st0 (gAt gs p) k).1 ≤ 200000 ∧ 1 ≤ (st0 (gAt gs p) k).2 ∧ (st0 (gAt gs p) k).2 ≤ 200000 := by
  have := hok _ (gAt_mem_of h0) k hk
  omega
theorem fitS_of {gs : List Gd} {vary : Int} {ps : List Pol} {ts : List Ts} (hc : gChk gs vary ps ts = 0) (b : List Int) : FitS gs vary ps (ts.map (hT gs vary b ps)) (fun i k => stI gs vary b i (ps[i]?.getD ⟨0, 0, 0, 0, 0, 0, 0, 0, 0, 0, 0, 0⟩) k) := by
  have hg := grOk_of hc
  have hgr := (gChk_ok hc).1
  have hst := hgr
  simp only [okGrading, Bool.and_eq_true, inR_iff] at hst
  have hord := okGds_st gs 0 1 hst.2.2
  have hv := hg.v.1
  have hi0 : ∀ i (hi : i < ps.length), ps[i]?.getD ⟨0, 0, 0, 0, 0, 0, 0, 0, 0, 0, 0, 0⟩ = ps[i] := fun i hi => by simp [hi]
  refine ⟨fun i hi k hk h0 => ?_, fun i hi j hj k hk h0 hij => ?_, fun t ht i hi hp k hk hs => ?_⟩
  · simp only [hi0 i hi]
    have hlh := hord _ (gAt_mem_of h0) k hk
    have h1 := Int.emod_nonneg (chB b (3 * gOf gs ps[i] + k)) (show (st0 (gAt gs ps[i]) k).2 - (st0 (gAt gs ps[i]) k).1 + 1 ≠ 0 by omega)
    have h2 := Int.emod_nonneg (chB b (9 + 3 * i + k)) (show vary + 1 ≠ 0 by omega)
    unfold stI baseI
    rw [if_neg h0]
    omega
  · simp only [hi0 i hi, hi0 j hj]
    have hgA : gAt gs ps[j] = gAt gs ps[i] := by unfold gAt; rw [hij]
    have h1 := Int.emod_nonneg (chB b (9 + 3 * j + k)) (show vary + 1 ≠ 0 by omega)
    have h2 := Int.emod_lt_of_pos (chB b (9 + 3 * i + k)) (show 0 < vary + 1 by omega)
    unfold stI baseI
    rw [if_neg h0, if_neg (by rw [hij]; exact h0), hgA, hij]
    omega
  · simp only [hi0 i hi]
    obtain ⟨u, -, rfl⟩ := List.mem_map.1 ht
    simp only [hT] at hp hs ⊢
    obtain ⟨e1, e2⟩ := at_self hg.up hi
    rw [hp, hs, e1, e2, Int.toNat_natCast]
    simp
theorem byId_map {α : Type} {id : α → Int} {ok : α → Bool} {f : α → α} (h1 : ∀ x, id (f x) = id x) (h2 : ∀ x, ok (f x) = ok x) : ∀ (l : List α) (n : Int), byIdL id ok (l.map f) n = byIdL id ok l n
  | [], _ => rfl
  | x :: l, n => by simp only [List.map_cons, byIdL, h1, h2, byId_map h1 h2 l]
theorem gChk_held {gs : List Gd} {vary : Int} {ps : List Pol} {ts : List Ts} (hc : gChk gs vary ps ts = 0) (b : List Int) : gChk gs vary ps (ts.map (hT gs vary b ps)) = 0 := by
  obtain ⟨h1, h2⟩ := gChk_ok hc
  simp only [okSheet, okTsL, Bool.and_eq_true, decide_eq_true_eq] at h2
  unfold gChk
  rw [if_pos h1, if_pos]
  simp only [okSheet, okTsL, Bool.and_eq_true, decide_eq_true_eq]
  exact ⟨h2.1, by rw [List.length_map]; exact h2.2.1, by rw [byId_map (f := hT gs vary b ps) (fun _ => rfl) (fun _ => rfl)]; exact h2.2.2⟩

end Go.Proofs.YtddpebnmjfmgdaaGreat
