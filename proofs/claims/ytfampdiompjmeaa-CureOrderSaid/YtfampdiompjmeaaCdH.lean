/-
  The program's answers: after how many days poles are dry, and the levels of a pond.
-/
import Derived.Test.YtfampdiompjmeaaCdG
namespace Go.Proofs.Ytfampdiompjmeaa
open Go.RowKit

attribute [local go_sem] gives

theorem okS_iff {lo hi a b : Int} : okS lo hi a b = true ↔ lo ≤ hi ∧ a ≤ lo ∧ lo ≤ b ∧ a ≤ hi ∧ hi ≤ b := by
  simp only [okS, allB, List.all_cons, List.all_nil, Bool.and_true, Bool.and_eq_true, decide_eq_true_eq, inR_iff]
  omega
theorem drOk_of {d : Dr} (h : okDr d = true) : DrOk d := by
  simp only [okDr, Bool.and_eq_true, okS_iff] at h
  exact ⟨by omega, by omega, by omega, by omega, by omega, by omega, by omega, by omega⟩
theorem allB_bnd {lo hi : Int} {zs : List Int} (h : allB lo hi zs = true) : Bnd lo hi zs := by
  intro k hk
  simp only [allB, List.all_eq_true, inR_iff] at h
  have := h zs[k] (List.getElem_mem hk)
  simpa [hk] using this
theorem poOk_of {p : Po} {zs : List Int} (h : okPo p = true) (h2 : okDrains zs = true) : PoOk p zs := by
  simp only [okPo, Bool.and_eq_true, okS_iff] at h
  simp only [okDrains, Bool.and_eq_true, decide_eq_true_eq] at h2
  exact ⟨by omega, by omega, by omega, by omega, h2.1, allB_bnd h2.2⟩

/-- After how many days poles are dry, -1 if they are not; the answer. -/
def dryI (d : Dr) : Int := idxL (fun p => decide (p.2 ≤ d.most)) (wetA d) 0
def dryV (d : Dr) : Int := if okDr d = true then (if dryI d < 0 then 0 else dryI d) else 0
def dryE (d : Dr) : Int := if okDr d = true then (if dryI d < 0 then 6 else 0) else 41

set_option maxHeartbeats 2000000 in
theorem dry_any (d : Dr) (w : World) :
    Calls Try.prog 20 #[.agg (dcells d)] w fun e w' => e = .returned (.tuple #[.int .i64 (dryV d), .int .i64 (dryE d)]) ∧ Below w.heap.size w w' := by
  have hv := fun W => validDrying_any d W
  cases hok : okDr d with
  | false =>
    have e1 : dryV d = 0 := by simp [dryV, hok]
    have e2 : dryE d = 41 := by simp [dryE, hok]
    rw [e1, e2]
    rw [hok] at hv
    unfold dcells at hv ⊢
    have HV := Lib.hid hv
    clear hv e1 e2 hok
    go_enter Try.func20, Try.ntmps20
    go_wp2_with (go_at_call 52; refine (HV.out _).mono ?_; rintro e w1 ⟨rfl, hB1⟩; have H1 := Lib.hid hB1; clear hB1)
    go_ret2
    exact ⟨rfl, ((Below.refl _ w).alloc (Nat.le_refl _) _).trans (H1.out.mono (by simp))⟩
  | true =>
    have hw := fun W => wetness_any d (drOk_of hok) W
    have hx := fun b A c B W hB hb hz hl => indexDry_any d b A c (wetA d) B W hB hb hz hl
    have hb := idxL_bnd (P := fun p => decide (p.2 ≤ d.most)) (wetA d) 0
    rw [wetA_len] at hx hb
    have e1 : dryV d = if dryI d < 0 then 0 else dryI d := by simp [dryV, hok]
    have e2 : dryE d = if dryI d < 0 then 6 else 0 := by simp [dryE, hok]
    rw [e1, e2]
    rw [hok] at hv
    rw [show (idxL (fun p => decide (p.2 ≤ d.most)) (wetA d) 0) = dryI d from rfl] at hx hb
    unfold WetPost at hw
    generalize pairs (wetA d) = L at hw hx
    generalize dryI d = i at hx hb
    have hm : (w.alloc (.cells (dcells d) 41)).heap[w.heap.size]? = some (.cells (dcells d) 41 (0, 0)) := alloc_at0 w _
    have HM := Lib.hid hm
    unfold dcells at hv hw ⊢ hm
    have HV := Lib.hid hv
    have HW := Lib.hid hw
    have HX := Lib.hid hx
    clear hv hw hx hm e1 e2 hok
    by_cases hi : i < 0
    · rw [if_pos hi, if_pos hi]
      go_enter Try.func20, Try.ntmps20
      go_wp2_with (first
        | (go_at_call 52; refine (HV.out _).mono ?_; rintro e w1 ⟨rfl, hB1⟩
           have hs1 := hB1.size
           have hm1 := (hB1.block _ (by simp)).trans HM.out
           have hc1 := fun i => cell_of_row w1 w.heap.size i _ _ _ hm1
           unfold dcells at hc1
           have H1 := Lib.hid (And.intro hm1 (((Below.refl _ w).alloc (Nat.le_refl _) _).trans (hB1.mono (by simp))))
           simp only [World.size_alloc] at hs1
           clear hB1 hm1)
        | (go_at_call 54; refine (HW.out _).mono ?_; rintro e w2 ⟨A, c, rfl, hV2, hB2⟩
           have hm2 := (hB2.block _ (by omega)).trans H1.out.1
           have H2 := Lib.hid (And.intro hm2 (And.intro hV2 (H1.out.2.trans (hB2.mono H1.out.2.size))))
           clear hV2 hB2 hm2 hc1)
        | (go_at_call 53; refine (HX.out _ _ _ _ w2 (Nat.le_refl _) H2.out.1 H2.out.2.1 (by decide)).mono ?_; rintro e w3 ⟨rfl, hB3⟩
           have H3 := Lib.hid (H2.out.2.2.trans (hB3.mono H2.out.2.2.size))
           clear hB3))
      go_ret2
      exact ⟨rfl, H3.out⟩
    · rw [if_neg hi, if_neg hi]
      go_enter Try.func20, Try.ntmps20
      go_wp2_with (first
        | (go_at_call 52; refine (HV.out _).mono ?_; rintro e w1 ⟨rfl, hB1⟩
           have hs1 := hB1.size
           have hm1 := (hB1.block _ (by simp)).trans HM.out
           have hc1 := fun i => cell_of_row w1 w.heap.size i _ _ _ hm1
           unfold dcells at hc1
           have H1 := Lib.hid (And.intro hm1 (((Below.refl _ w).alloc (Nat.le_refl _) _).trans (hB1.mono (by simp))))
           simp only [World.size_alloc] at hs1
           clear hB1 hm1)
        | (go_at_call 54; refine (HW.out _).mono ?_; rintro e w2 ⟨A, c, rfl, hV2, hB2⟩
           have hm2 := (hB2.block _ (by omega)).trans H1.out.1
           have H2 := Lib.hid (And.intro hm2 (And.intro hV2 (H1.out.2.trans (hB2.mono H1.out.2.size))))
           clear hV2 hB2 hm2 hc1)
        | (go_at_call 53; refine (HX.out _ _ _ _ w2 (Nat.le_refl _) H2.out.1 H2.out.2.1 (by decide)).mono ?_; rintro e w3 ⟨rfl, hB3⟩
           have H3 := Lib.hid (H2.out.2.2.trans (hB3.mono H2.out.2.2.size))
           clear hB3))
      go_ret2
      exact ⟨rfl, H3.out⟩

/-- The levels, the first day above the limit, the error. -/
def okLev (p : Po) (zs : List Int) : Bool := okPo p && okDrains zs
def levsV (p : Po) (zs : List Int) : List (Int × Int) := if okLev p zs = true then levL p 0 0 zs else []
def levsF (p : Po) (zs : List Int) : Int := if okLev p zs = true then idxL (fun q => decide (p.lim < q.2)) (levL p 0 0 zs) 0 else 0
def levsE (p : Po) (zs : List Int) : Int := if okLev p zs = true then 0 else 42
def LevsPost (w : World) (p : Po) (zs : List Int) (e : Ending) (w' : World) : Prop :=
  ∃ A c, e = .returned (.tuple #[.slice A (levsV p zs).length c, .int .i64 (levsF p zs), .int .i64 (levsE p zs)]) ∧ Vals w' w'.heap.size A (pairs (levsV p zs)) ∧ Below w.heap.size w w'

set_option maxHeartbeats 2000000 in
theorem levels_any (p : Po) (zs : List Int) (A : Option Addr) (cap : Nat) (B : Nat) (w : World) (hB : B ≤ w.heap.size) (hz : Ints w B A zs) (hl : zs.length ≤ 1000000) :
    Calls Try.prog 22 #[.agg (pcells p), .slice A zs.length cap] w (LevsPost w p zs) := by
  have hv := fun W => validPond_any p W
  have hg : Below w.heap.size w (w.alloc (.cells (pcells p) 46)) := (Below.refl _ _).alloc (Nat.le_refl _) _
  have hv2 := fun W (hW : Below w.heap.size w W) => validDrains_any A cap zs B W (Nat.le_trans hB hW.size) (hz.below (hW.mono hB)) hl
  have hm : (w.alloc (.cells (pcells p) 46)).heap[w.heap.size]? = some (.cells (pcells p) 46 (0, 0)) := alloc_at0 w _
  have hlv := fun W (hW : Below w.heap.size w W) hok => levelsOf_any p zs A cap B W (Nat.le_trans hB hW.size) (hz.below (hW.mono hB)) hok
  have HZ := Lib.hid hz
  clear hz
  rcases (by cases okPo p <;> cases okDrains zs <;> simp : okPo p = false ∨ (okPo p = true ∧ okDrains zs = false) ∨ (okPo p = true ∧ okDrains zs = true)) with h1 | ⟨h1, h2⟩ | ⟨h1, h2⟩
  · have e0 : okLev p zs = false := by simp [okLev, h1]
    unfold LevsPost
    rw [show levsV p zs = [] by simp [levsV, e0], show levsF p zs = 0 by simp [levsF, e0], show levsE p zs = 42 by simp [levsE, e0]]
    rw [h1] at hv
    unfold pcells at hv hg ⊢
    have HV := Lib.hid hv
    have HG := Lib.hid hg
    clear hv hg hv2 hm hlv e0 h1
    go_enter Try.func22, Try.ntmps22
    go_wp2_with (go_at_call 56; refine (HV.out _).mono ?_; rintro e w1 ⟨rfl, hB1⟩; have H1 := Lib.hid hB1; clear hB1)
    go_ret3
    exact ⟨none, 0, rfl, vals_nil _ _, HG.out.trans (H1.out.mono (by simp))⟩
  · have e0 : okLev p zs = false := by simp [okLev, h2]
    unfold LevsPost
    rw [show levsV p zs = [] by simp [levsV, e0], show levsF p zs = 0 by simp [levsF, e0], show levsE p zs = 42 by simp [levsE, e0]]
    rw [h1] at hv
    rw [h2] at hv2
    unfold pcells at hv hg ⊢
    have HV := Lib.hid hv
    have HV2 := Lib.hid hv2
    have HG := Lib.hid hg
    clear hv hg hv2 hm hlv e0 h1 h2
    go_enter Try.func22, Try.ntmps22
    go_wp2_with (first
      | (go_at_call 56; refine (HV.out _).mono ?_; rintro e w1 ⟨rfl, hB1⟩; have H1 := Lib.hid (HG.out.trans (hB1.mono (by simp))); clear hB1)
      | (go_at_call 57; refine (HV2.out w1 H1.out).mono ?_; rintro e w2 ⟨rfl, hB2⟩; have H2 := Lib.hid (H1.out.trans (hB2.mono H1.out.size)); clear hB2))
    go_ret3
    exact ⟨none, 0, rfl, vals_nil _ _, H2.out⟩
  · have e0 : okLev p zs = true := by simp [okLev, h1, h2]
    unfold LevsPost
    rw [show levsV p zs = levL p 0 0 zs by simp [levsV, e0], show levsF p zs = idxL (fun q => decide (p.lim < q.2)) (levL p 0 0 zs) 0 by simp [levsF, e0], show levsE p zs = 0 by simp [levsE, e0]]
    have hok := poOk_of h1 h2
    have hlv := fun W hW => hlv W hW hok
    have hx := fun b A c B W hB hb hz hl => indexLev_any p b A c (levL p 0 0 zs) B W hB hb hz hl
    unfold LevPost at hlv
    rw [levL_len] at hx ⊢
    generalize levL p 0 0 zs = L at hlv hx
    generalize idxL (fun q => decide (p.lim < q.2)) L 0 = i at hx
    rw [h1] at hv
    rw [h2] at hv2
    have HM := Lib.hid hm
    unfold pcells at hv hg hlv ⊢ hm
    have HV := Lib.hid hv
    have HV2 := Lib.hid hv2
    have HLV := Lib.hid hlv
    have HX := Lib.hid hx
    have HG := Lib.hid hg
    clear hv hg hv2 hm hlv e0 h1 h2 hok hx
    go_enter Try.func22, Try.ntmps22
    go_wp2_with (first
      | (go_at_call 56; refine (HV.out _).mono ?_; rintro e w1 ⟨rfl, hB1⟩
         have hm1 := (hB1.block _ (by simp)).trans HM.out
         have H1 := Lib.hid (And.intro (HG.out.trans (hB1.mono (by simp))) hm1)
         clear hB1 hm1)
      | (go_at_call 57; refine (HV2.out w1 H1.out.1).mono ?_; rintro e w2 ⟨rfl, hB2⟩
         have hm2 := (hB2.block _ (lt_of_heap H1.out.2)).trans H1.out.2
         have hc2 := fun i => cell_of_row w2 w.heap.size i _ _ _ hm2
         unfold pcells at hc2
         have H2 := Lib.hid (And.intro (H1.out.1.trans (hB2.mono H1.out.1.size)) hm2)
         clear hB2 hm2)
      | (go_at_call 58; refine (HLV.out w2 H2.out.1).mono ?_; rintro e w3 ⟨D, rfl, hV3, hB3⟩
         have hm3 := (hB3.block _ (lt_of_heap H2.out.2)).trans H2.out.2
         have H3 := Lib.hid (And.intro (H2.out.1.trans (hB3.mono H2.out.1.size)) (And.intro hm3 hV3))
         clear hB3 hm3 hV3 hc2)
      | (go_at_call 53; refine (HX.out _ _ _ _ w3 (Nat.le_refl _) H3.out.2.1 H3.out.2.2 hl).mono ?_; rintro e w4 ⟨rfl, hB4⟩
         have H4 := Lib.hid (And.intro (H3.out.1.trans (hB4.mono H3.out.1.size)) ((H3.out.2.2.below hB4).mono hB4.size))
         clear hB4))
    go_ret3
    exact ⟨D, _, rfl, H4.out.2, H4.out.1⟩

end Go.Proofs.Ytfampdiompjmeaa
