/-
  The sticks of trunks, or the error (the program's).
-/
import Derived.Test.YtepkkhdfobhhjaaStG
namespace Go.Proofs.Ytepkkhdfobhhjaa
open Go.RowKit

/-- The error of sawing, and the sticks. -/
def sawE (E : List (Int × Int × List Int)) (saw : Int) : Int := if okTks E = true then (if allB 0 50 [saw] = true then (if (sawF saw 0 E).length ≤ 16 then 0 else 71) else 2) else 70
def sawS (E : List (Int × Int × List Int)) (saw : Int) : List T3 := if sawE E saw = 0 then sawF saw 0 E else []
def SawPost (w : World) (L : List T3) (er : Int) (e : Ending) (w' : World) : Prop := ∃ A c, e = .returned (.tuple #[.slice A L.length c, .int .i64 er]) ∧ Vals w' w'.heap.size A (L.flatMap t3) ∧ Below w.heap.size w w'
theorem SawPost.nil {w w' : World} {er : Int} (h : Below w.heap.size w w') : SawPost w [] er (.returned (.tuple #[.slice none 0 0, .int .i64 er])) w' := ⟨none, 0, rfl, fun h => by simp at h, h⟩
theorem saw_bnd {saw : Int} (h : allB 0 50 [saw] = true) : 0 ≤ saw ∧ saw ≤ 50 := by
  simp only [allB, List.all_cons, List.all_nil, Bool.and_true, inR_iff] at h
  omega
theorem okTks_all {l : List Tk} (h : okTks (l.map tkE) = true) : l.length ≤ 6 ∧ ∀ x ∈ l, okTk (tkE x) = true := by
  simp only [okTks, Bool.and_eq_true, decide_eq_true_eq, List.length_map, List.all_eq_true, List.mem_map, forall_exists_index, and_imp, forall_apply_eq_imp_iff₂] at h
  exact h

set_option maxRecDepth 100000 in
theorem saw_any (A : Option Addr) (cap : Nat) (l : List Tk) (saw : Int) (B : Nat) (w : World) (hB : B ≤ w.heap.size) (hz : TksAt w B l A) (hl : smallT l) :
    Calls Try.prog 13 #[.slice A l.length cap, .int .i64 saw] w (SawPost w (sawS (l.map tkE) saw) (sawE (l.map tkE) saw)) := by
  have hv := validTrunks_any A cap l B w hB hz hl
  have hw := fun W b hb => within_new 0 50 [saw] W b 1 1 rfl hb (by simp)
  have hs := fun (h : okTks (l.map tkE) = true) (h0 : 0 ≤ saw) (h5 : saw ≤ 50) W (hW : Below w.heap.size w W) => sawn_any A cap l saw B W (Nat.le_trans hB hW.size) (hz.below (hW.mono hB)) hl (okTks_all h).2 h0 h5
  unfold sawS sawE
  have hb := fun h => saw_bnd (saw := saw) h
  generalize allB 0 50 [saw] = v2 at hw hb ⊢
  generalize sawF saw 0 (l.map tkE) = L at hs ⊢
  generalize okTks (l.map tkE) = v1 at hv hs ⊢
  have HV := Lib.hid hv
  have HW := Lib.hid hw
  have HS := Lib.hid hs
  have HB := Lib.hid hb
  clear hv hw hs hz hl hb
  cases v1
  · simp only [Bool.false_eq_true, if_false, show ((70 : Int) = 0) = False by simp]
    go_enter Try.func13, Try.ntmps13
    go_wp2_with (go_at_call 37; refine HV.out.mono ?_; rintro e W1 ⟨rfl, hB1⟩; have H1 := Lib.hid hB1; clear hB1)
    refine bodyPost_ret (v := .tuple #[.slice none 0 0, .int .i64 70]) (by simp [results, Try.results13, go_sem]) rfl ?_
    exact SawPost.nil H1.out
  cases v2
  · simp only [if_true, Bool.false_eq_true, if_false, show ((2 : Int) = 0) = False by simp]
    go_enter Try.func13, Try.ntmps13
    go_wp2_with (first
      | (go_at_call 38; refine (HW.out _ _ (alloc_at0 _ _)).mono ?_; rintro e W3 ⟨rfl, hB3⟩; have H3 := Lib.hid ((H2.out.alloc H2.out.size _).trans (hB3.mono (H2.out.alloc H2.out.size _).size)); clear hB3)
      | (go_at_call 39; refine (upTo_any 50 _).mono ?_; rintro e W2 ⟨rfl, hB2⟩; have H2 := Lib.hid (H1.out.trans (hB2.mono H1.out.size)); clear hB2)
      | (go_at_call 37; refine HV.out.mono ?_; rintro e W1 ⟨rfl, hB1⟩; have H1 := Lib.hid hB1; clear hB1))
    refine bodyPost_ret (v := .tuple #[.slice none 0 0, .int .i64 2]) (by simp [results, Try.results13, go_sem]) rfl ?_
    exact SawPost.nil H3.out
  have hb2 := HB.out rfl
  have hs2 := HS.out rfl hb2.1 hb2.2
  have HS2 := Lib.hid hs2
  clear hb2 hs2 HS HB
  by_cases hL : L.length ≤ 16
  · have hLi : ((L.length : Nat) : Int) ≤ 16 := by omega
    have hLd : decide ((16 : Int) < (L.length : Int)) = false := decide_eq_false (by omega)
    simp only [if_true, if_pos hL]
    have HL := Lib.hid hL
    clear hL
    go_enter Try.func13, Try.ntmps13
    go_wp2_with (first
      | (go_at_call 40; refine (HS2.out _ H3.out).mono ?_; rintro e W4 ⟨A4, c4, rfl, hv4, hB4⟩; have H4 := Lib.hid (And.intro hv4 (H3.out.trans (hB4.mono H3.out.size))); clear hv4 hB4)
      | (go_at_call 38; refine (HW.out _ _ (alloc_at0 _ _)).mono ?_; rintro e W3 ⟨rfl, hB3⟩; have H3 := Lib.hid ((H2.out.alloc H2.out.size _).trans (hB3.mono (H2.out.alloc H2.out.size _).size)); clear hB3)
      | (go_at_call 39; refine (upTo_any 50 _).mono ?_; rintro e W2 ⟨rfl, hB2⟩; have H2 := Lib.hid (H1.out.trans (hB2.mono H1.out.size)); clear hB2)
      | (go_at_call 37; refine HV.out.mono ?_; rintro e W1 ⟨rfl, hB1⟩; have H1 := Lib.hid hB1; clear hB1))
    refine bodyPost_ret (v := .tuple #[.slice A4 L.length c4, .int .i64 0]) (by simp [results, Try.results13, go_sem]) rfl ?_
    exact ⟨A4, c4, rfl, H4.out.1, H4.out.2⟩
  · have hLi : (16 : Int) < ((L.length : Nat) : Int) := by omega
    have hLd : decide ((16 : Int) < (L.length : Int)) = true := decide_eq_true (by omega)
    simp only [if_true, if_neg hL, show ((71 : Int) = 0) = False by simp, if_false]
    clear hL
    go_enter Try.func13, Try.ntmps13
    go_wp2_with (first
      | (go_at_call 40; refine (HS2.out _ H3.out).mono ?_; rintro e W4 ⟨A4, c4, rfl, hv4, hB4⟩; have H4 := Lib.hid (And.intro hv4 (H3.out.trans (hB4.mono H3.out.size))); clear hv4 hB4)
      | (go_at_call 38; refine (HW.out _ _ (alloc_at0 _ _)).mono ?_; rintro e W3 ⟨rfl, hB3⟩; have H3 := Lib.hid ((H2.out.alloc H2.out.size _).trans (hB3.mono (H2.out.alloc H2.out.size _).size)); clear hB3)
      | (go_at_call 39; refine (upTo_any 50 _).mono ?_; rintro e W2 ⟨rfl, hB2⟩; have H2 := Lib.hid (H1.out.trans (hB2.mono H1.out.size)); clear hB2)
      | (go_at_call 37; refine HV.out.mono ?_; rintro e W1 ⟨rfl, hB1⟩; have H1 := Lib.hid hB1; clear hB1))
    refine bodyPost_ret (v := .tuple #[.slice none 0 0, .int .i64 71]) (by simp [results, Try.results13, go_sem]) rfl ?_
    exact SawPost.nil H4.out.2

/-- Whether trunks are more than is looked at. -/
def greatB (l : List Tk) : Bool := decide (10 < l.length) || l.any fun x => decide (10 < x.zs.length)
set_option maxHeartbeats 1000000 in
theorem greatTrunks_any (A : Option Addr) (cap : Nat) (l : List Tk) (B : Nat) (w : World) (hB : B ≤ w.heap.size) (hz : TksAt w B l A) :
    Calls Try.prog 11 #[.slice A l.length cap] w fun e w' => e = .returned (.bool (greatB l)) ∧ Below w.heap.size w w' := by
  by_cases h10 : 10 < l.length
  · have e : greatB l = true := by simp [greatB, h10]
    have hi : (10 : Int) < l.length := by omega
    rw [e]
    clear e h10 hz
    go_enter Try.func11, Try.ntmps11
    go_wp2
    go_ret
    exact ⟨rfl, Below.refl _ _⟩
  have e : greatB l = (l.drop 0).any fun x => decide (10 < x.zs.length) := by simp [greatB, h10]
  have hi : (l.length : Int) ≤ 10 := by omega
  rw [e]
  have HZ := Lib.hid hz
  clear e hz
  go_enter Try.func11, Try.ntmps11
  go_wp2
  go_loopg [3] l.length (fun gg s3 wx => ∃ k : Nat, k + gg = l.length ∧ s3 = .int .i64 k ∧ Hid ((l.drop k).any (fun x => decide (10 < x.zs.length)) = (l.drop 0).any fun x => decide (10 < x.zs.length)) ∧ wx = w)
  case atStart => exact ⟨0, by omega, rfl, rfl, rfl⟩
  case round =>
    obtain ⟨k, hkg, rfl, hI, rfl⟩ := hrel
    cases gk with
    | zero =>
      obtain rfl : k = l.length := by omega
      go_wp2
      go_ret
      exact ⟨by rw [← hI.out, List.drop_length]; rfl, Below.refl _ _⟩
    | succ gg =>
      have hk : k < l.length := by omega
      have hkz : (k : Int) < l.length := by omega
      obtain ⟨c, off, hA, hcB, hc⟩ := vals_elem tkc_len HZ.out.v (by decide) hk
      subst hA
      have hc2 := hc 2 _ rfl
      have hI2 := hI.out
      rw [List.drop_eq_getElem_cons hk, List.any_cons] at hI2
      generalize l[k] = y at hc2 hI2
      have HI := Lib.hid hI2
      clear hI2 hc
      by_cases hy : 10 < y.zs.length
      · have hyi : (10 : Int) < y.zs.length := by omega
        go_wp2
        go_ret
        exact ⟨by rw [← HI.out, decide_eq_true hy]; rfl, Below.refl _ _⟩
      · have hyi : ¬ (10 : Int) < y.zs.length := by omega
        have hyd : decide (10 < y.zs.length) = false := decide_eq_false hy
        rw [hyd, Bool.false_or] at HI
        clear hyd hy
        go_wp2
        go_roundg gg
        case measure => omega
        case rel => exact ⟨k + 1, by omega, by go_num, HI.out, rfl⟩

end Go.Proofs.Ytepkkhdfobhhjaa
