/-
  alive.
-/
import Derived.Test.YthjpgpelbagceaaFvC
set_option linter.all false
namespace Go.Proofs.Ythjpgpelbagceaa
open Go.RowKit Go.Maps
open R6 (done done_ne done_me upd_ne upd_me)

attribute [local go_sem] gives

set_option maxRecDepth 100000 in
set_option maxHeartbeats 8000000 in
theorem alive_any (w : World) : Calls Try.prog 13 #[] w fun e w' => e = .returned (.bool true) ∧ Below w.heap.size w w' := by
  have hfi := fun A W (hz : FuAt W W.heap.size (exFu A)) => fingers_any (exFu A) (by simp [exFu]) (760000, 830000) W.heap.size W (Nat.le_refl _) hz
  unfold FinPost at hfi
  have e1 : ∀ A, finE (exFu A) (760000, 830000) = 0 := fun A => ex_fin.1
  have e2 : ∀ A, finL (exFu A) (760000, 830000) = [1, 3] := fun A => ex_fin.2
  simp only [e1, e2] at hfi
  have hdr := fun A A' W (hz : BkAt W W.heap.size (exBk A)) (ho : Vals W W.heap.size A' (pairs exOs)) => drill_any (exBk A) (by simp [exBk]) A' 3 exOs (by simp [exOs]) W.heap.size W (Nat.le_refl _) hz ho
  unfold DriPost at hdr
  have e3 : ∀ A, driE (exBk A) exOs = 0 := fun A => ex_dri.1
  have e4 : ∀ A, driL (exBk A) exOs = [415, 325, 278] := fun A => ex_dri.2
  simp only [e3, e4] at hdr
  have HFI := Lib.hid hfi
  have HDR := Lib.hid hdr
  have HTB := Lib.hid (fun W => tube_any W)
  have HBL := Lib.hid (fun W => blank_any W)
  have HSC := Lib.hid (fun W => scale_any W)
  have HS0 := Lib.hid (fun W => sounds_any 0 (by decide) 404761 419512 ex_t0 W)
  have HS1 := Lib.hid (fun W => sounds_any 1 (by decide) 765765 807511 ex_t1 W)
  have HP0 := Lib.hid (fun W => lawPlays_any 400000 420000 2 ex_p0 W)
  have HP1 := Lib.hid (fun W => lawPlays_any 410000 420000 1 ex_p1 W)
  have HP2 := Lib.hid (fun W => lawPlays_any 420000 430000 0 ex_p2 W)
  clear hfi hdr e1 e2 e3 e4
  unfold TubPost at HTB
  unfold BlaPost at HBL
  unfold ScaPost at HSC
  go_enter Try.func13, Try.ntmps13
  go_wp2_with (first
    | (go_at_call 31
       refine (sameInts9_any A5 _ c5 3 [415, 325, 278] [415, 325, 278] _ (w12.alloc (.cells #[.int .i64 415, .int .i64 325, .int .i64 278] 3)) (Ints.mono (Ints.below H12.out.1 (grow1 _ _)) (grow1 w12 (.cells #[.int .i64 415, .int .i64 325, .int .i64 278] 3)).size) (vals_in (L := ints [415, 325, 278]) (alloc_at0 w12 _) (lt_of_heap (alloc_at0 w12 _)) at0).ints (by decide) (by decide)).mono ?_
       rintro e w13 ⟨rfl, hB13⟩
       have H13 := Lib.hid (H12.out.2.trans (((grow1 w12 _).trans (hB13.mono (grow1 w12 _).size)).mono H12.out.2.size))
       clear hB13)
    | (go_at_call 41; (with_reducible show Calls _ _ #[.int .i64 420000, _, _] _ _); refine (HP2.out w11).mono ?_; rintro e w12 ⟨rfl, hB12⟩
       have hcv := conv_v9 (own_grows H11.out.2.2 hB12)
       rw [show strOfNums [1, 3] = { data := #[1, 3] } by rfl] at hcv
       have H12 := Lib.hid (And.intro (Ints.mono (Ints.below H11.out.1 hB12) hB12.size) (H11.out.2.1.trans (hB12.mono H11.out.2.1.size))); clear hB12)
    | (go_at_call 41; (with_reducible show Calls _ _ #[.int .i64 410000, _, _] _ _); refine (HP1.out w10).mono ?_; rintro e w11 ⟨rfl, hB11⟩; have H11 := Lib.hid (And.intro (Ints.mono (Ints.below H10.out.1 hB11) hB11.size) (And.intro (H10.out.2.1.trans (hB11.mono H10.out.2.1.size)) (own_grows H10.out.2.2 hB11))); clear hB11)
    | (go_at_call 41; refine (HP0.out w9).mono ?_; rintro e w10 ⟨rfl, hB10⟩; have H10 := Lib.hid (And.intro (Ints.mono (Ints.below H9.out.1 hB10) hB10.size) (And.intro (H9.out.2.1.trans (hB10.mono H9.out.2.1.size)) (own_grows H9.out.2.2 hB10))); clear hB10)
    | (go_at_call 14; (with_reducible show Calls _ _ #[_, .int .i64 765765, _] _ _); refine (HS1.out w8).mono ?_; rintro e w9 ⟨rfl, hB9⟩; have H9 := Lib.hid (And.intro (Ints.mono (Ints.below H8.out.1 hB9) hB9.size) (And.intro (H8.out.2.1.trans (hB9.mono H8.out.2.1.size)) (own_grows H8.out.2.2 hB9))); clear hB9)
    | (go_at_call 14; refine (HS0.out w7).mono ?_; rintro e w8 ⟨rfl, hB8⟩; have H8 := Lib.hid (And.intro (Ints.mono (Ints.below H7.out.1 hB8) hB8.size) (And.intro (H7.out.2.1.trans (hB8.mono H7.out.2.1.size)) (own_grows H7.out.2.2 hB8))); clear hB8)
    | (go_at_call 23
       refine (HDR.out _ _ w6 H6.out.1 H6.out.2.1).mono ?_
       rintro e w7 ⟨v, rfl, hU, hB7⟩
       obtain ⟨A5, c5, rfl⟩ := own_shape hU
       have H7 := Lib.hid (And.intro (OwnP.ints hU) (And.intro (H6.out.2.2.1.trans (hB7.mono H6.out.2.2.1.size)) (own_grows H6.out.2.2.2 hB7)))
       clear hU hB7)
    | (go_at_call 20; refine (HSC.out w5).mono ?_; rintro e w6 ⟨A6, rfl, hV, hB6⟩; have H6 := Lib.hid (And.intro (Ints.mono (Ints.below H5.out.1 hB6) hB6.size) (And.intro hV (And.intro (H5.out.2.1.trans (hB6.mono H5.out.2.1.size)) (own_grows H5.out.2.2 hB6)))); clear hV hB6)
    | (go_at_call 16; refine (HBL.out w4).mono ?_; rintro e w5 ⟨A4, rfl, hV, hB5⟩; have H5 := Lib.hid (And.intro hV (And.intro (H4.out.1.trans (hB5.mono H4.out.1.size)) (own_grows H4.out.2 hB5))); clear hV hB5)
    | (go_at_call 27
       refine (HFI.out _ w3 H3.out.1).mono ?_
       rintro e w4 ⟨u, rfl, hU, hB4⟩
       have H4 := Lib.hid (And.intro (H3.out.2.trans (hB4.mono H3.out.2.size)) hU)
       clear hU hB4)
    | (go_at_call 17; refine (span_any _ _ w2).mono ?_; rintro e w3 ⟨rfl, hB3⟩; have H3 := Lib.hid (And.intro (FuAt.mono (FuAt.below H2.out.1 hB3) hB3.size) (H2.out.2.trans (hB3.mono H2.out.2.size))); clear hB3)
    | (go_at_call 19; refine (HTB.out w).mono ?_; rintro e w2 ⟨A2, rfl, hz, hB2⟩; have H2 := Lib.hid (And.intro hz hB2); clear hz hB2))
  go_ret
  exact ⟨rfl, H13.out⟩

end Go.Proofs.Ythjpgpelbagceaa
