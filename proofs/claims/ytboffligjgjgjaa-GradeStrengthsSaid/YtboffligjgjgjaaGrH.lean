/-
  Things that are listed by Ids.
-/
import Derived.Test.YtboffligjgjgjaaGrG
namespace Go.Proofs.Ytboffligjgjgjaa
open Go.RowKit
open R6 (done done_ne done_me upd_ne upd_me)

attribute [local go_sem] gives

theorem grId2_any (y : Pol) (w : World) : Calls Try.prog 54 #[.agg (pcl y).toArray] w fun e w' => e = .returned (.int .i64 y.id) ∧ Below w.heap.size w w' := by
  unfold pcl
  go_enter Try.func54, Try.ntmps54
  go_wp2
  go_ret
  exact ⟨rfl, grow1 _ _⟩

theorem grId3_any (y : Ts) (w : World) : Calls Try.prog 57 #[.agg (tcl y).toArray] w fun e w' => e = .returned (.int .i64 y.id) ∧ Below w.heap.size w w' := by
  unfold tcl
  go_enter Try.func57, Try.ntmps57
  go_wp2
  go_ret
  exact ⟨rfl, grow1 _ _⟩

set_option maxRecDepth 100000 in
set_option maxHeartbeats 4000000 in
theorem grByP_any (ok : Pol → Bool) (most : Int) (A : Option Addr) (cap : Nat) (l : List Pol) (B : Nat) (w : World) (hB : B ≤ w.heap.size) (hz : Vals w B A (l.flatMap pcl)) (hl : l.length ≤ 1000000)
    (HF : ∀ (y : Pol) (W : World), y ∈ l → Below w.heap.size w W → Calls Try.prog 55 #[.agg (pcl y).toArray] W fun e w' => e = .returned (.bool (ok y)) ∧ Below W.heap.size W w') :
    Calls Try.prog 53 #[.slice A l.length cap, .int .i64 most, .func (.func 54) #[] #[], .func (.func 55) #[] #[]] w fun e w' => e = .returned (.bool (decide ((l.length : Int) ≤ most) && byIdL Pol.id ok l 0)) ∧ Below w.heap.size w w' := by
  have HW := Lib.hid (fun (lo hi : Int) (n : Int) (W : World) => grWithin_new lo hi [n] (W.alloc (.cells #[.int .i64 n] 3)) W.heap.size 1 1 rfl (alloc_at0 W _) (by simp))
  have HZ := Lib.hid hz
  have HFF := Lib.hid HF
  clear hz HF
  by_cases hm : (l.length : Int) ≤ most
  · rw [show decide ((l.length : Int) ≤ most) = true by simpa using hm, Bool.true_and]
    have hm2 : ¬ most < (l.length : Int) := by omega
    clear hm
    go_enter Try.func53, Try.ntmps53
    go_wp2
    go_loopg [9, 18] l.length (fun gg s9 s18 wx => ∃ (k : Nat) (n : Int), k + gg = l.length ∧ s18 = .int .i64 k ∧ s9 = .int .i64 n ∧ (0 ≤ n ∧ n ≤ 10000) ∧ Hid (byIdL Pol.id ok (l.drop k) n = byIdL Pol.id ok l 0) ∧ Hid (Below w.heap.size w wx))
    case atStart => exact ⟨0, 0, by omega, rfl, rfl, by omega, rfl, Below.refl _ _⟩
    case round =>
      obtain ⟨k, n, hkg, rfl, rfl, hn, hI, hM⟩ := hrel
      obtain ⟨hn0, hn1⟩ := hn
      cases gk with
      | zero =>
        have hI' := hI.out
        obtain rfl : k = l.length := by omega
        rw [List.drop_length] at hI'
        have HI := Lib.hid hI'
        clear hI'
        go_wp2
        go_ret
        exact ⟨by rw [← HI.out]; rfl, hM.out⟩
      | succ gg =>
        have hk : k < l.length := by omega
        have hkz : (k : Int) < l.length := by omega
        obtain ⟨c, off, hA, hcB, hc⟩ := vals_elem pcl_len HZ.out (by decide) hk
        subst hA
        have hc' : ∀ j v, (pcl l[k])[j]? = some v → wr.cell? ⟨c, off + k * 12 + j, none⟩ = some v := fun j v hv => (hM.out.cell (p := ⟨c, off + k * 12 + j, none⟩) (by simp; omega)).trans (hc j v hv)
        have hst : byIdL Pol.id ok (l.drop k) n = (inR l[k].id n 9999 && (ok l[k] && byIdL Pol.id ok (l.drop (k + 1)) (l[k].id + 1))) := by rw [List.drop_eq_getElem_cons hk]; rfl
        rw [hI.out] at hst
        have hy := fun W' (h : Below wr.heap.size wr W') => HFF.out l[k] W' (List.getElem_mem hk) (hM.out.trans (h.mono hM.out.size))
        generalize l[k] = y at hc' hst hy
        have hid := fun W' => grId2_any y W'
        have HY := Lib.hid hy
        have HST := Lib.hid hst
        have HCC := Lib.hid hc'
        have HID := Lib.hid hid
        clear hc hc' hst hy hid
        have ea : inR y.id n 9999 = allB n 9999 [y.id] := by simp [allB]
        rw [ea] at HST
        clear ea
        cases ha : allB n 9999 [y.id] with
        | false =>
          rw [ha] at HST
          have HA := Lib.hid ha
          clear ha
          generalize hyi : y.id = yi at HID HA
          clear hyi
          go_wp2_with (first
            | (show wpList _ _ _ (Oper.mk (some 21) _ _ _ _ _ :: _) _ _
               refine wpList_load_at 58 (.tmp 20) rfl rfl rfl (pcl y) HCC.out rowPole ?_)
            | (show wpList _ _ _ (Oper.mk none (Op.store _ (Operand.tmp 11) (Operand.tmp 21)) _ _ _ _ :: _) _ _
               refine wpList_store_blk 58 (.tmp 11) (.tmp 21) rfl rfl rfl rfl rfl (alloc_at0 wr _) (Nat.le_of_ble_eq_true rfl) (fun v hv => pcl_one [y] v (by simpa using hv)) rowPole ?_
               intro w5 hP5 hM5
               rw [splice_whole (by rfl)] at hM5
               have H5 := Lib.hid (And.intro ((grow1 wr _).trans (hP5.below (Nat.le_refl _))) hM5)
               clear hP5 hM5)
            | (show wpList _ _ _ (Oper.mk (some 25) _ _ _ _ _ :: _) _ _
               refine wpList_load_blk 58 (.tmp 11) rfl rfl rfl H5.out.2 (pcl y) at0 rowPole ?_)
            | (go_at_call 54
               refine (HID.out w5).mono ?_
               rintro e w6 ⟨rfl, hB6⟩
               have H6 := Lib.hid (H5.out.1.trans (hB6.mono H5.out.1.size))
               clear hB6)
            | (go_at_call 37
               refine (HW.out n 9999 yi w6).mono ?_
               rintro e w7 ⟨rfl, hB7⟩
               rw [HA.out]
               have H7 := Lib.hid (H6.out.trans (((grow1 w6 _).trans (hB7.mono (by simp))).mono H6.out.size))
               clear hB7))
          go_ret
          exact ⟨by rw [HST.out]; rfl, hM.out.trans (H7.out.mono hM.out.size)⟩
        | true =>
          have hyb : n ≤ y.id ∧ y.id ≤ 9999 := by have := ha; simpa [allB, inR_iff] using this
          obtain ⟨hyb0, hyb1⟩ := hyb
          cases hp : ok y
          all_goals
            rw [ha, hp] at HST
            rw [hp] at HY
            have HA := Lib.hid ha
            clear ha hp
            generalize hyi : y.id = yi at HID HA HST hyb0 hyb1
            have HYI := Lib.hid hyi
            clear hyi
            go_wp2_with (first
              | (show wpList _ _ _ (Oper.mk (some 21) _ _ _ _ _ :: _) _ _
                 refine wpList_load_at 58 (.tmp 20) rfl rfl rfl (pcl y) HCC.out rowPole ?_)
              | (show wpList _ _ _ (Oper.mk none (Op.store _ (Operand.tmp 11) (Operand.tmp 21)) _ _ _ _ :: _) _ _
                 refine wpList_store_blk 58 (.tmp 11) (.tmp 21) rfl rfl rfl rfl rfl (alloc_at0 wr _) (Nat.le_of_ble_eq_true rfl) (fun v hv => pcl_one [y] v (by simpa using hv)) rowPole ?_
                 intro w5 hP5 hM5
                 rw [splice_whole (by rfl)] at hM5
                 have H5 := Lib.hid (And.intro ((grow1 wr _).trans (hP5.below (Nat.le_refl _))) hM5)
                 clear hP5 hM5)
              | (show wpList _ _ _ (Oper.mk (some 25) _ _ _ _ _ :: _) _ _
                 refine wpList_load_blk 58 (.tmp 11) rfl rfl rfl H5.out.2 (pcl y) at0 rowPole ?_)
              | (show wpList _ _ _ (Oper.mk (some 32) _ _ _ _ _ :: _) _ _
                 refine wpList_load_blkG 58 (.tmp 11) rfl rfl rfl H7.out.2 (pcl y) at0 rowPole ?_)
              | (show wpList _ _ _ (Oper.mk (some 37) _ _ _ _ _ :: _) _ _
                 refine wpList_load_blk 58 (.tmp 11) rfl rfl rfl H8.out.2 (pcl y) at0 rowPole ?_)
              | (go_at_call 55
                 refine (HY.out w7 H7.out.1).mono ?_
                 rintro e w8 ⟨rfl, hB8⟩
                 have H8 := Lib.hid (And.intro (H7.out.1.trans (hB8.mono H7.out.1.size)) ((hB8.block _ (lt_of_heap H7.out.2)).trans H7.out.2))
                 clear hB8)
              | (go_at_call 54
                 refine (HID.out w8).mono ?_
                 rintro e w9 ⟨rfl, hB9⟩
                 have H9 := Lib.hid (H8.out.1.trans (hB9.mono H8.out.1.size))
                 clear hB9)
              | (go_at_call 54
                 refine (HID.out w5).mono ?_
                 rintro e w6 ⟨rfl, hB6⟩
                 have H6 := Lib.hid (And.intro (H5.out.1.trans (hB6.mono H5.out.1.size)) ((hB6.block _ (lt_of_heap H5.out.2)).trans H5.out.2))
                 clear hB6)
              | (go_at_call 37
                 refine (HW.out n 9999 yi w6).mono ?_
                 rintro e w7 ⟨rfl, hB7⟩
                 rw [HA.out]
                 have hb7 := (grow1 w6 (.cells #[.int .i64 yi] 3)).trans (hB7.mono (by simp))
                 have H7 := Lib.hid (And.intro (H6.out.1.trans (hb7.mono H6.out.1.size)) ((hb7.block _ (lt_of_heap H6.out.2)).trans H6.out.2))
                 clear hB7 hb7))
          rotate_left
          · go_roundg gg
            case measure => omega
            case rel => exact ⟨k + 1, yi + 1, by omega, by go_num, by go_num, by omega, by rw [HST.out]; rfl, hM.out.trans (H9.out.mono hM.out.size)⟩
          · go_ret
            exact ⟨by rw [HST.out]; rfl, hM.out.trans (H8.out.1.mono hM.out.size)⟩
  · rw [show decide ((l.length : Int) ≤ most) = false by simpa using hm, Bool.false_and]
    have hm2 : most < (l.length : Int) := by omega
    clear hm
    go_enter Try.func53, Try.ntmps53
    go_wp2
    go_ret
    exact ⟨rfl, Below.refl _ _⟩

set_option maxRecDepth 100000 in
set_option maxHeartbeats 4000000 in
theorem grByT_any (ok : Ts → Bool) (most : Int) (bx : Nat) (A : Option Addr) (cap : Nat) (l : List Ts) (B : Nat) (w : World) (hB : B ≤ w.heap.size) (hz : Vals w B A (l.flatMap tcl)) (hl : l.length ≤ 1000000)
    (HF : ∀ (y : Ts) (W : World), y ∈ l → Below w.heap.size w W → Calls Try.prog 52 #[.agg (tcl y).toArray, .pointer (some ⟨bx, 0, none⟩)] W fun e w' => e = .returned (.bool (ok y)) ∧ Below W.heap.size W w') :
    Calls Try.prog 56 #[.slice A l.length cap, .int .i64 most, .func (.func 57) #[] #[], .func (.func 52) #[] #[.pointer (some ⟨bx, 0, none⟩)]] w fun e w' => e = .returned (.bool (decide ((l.length : Int) ≤ most) && byIdL Ts.id ok l 0)) ∧ Below w.heap.size w w' := by
  have HW := Lib.hid (fun (lo hi : Int) (n : Int) (W : World) => grWithin_new lo hi [n] (W.alloc (.cells #[.int .i64 n] 3)) W.heap.size 1 1 rfl (alloc_at0 W _) (by simp))
  have HZ := Lib.hid hz
  have HFF := Lib.hid HF
  clear hz HF
  by_cases hm : (l.length : Int) ≤ most
  · rw [show decide ((l.length : Int) ≤ most) = true by simpa using hm, Bool.true_and]
    have hm2 : ¬ most < (l.length : Int) := by omega
    clear hm
    go_enter Try.func56, Try.ntmps56
    go_wp2
    go_loopg [9, 18] l.length (fun gg s9 s18 wx => ∃ (k : Nat) (n : Int), k + gg = l.length ∧ s18 = .int .i64 k ∧ s9 = .int .i64 n ∧ (0 ≤ n ∧ n ≤ 10000) ∧ Hid (byIdL Ts.id ok (l.drop k) n = byIdL Ts.id ok l 0) ∧ Hid (Below w.heap.size w wx))
    case atStart => exact ⟨0, 0, by omega, rfl, rfl, by omega, rfl, Below.refl _ _⟩
    case round =>
      obtain ⟨k, n, hkg, rfl, rfl, hn, hI, hM⟩ := hrel
      obtain ⟨hn0, hn1⟩ := hn
      cases gk with
      | zero =>
        have hI' := hI.out
        obtain rfl : k = l.length := by omega
        rw [List.drop_length] at hI'
        have HI := Lib.hid hI'
        clear hI'
        go_wp2
        go_ret
        exact ⟨by rw [← HI.out]; rfl, hM.out⟩
      | succ gg =>
        have hk : k < l.length := by omega
        have hkz : (k : Int) < l.length := by omega
        obtain ⟨c, off, hA, hcB, hc⟩ := vals_elem tcl_len HZ.out (by decide) hk
        subst hA
        have hc' : ∀ j v, (tcl l[k])[j]? = some v → wr.cell? ⟨c, off + k * 5 + j, none⟩ = some v := fun j v hv => (hM.out.cell (p := ⟨c, off + k * 5 + j, none⟩) (by simp; omega)).trans (hc j v hv)
        have hst : byIdL Ts.id ok (l.drop k) n = (inR l[k].id n 9999 && (ok l[k] && byIdL Ts.id ok (l.drop (k + 1)) (l[k].id + 1))) := by rw [List.drop_eq_getElem_cons hk]; rfl
        rw [hI.out] at hst
        have hy := fun W' (h : Below wr.heap.size wr W') => HFF.out l[k] W' (List.getElem_mem hk) (hM.out.trans (h.mono hM.out.size))
        generalize l[k] = y at hc' hst hy
        have hid := fun W' => grId3_any y W'
        have HY := Lib.hid hy
        have HST := Lib.hid hst
        have HCC := Lib.hid hc'
        have HID := Lib.hid hid
        clear hc hc' hst hy hid
        have ea : inR y.id n 9999 = allB n 9999 [y.id] := by simp [allB]
        rw [ea] at HST
        clear ea
        cases ha : allB n 9999 [y.id] with
        | false =>
          rw [ha] at HST
          have HA := Lib.hid ha
          clear ha
          generalize hyi : y.id = yi at HID HA
          clear hyi
          go_wp2_with (first
            | (show wpList _ _ _ (Oper.mk (some 21) _ _ _ _ _ :: _) _ _
               refine wpList_load_at 78 (.tmp 20) rfl rfl rfl (tcl y) HCC.out rowTest ?_)
            | (show wpList _ _ _ (Oper.mk none (Op.store _ (Operand.tmp 11) (Operand.tmp 21)) _ _ _ _ :: _) _ _
               refine wpList_store_blk 78 (.tmp 11) (.tmp 21) rfl rfl rfl rfl rfl (alloc_at0 wr _) (Nat.le_of_ble_eq_true rfl) (fun v hv => tcl_one [y] v (by simpa using hv)) rowTest ?_
               intro w5 hP5 hM5
               rw [splice_whole (by rfl)] at hM5
               have H5 := Lib.hid (And.intro ((grow1 wr _).trans (hP5.below (Nat.le_refl _))) hM5)
               clear hP5 hM5)
            | (show wpList _ _ _ (Oper.mk (some 25) _ _ _ _ _ :: _) _ _
               refine wpList_load_blk 78 (.tmp 11) rfl rfl rfl H5.out.2 (tcl y) at0 rowTest ?_)
            | (go_at_call 57
               refine (HID.out w5).mono ?_
               rintro e w6 ⟨rfl, hB6⟩
               have H6 := Lib.hid (H5.out.1.trans (hB6.mono H5.out.1.size))
               clear hB6)
            | (go_at_call 37
               refine (HW.out n 9999 yi w6).mono ?_
               rintro e w7 ⟨rfl, hB7⟩
               rw [HA.out]
               have H7 := Lib.hid (H6.out.trans (((grow1 w6 _).trans (hB7.mono (by simp))).mono H6.out.size))
               clear hB7))
          go_ret
          exact ⟨by rw [HST.out]; rfl, hM.out.trans (H7.out.mono hM.out.size)⟩
        | true =>
          have hyb : n ≤ y.id ∧ y.id ≤ 9999 := by have := ha; simpa [allB, inR_iff] using this
          obtain ⟨hyb0, hyb1⟩ := hyb
          cases hp : ok y
          all_goals
            rw [ha, hp] at HST
            rw [hp] at HY
            have HA := Lib.hid ha
            clear ha hp
            generalize hyi : y.id = yi at HID HA HST hyb0 hyb1
            have HYI := Lib.hid hyi
            clear hyi
            go_wp2_with (first
              | (show wpList _ _ _ (Oper.mk (some 21) _ _ _ _ _ :: _) _ _
                 refine wpList_load_at 78 (.tmp 20) rfl rfl rfl (tcl y) HCC.out rowTest ?_)
              | (show wpList _ _ _ (Oper.mk none (Op.store _ (Operand.tmp 11) (Operand.tmp 21)) _ _ _ _ :: _) _ _
                 refine wpList_store_blk 78 (.tmp 11) (.tmp 21) rfl rfl rfl rfl rfl (alloc_at0 wr _) (Nat.le_of_ble_eq_true rfl) (fun v hv => tcl_one [y] v (by simpa using hv)) rowTest ?_
                 intro w5 hP5 hM5
                 rw [splice_whole (by rfl)] at hM5
                 have H5 := Lib.hid (And.intro ((grow1 wr _).trans (hP5.below (Nat.le_refl _))) hM5)
                 clear hP5 hM5)
              | (show wpList _ _ _ (Oper.mk (some 25) _ _ _ _ _ :: _) _ _
                 refine wpList_load_blk 78 (.tmp 11) rfl rfl rfl H5.out.2 (tcl y) at0 rowTest ?_)
              | (show wpList _ _ _ (Oper.mk (some 32) _ _ _ _ _ :: _) _ _
                 refine wpList_load_blkG 78 (.tmp 11) rfl rfl rfl H7.out.2 (tcl y) at0 rowTest ?_)
              | (show wpList _ _ _ (Oper.mk (some 37) _ _ _ _ _ :: _) _ _
                 refine wpList_load_blk 78 (.tmp 11) rfl rfl rfl H8.out.2 (tcl y) at0 rowTest ?_)
              | (go_at_call 52
                 refine (HY.out w7 H7.out.1).mono ?_
                 rintro e w8 ⟨rfl, hB8⟩
                 have H8 := Lib.hid (And.intro (H7.out.1.trans (hB8.mono H7.out.1.size)) ((hB8.block _ (lt_of_heap H7.out.2)).trans H7.out.2))
                 clear hB8)
              | (go_at_call 57
                 refine (HID.out w8).mono ?_
                 rintro e w9 ⟨rfl, hB9⟩
                 have H9 := Lib.hid (H8.out.1.trans (hB9.mono H8.out.1.size))
                 clear hB9)
              | (go_at_call 57
                 refine (HID.out w5).mono ?_
                 rintro e w6 ⟨rfl, hB6⟩
                 have H6 := Lib.hid (And.intro (H5.out.1.trans (hB6.mono H5.out.1.size)) ((hB6.block _ (lt_of_heap H5.out.2)).trans H5.out.2))
                 clear hB6)
              | (go_at_call 37
                 refine (HW.out n 9999 yi w6).mono ?_
                 rintro e w7 ⟨rfl, hB7⟩
                 rw [HA.out]
                 have hb7 := (grow1 w6 (.cells #[.int .i64 yi] 3)).trans (hB7.mono (by simp))
                 have H7 := Lib.hid (And.intro (H6.out.1.trans (hb7.mono H6.out.1.size)) ((hb7.block _ (lt_of_heap H6.out.2)).trans H6.out.2))
                 clear hB7 hb7))
          rotate_left
          · go_roundg gg
            case measure => omega
            case rel => exact ⟨k + 1, yi + 1, by omega, by go_num, by go_num, by omega, by rw [HST.out]; rfl, hM.out.trans (H9.out.mono hM.out.size)⟩
          · go_ret
            exact ⟨by rw [HST.out]; rfl, hM.out.trans (H8.out.1.mono hM.out.size)⟩
  · rw [show decide ((l.length : Int) ≤ most) = false by simpa using hm, Bool.false_and]
    have hm2 : most < (l.length : Int) := by omega
    clear hm
    go_enter Try.func56, Try.ntmps56
    go_wp2
    go_ret
    exact ⟨rfl, Below.refl _ _⟩

end Go.Proofs.Ytboffligjgjgjaa
