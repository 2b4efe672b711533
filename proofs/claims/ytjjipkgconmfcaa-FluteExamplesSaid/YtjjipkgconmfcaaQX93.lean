/-
  Texts laid together: FvV.
-/
import Derived.Test.YtjjipkgconmfcaaQX92
set_option linter.all false
namespace Go.Proofs.Ytjjipkgconmfcaa
open Go.RowKit Go.Maps
open R6 (done done_ne done_me upd_ne upd_me)

attribute [local go_sem] gives

/-- What lies behind the second half of the examples. -/
structure ExW (w : World) (s4 g : Nat) (A11 A12 : Option Addr) (W : World) : Prop where
  bel : Below w.heap.size w W
  m4 : W.heap[s4]? = some (.cells #[.int .i64 300, .int .i64 10, .int .i64 20, .int .i64 5, .int .i64 10, .int .i64 340000, .int .i64 344000, .slice A11 2 2] 28 (0, 0))
  m5 : W.heap[s4 + 1]? = some (.cells #[.int .i64 500, .int .i64 10, .int .i64 10, .int .i64 10, .int .i64 10, .int .i64 340000, .int .i64 340000, .int .i64 0, .int .i64 5, .slice A12 1 1] 34 (0, 0))
  mg : W.heap[g]? = some (.cells (pairs odOs).toArray 25 (0, 0))
  fu : FuAt W W.heap.size (shFu A11)
  bk : BkAt W W.heap.size (wrBk A12)
theorem exW_start {w w12 w13 : World} {g : Nat} {A11 A12 : Option Addr} (hb : Below w.heap.size w w12) (hfu : FuAt w12 w12.heap.size (exFu A11)) (hbk : BkAt w12 w12.heap.size (exBk A12)) (h13 : Below w12.heap.size w12 w13) (hg : w12.heap.size ≤ g) (hm : w13.heap[g]? = some (.cells (pairs exOs).toArray 25 (0, 0))) :
    ExW w w13.heap.size g A11 A12 (((w13.setCell ⟨g, 2, none⟩ (.int .i64 0)).alloc (.cells #[.int .i64 300, .int .i64 10, .int .i64 20, .int .i64 5, .int .i64 10, .int .i64 340000, .int .i64 344000, .slice A11 2 2] 28)).alloc (.cells #[.int .i64 500, .int .i64 10, .int .i64 10, .int .i64 10, .int .i64 10, .int .i64 340000, .int .i64 340000, .int .i64 0, .int .i64 5, .slice A12 1 1] 34)) := by
  obtain ⟨w0, hw0⟩ : ∃ w0, w13.setCell ⟨g, 2, none⟩ (.int .i64 0) = w0 := ⟨_, rfl⟩
  have hs0 : w0.heap.size = w13.heap.size := by rw [← hw0]; simp
  have hg0 : w0.heap[g]? = some (.cells (pairs odOs).toArray 25 (0, 0)) := by
    rw [← hw0]
    exact set_row hm (.int .i64 0)
  have hb0 : Below w12.heap.size w12 w0 := by rw [← hw0]; exact h13.setCell (by simpa using hg) _
  have hgl : g < w0.heap.size := lt_of_heap hg0
  rw [hw0, ← hs0]
  have hs1 := h13.size
  have hbx := (hb0.alloc (by omega) (.cells #[.int .i64 300, .int .i64 10, .int .i64 20, .int .i64 5, .int .i64 10, .int .i64 340000, .int .i64 344000, .slice A11 2 2] 28)).alloc (by simp; omega) (.cells #[.int .i64 500, .int .i64 10, .int .i64 10, .int .i64 10, .int .i64 10, .int .i64 340000, .int .i64 340000, .int .i64 0, .int .i64 5, .slice A12 1 1] 34)
  exact ⟨hb.trans (hbx.mono hb.size), alloc2_at0 _ _ _, alloc2_at1 _ _ _, (Below.heap_alloc _ _ _ (by simp; omega)).trans ((Below.heap_alloc _ _ _ hgl).trans hg0), FuAt.mono (FuAt.below hfu hbx) hbx.size, Ints.mono (Ints.below hbk hbx) hbx.size⟩
theorem ExW.grows {w W W' : World} {s4 g : Nat} {A11 A12 : Option Addr} (h : ExW w s4 g A11 A12 W) (hg : Grows W W') : ExW w s4 g A11 A12 W' :=
  ⟨h.bel.trans (hg.mono h.bel.size), (hg.block _ (lt_of_heap h.m4)).trans h.m4, (hg.block _ (lt_of_heap h.m5)).trans h.m5, (hg.block _ (lt_of_heap h.mg)).trans h.mg, FuAt.mono (FuAt.below h.fu hg) hg.size, Ints.mono (Ints.below h.bk hg) hg.size⟩

set_option maxRecDepth 100000 in
set_option maxHeartbeats 16000000 in
theorem fluteExamples_law (w : World) : Calls Try.prog 3 #[] w fun e w' => e = .returned (.bool true) ∧ Below w.heap.size w w' := by
  have HAL := Lib.hid (fun W => alive_any W)
  have HS2 := Lib.hid (fun W => sounds_any 2 (by decide) 548387 554838 ex_t2 W)
  have HS3 := Lib.hid (fun W => sounds_any 3 (by decide) 801886 826923 ex_t3 W)
  have hbl : ∀ W : World, Calls Try.prog 16 #[] W fun e w' => ∃ A, e = .returned (.agg #[.int .i64 500, .int .i64 10, .int .i64 10, .int .i64 10, .int .i64 10, .int .i64 340000, .int .i64 340000, .int .i64 40, .int .i64 5, .slice A 1 1]) ∧ BkAt w' w'.heap.size (exBk A) ∧ Below W.heap.size W w' := fun W => blank_any W
  have htb : ∀ W : World, Calls Try.prog 19 #[] W fun e w' => ∃ A, e = .returned (.agg #[.int .i64 400, .int .i64 10, .int .i64 20, .int .i64 5, .int .i64 10, .int .i64 340000, .int .i64 344000, .slice A 2 2]) ∧ FuAt w' w'.heap.size (exFu A) ∧ Below W.heap.size W w' := fun W => tube_any W
  have HBL := Lib.hid hbl
  have HTB := Lib.hid htb
  have HSC := Lib.hid (fun W => scale_own W)
  unfold ScaPost2 at HSC
  have hm1 : ∀ A W g, BkAt W W.heap.size (exBk A) → Ints W W.heap.size (some ⟨g, 0, none⟩) [415, 325, 278] → Calls Try.prog 15 #[.agg #[.int .i64 500, .int .i64 10, .int .i64 10, .int .i64 10, .int .i64 10, .int .i64 340000, .int .i64 340000, .int .i64 40, .int .i64 5, .slice A 1 1], .slice (some ⟨g, 0, none⟩) 3 3] W fun e w' => ∃ A c, e = .returned (.tuple #[.agg #[.int .i64 415, .int .i64 10, .int .i64 10, .int .i64 0, .int .i64 0, .int .i64 340000, .int .i64 340000, .slice A 2 c], .int .i64 0]) ∧ w'.ownsRow W.heap.size 38 3 (.slice A 2 c) 2 (([⟨278, 10, 10⟩, ⟨325, 10, 10⟩] : List Ho).flatMap hoc) ∧ Below W.heap.size W w' :=
    fun A W g hz hI => (make_any (exBk A) (by simp [exBk]) (some ⟨g, 0, none⟩) 3 [415, 325, 278] (by simp) (by simp) (by omega) W.heap.size W (Nat.le_refl _) hz hI).mono fun e w' h => h.2.2 ex_bk ex_pl1
  have hm2 : ∀ A W g, BkAt W W.heap.size (exBk A) → Ints W W.heap.size (some ⟨g, 0, none⟩) [415, 376] → Calls Try.prog 15 #[.agg #[.int .i64 500, .int .i64 10, .int .i64 10, .int .i64 10, .int .i64 10, .int .i64 340000, .int .i64 340000, .int .i64 40, .int .i64 5, .slice A 1 1], .slice (some ⟨g, 0, none⟩) 2 2] W fun e w' => e = .returned (.tuple #[.agg #[.int .i64 0, .int .i64 0, .int .i64 0, .int .i64 0, .int .i64 0, .int .i64 0, .int .i64 0, .slice none 0 0], .int .i64 8]) ∧ Below W.heap.size W w' :=
    fun A W g hz hI => (make_any (exBk A) (by simp [exBk]) (some ⟨g, 0, none⟩) 2 [415, 376] (by simp) (by simp) (by omega) W.heap.size W (Nat.le_refl _) hz hI).mono fun e w' h => h.2.1 ex_bk ex_pl2
  have hm3 : ∀ A W g, BkAt W W.heap.size (exBk A) → Ints W W.heap.size (some ⟨g, 0, none⟩) [415, 326] → Calls Try.prog 15 #[.agg #[.int .i64 500, .int .i64 10, .int .i64 10, .int .i64 10, .int .i64 10, .int .i64 340000, .int .i64 340000, .int .i64 40, .int .i64 5, .slice A 1 1], .slice (some ⟨g, 0, none⟩) 2 2] W fun e w' => e = .returned (.tuple #[.agg #[.int .i64 0, .int .i64 0, .int .i64 0, .int .i64 0, .int .i64 0, .int .i64 0, .int .i64 0, .slice none 0 0], .int .i64 8]) ∧ Below W.heap.size W w' :=
    fun A W g hz hI => (make_any (exBk A) (by simp [exBk]) (some ⟨g, 0, none⟩) 2 [415, 326] (by simp) (by simp) (by omega) W.heap.size W (Nat.le_refl _) hz hI).mono fun e w' h => h.2.1 ex_bk ex_pl3
  have HM1 := Lib.hid hm1
  have HM2 := Lib.hid hm2
  have HM3 := Lib.hid hm3
  have hsa : ∀ A5 c5 A6 W, FuAt W W.heap.size (waFu A5 c5) → FuAt W W.heap.size (waFu A6 2) → Calls Try.prog 18 #[.agg #[.int .i64 415, .int .i64 10, .int .i64 10, .int .i64 0, .int .i64 0, .int .i64 340000, .int .i64 340000, .slice A5 2 c5], .agg #[.int .i64 415, .int .i64 10, .int .i64 10, .int .i64 0, .int .i64 0, .int .i64 340000, .int .i64 340000, .slice A6 2 2]] W fun e w' => e = .returned (.bool true) ∧ Below W.heap.size W w' :=
    fun A5 c5 A6 W h5 h6 => rfSame_any (waFu A6 2) A5 c5 (by simp [waFu]) W.heap.size W.heap.size W (Nat.le_refl _) (Nat.le_refl _) h6 h5
  have HSA := Lib.hid hsa
  clear hm1 hm2 hm3 hbl htb hsa
  have ht4 : ∀ A W, FuAt W W.heap.size (exFu A) → Calls Try.prog 21 #[.agg #[.int .i64 400, .int .i64 10, .int .i64 20, .int .i64 5, .int .i64 10, .int .i64 340000, .int .i64 344000, .slice A 2 2], .int .u8 4] W fun e w' => e = .returned (.tuple #[.agg #[.int .i64 0, .int .i64 0], .int .i64 2]) ∧ Below W.heap.size W w' := fun A W hz => by
    have h := tone_any9 (exFu A) (by simp [exFu]) 4 (by decide) W.heap.size W (Nat.le_refl _) hz
    unfold TonePost at h
    rw [show tonE (exFu A) 4 = 2 from ex_t4.1, show tonV (exFu A) 4 = (0, 0) from ex_t4.2] at h
    exact h
  have hp3 : ∀ A W, FuAt W W.heap.size (exFu A) → Calls Try.prog 22 #[.agg #[.int .i64 400, .int .i64 10, .int .i64 20, .int .i64 5, .int .i64 10, .int .i64 340000, .int .i64 344000, .slice A 2 2], .int .u8 1, .agg #[.int .i64 2, .int .i64 1]] W fun e w' => e = .returned (.tuple #[.int .u8 0, .int .i64 91]) ∧ Below W.heap.size W w' := fun A W hz => by
    have h := plays_any (exFu A) (by simp [exFu]) 1 (by decide) (2, 1) W.heap.size W (Nat.le_refl _) hz
    unfold PlaPost at h
    rw [show plaE (exFu A) 1 (2, 1) = 91 from ex_p3.1, show plaV (exFu A) 1 (2, 1) = 0 from ex_p3.2] at h
    exact h
  have hd1 : ∀ A A' W, BkAt W W.heap.size (wrBk A) → Vals W W.heap.size A' (pairs exOs) → Calls Try.prog 23 #[.agg #[.int .i64 500, .int .i64 10, .int .i64 10, .int .i64 10, .int .i64 10, .int .i64 340000, .int .i64 340000, .int .i64 0, .int .i64 5, .slice A 1 1], .slice A' 3 3] W fun e w' => ∃ v, e = .returned (.tuple #[v, .int .i64 92]) ∧ Below W.heap.size W w' := fun A A' W hz ho => by
    have h := drill_any (wrBk A) (by simp [wrBk]) A' 3 exOs (by simp [exOs]) W.heap.size W (Nat.le_refl _) hz ho
    unfold DriPost at h
    rw [show driE (wrBk A) exOs = 92 from ex_d1.1] at h
    exact h.mono fun e w' ⟨v, h1, _, h3⟩ => ⟨v, h1, h3⟩
  have hd2 : ∀ A A' W, BkAt W W.heap.size (exBk A) → Vals W W.heap.size A' (pairs odOs) → Calls Try.prog 23 #[.agg #[.int .i64 500, .int .i64 10, .int .i64 10, .int .i64 10, .int .i64 10, .int .i64 340000, .int .i64 340000, .int .i64 40, .int .i64 5, .slice A 1 1], .slice A' 3 3] W fun e w' => ∃ v, e = .returned (.tuple #[v, .int .i64 91]) ∧ Below W.heap.size W w' := fun A A' W hz ho => by
    have h := drill_any (exBk A) (by simp [exBk]) A' 3 odOs (by simp [odOs]) W.heap.size W (Nat.le_refl _) hz ho
    unfold DriPost at h
    rw [show driE (exBk A) odOs = 91 from ex_d2.1] at h
    exact h.mono fun e w' ⟨v, h1, _, h3⟩ => ⟨v, h1, h3⟩
  have hd3 : ∀ A A' W, BkAt W W.heap.size (exBk A) → Vals W W.heap.size A' (pairs [(1, 2)]) → Calls Try.prog 23 #[.agg #[.int .i64 500, .int .i64 10, .int .i64 10, .int .i64 10, .int .i64 10, .int .i64 340000, .int .i64 340000, .int .i64 40, .int .i64 5, .slice A 1 1], .slice A' 1 1] W fun e w' => ∃ v, e = .returned (.tuple #[v, .int .i64 6]) ∧ Below W.heap.size W w' := fun A A' W hz ho => by
    have h := drill_any (exBk A) (by simp [exBk]) A' 1 [(1, 2)] (by simp) W.heap.size W (Nat.le_refl _) hz ho
    unfold DriPost at h
    rw [show driE (exBk A) [(1, 2)] = 6 from ex_d3.1] at h
    exact h.mono fun e w' ⟨v, h1, _, h3⟩ => ⟨v, h1, h3⟩
  have hck : ∀ A W, FuAt W W.heap.size (shFu A) → Calls Try.prog 24 #[.agg #[.int .i64 300, .int .i64 10, .int .i64 20, .int .i64 5, .int .i64 10, .int .i64 340000, .int .i64 344000, .slice A 2 2]] W fun e w' => e = .returned (.int .i64 90) ∧ Below W.heap.size W w' := fun A W hz => by
    have h := check_any (shFu A) (by simp [shFu]) W.heap.size W (Nat.le_refl _) hz
    rw [show okFu (shFu A) = false from ex_sh] at h
    exact h
  have HT4 := Lib.hid ht4
  have HP3 := Lib.hid hp3
  have HD1 := Lib.hid hd1
  have HD2 := Lib.hid hd2
  have HD3 := Lib.hid hd3
  have HCK := Lib.hid hck
  clear ht4 hp3 hd1 hd2 hd3 hck
  go_enter Try.func3, Try.ntmps3
  go_wp2_with (first
    | (go_at_call 15
       refine (HM3.out A21 _ _ (Ints.mono (Ints.below H21.out.1 (grow1 w21 (.cells #[.int .i64 415, .int .i64 326] 3))) (grow1 w21 (.cells #[.int .i64 415, .int .i64 326] 3)).size) (vals_in (L := ints [415, 326]) (alloc_at0 w21 _) (lt_of_heap (alloc_at0 w21 _)) at0).ints).mono ?_
       rintro e w22 ⟨rfl, hB⟩
       have H22 := Lib.hid ((H21.out.2.grows (grow1 w21 (.cells #[.int .i64 415, .int .i64 326] 3))).grows hB)
       have hc22 := fun i => cell_of_row w22 (w13.heap.size + 1) i _ _ _ H22.out.m5
       have hl22 : w13.heap.size + 1 < w22.heap.size := lt_of_heap H22.out.m5
       clear hB)
    | (go_at_call 16; refine (HBL.out (w20.alloc (.cells #[.int .i64 0, .int .i64 0, .int .i64 0, .int .i64 0, .int .i64 0, .int .i64 0, .int .i64 0, .slice none 0 0] 28))).mono ?_; rintro e w21 ⟨A21, rfl, hV, hB⟩; have H21 := Lib.hid (And.intro hV ((H20.out.grows (grow1 w20 (.cells #[.int .i64 0, .int .i64 0, .int .i64 0, .int .i64 0, .int .i64 0, .int .i64 0, .int .i64 0, .slice none 0 0] 28))).grows hB)); clear hV hB)
    | (go_at_call 15
       refine (HM2.out A19 _ _ (Ints.mono (Ints.below H19.out.1 (grow1 w19 (.cells #[.int .i64 415, .int .i64 376] 3))) (grow1 w19 (.cells #[.int .i64 415, .int .i64 376] 3)).size) (vals_in (L := ints [415, 376]) (alloc_at0 w19 _) (lt_of_heap (alloc_at0 w19 _)) at0).ints).mono ?_
       rintro e w20 ⟨rfl, hB⟩
       have H20 := Lib.hid ((H19.out.2.grows (grow1 w19 (.cells #[.int .i64 415, .int .i64 376] 3))).grows hB)
       clear hB)
    | (go_at_call 16; refine (HBL.out w18).mono ?_; rintro e w19 ⟨A19, rfl, hV, hB⟩; have H19 := Lib.hid (And.intro hV (H18.out.grows hB)); clear hV hB)
    | (go_at_call 22; refine (HP3.out A16 w17 H17.out.1).mono ?_; rintro e w18 ⟨rfl, hB⟩; have H18 := Lib.hid (H17.out.2.grows hB); clear hB)
    | (go_at_call 17; refine (span_any _ _ w16).mono ?_; rintro e w17 ⟨rfl, hB⟩; have H17 := Lib.hid (And.intro (FuAt.mono (FuAt.below H16.out.1 hB) hB.size) (H16.out.2.grows hB)); clear hB)
    | (go_at_call 19; refine (HTB.out w15).mono ?_; rintro e w16 ⟨A16, rfl, hz, hB⟩; have H16 := Lib.hid (And.intro hz (H15.out.grows hB)); clear hz hB)
    | (go_at_call 21; refine (HT4.out A14 w14 H14.out.1).mono ?_; rintro e w15 ⟨rfl, hB⟩; have H15 := Lib.hid (H14.out.2.grows hB); clear hB)
    | (go_at_call 19
       refine (HTB.out _).mono ?_
       rintro e w14 ⟨A14, rfl, hz, hB⟩
       have H14 := Lib.hid (And.intro hz ((exW_start H12.out.2.2 H12.out.2.1 H12.out.1 H13.out.1 H13.out.2.1 H13.out.2.2).grows hB))
       clear hz hB hc13 hf13 hl13)
    | (go_at_call 20
       refine (HSC.out w12).mono ?_
       rintro e w13 ⟨g13, rfl, hm, hg, hB⟩
       have H13 := Lib.hid (And.intro hB (And.intro hg hm))
       have hc13 := fun i => cell_of_row w13 g13 i _ _ _ hm
       unfold pairs exOs at hc13
       have hf13 := fun i => frozen_of_row w13 g13 i _ _ hm
       have hl13 : g13 < w13.heap.size := lt_of_heap hm
       clear hm hg hB)
    | (go_at_call 16; refine (HBL.out w11).mono ?_; rintro e w12 ⟨A12, rfl, hV, hB⟩; have H12 := Lib.hid (And.intro hV (And.intro (FuAt.mono (FuAt.below H11.out.1 hB) hB.size) (H11.out.2.trans (hB.mono H11.out.2.size)))); clear hV hB)
    | (go_at_call 19; refine (HTB.out w10).mono ?_; rintro e w11 ⟨A11, rfl, hz, hB⟩; have H11 := Lib.hid (And.intro hz (H10.out.trans (hB.mono H10.out.size))); clear hz hB)
    | (go_at_call 18
       have g9 : Grows w9 ((w9.alloc (.cells #[.int .i64 278, .int .i64 10, .int .i64 10, .int .i64 325, .int .i64 10, .int .i64 10] 38)).alloc (.cells #[.int .i64 415, .int .i64 10, .int .i64 10, .int .i64 0, .int .i64 0, .int .i64 340000, .int .i64 340000, .slice (some ⟨w9.heap.size, 0, none⟩) 2 2] 28)) := (grow1 w9 (.cells #[.int .i64 278, .int .i64 10, .int .i64 10, .int .i64 325, .int .i64 10, .int .i64 10] 38)).trans ((grow1 (w9.alloc (.cells #[.int .i64 278, .int .i64 10, .int .i64 10, .int .i64 325, .int .i64 10, .int .i64 10] 38)) (.cells #[.int .i64 415, .int .i64 10, .int .i64 10, .int .i64 0, .int .i64 0, .int .i64 340000, .int .i64 340000, .slice (some ⟨w9.heap.size, 0, none⟩) 2 2] 28)).mono (grow1 w9 (.cells #[.int .i64 278, .int .i64 10, .int .i64 10, .int .i64 325, .int .i64 10, .int .i64 10] 38)).size)
       refine (HSA.out A5 c5 _ ((w9.alloc (.cells #[.int .i64 278, .int .i64 10, .int .i64 10, .int .i64 325, .int .i64 10, .int .i64 10] 38)).alloc (.cells #[.int .i64 415, .int .i64 10, .int .i64 10, .int .i64 0, .int .i64 0, .int .i64 340000, .int .i64 340000, .slice (some ⟨w9.heap.size, 0, none⟩) 2 2] 28)) (Vals.own (own_grows H9.out.2.2 g9)) (vals_in (L := ([⟨278, 10, 10⟩, ⟨325, 10, 10⟩] : List Ho).flatMap hoc) (alloc2_at0 w9 (.cells #[.int .i64 278, .int .i64 10, .int .i64 10, .int .i64 325, .int .i64 10, .int .i64 10] 38) (.cells #[.int .i64 415, .int .i64 10, .int .i64 10, .int .i64 0, .int .i64 0, .int .i64 340000, .int .i64 340000, .slice (some ⟨w9.heap.size, 0, none⟩) 2 2] 28)) (lt_of_heap (alloc2_at0 w9 (.cells #[.int .i64 278, .int .i64 10, .int .i64 10, .int .i64 325, .int .i64 10, .int .i64 10] 38) (.cells #[.int .i64 415, .int .i64 10, .int .i64 10, .int .i64 0, .int .i64 0, .int .i64 340000, .int .i64 340000, .slice (some ⟨w9.heap.size, 0, none⟩) 2 2] 28))) at0)).mono ?_
       rintro e w10 ⟨rfl, hB10⟩
       have H10 := Lib.hid (H9.out.1.trans ((g9.trans (hB10.mono g9.size)).mono H9.out.1.size))
       clear hB10 g9 hc9)
    | (go_at_call 17
       refine (span_any _ _ w8).mono ?_
       rintro e w9 ⟨rfl, hB⟩
       have H9 := Lib.hid (And.intro (H8.out.1.trans (hB.mono H8.out.1.size)) (And.intro ((hB.block _ (lt_of_heap H8.out.2.1)).trans H8.out.2.1) (own_grows H8.out.2.2 hB)))
       have hc9 := fun i => cell_of_row w9 w5.heap.size i _ _ _ H9.out.2.1
       have hl9 : w5.heap.size < w9.heap.size := lt_of_heap H9.out.2.1
       clear hB)
    | (go_at_call 17
       refine (span_any _ _ w7).mono ?_
       rintro e w8 ⟨rfl, hB⟩
       have H8 := Lib.hid (And.intro (H7.out.1.trans (hB.mono H7.out.1.size)) (And.intro ((hB.block _ (lt_of_heap H7.out.2.1)).trans H7.out.2.1) (own_grows H7.out.2.2 hB)))
       clear hB)
    | (go_at_call 17
       refine (span_any _ _ w6).mono ?_
       rintro e w7 ⟨rfl, hB⟩
       have H7 := Lib.hid (And.intro (H6.out.1.trans (hB.mono H6.out.1.size)) (And.intro ((hB.block _ (lt_of_heap H6.out.2.1)).trans H6.out.2.1) (own_grows H6.out.2.2 hB)))
       clear hB)
    | (go_at_call 17
       refine (span_any _ _ (w5.alloc (.cells #[.int .i64 415, .int .i64 10, .int .i64 10, .int .i64 0, .int .i64 0, .int .i64 340000, .int .i64 340000, .slice A5 2 c5] 28))).mono ?_
       rintro e w6 ⟨rfl, hB6⟩
       have g6 : Grows w5 w6 := (grow1 w5 (.cells #[.int .i64 415, .int .i64 10, .int .i64 10, .int .i64 0, .int .i64 0, .int .i64 340000, .int .i64 340000, .slice A5 2 c5] 28)).trans (hB6.mono (grow1 w5 (.cells #[.int .i64 415, .int .i64 10, .int .i64 10, .int .i64 0, .int .i64 0, .int .i64 340000, .int .i64 340000, .slice A5 2 c5] 28)).size)
       have m6 : w6.heap[w5.heap.size]? = some (.cells #[.int .i64 415, .int .i64 10, .int .i64 10, .int .i64 0, .int .i64 0, .int .i64 340000, .int .i64 340000, .slice A5 2 c5] 28 (0, 0)) := (hB6.block _ (by simp)).trans (alloc_at0 w5 (.cells #[.int .i64 415, .int .i64 10, .int .i64 10, .int .i64 0, .int .i64 0, .int .i64 340000, .int .i64 340000, .slice A5 2 c5] 28))
       have H6 := Lib.hid (And.intro (H5.out.1.trans (g6.mono H5.out.1.size)) (And.intro m6 (own_grows H5.out.2 g6)))
       clear hB6 g6 m6)
    | (go_at_call 15
       refine (HM1.out A4 _ _ (Ints.mono (Ints.below H4.out.1 (grow1 w4 (.cells #[.int .i64 415, .int .i64 325, .int .i64 278] 3))) (grow1 w4 (.cells #[.int .i64 415, .int .i64 325, .int .i64 278] 3)).size) (vals_in (L := ints [415, 325, 278]) (alloc_at0 w4 _) (lt_of_heap (alloc_at0 w4 _)) at0).ints).mono ?_
       rintro e w5 ⟨A5, c5, rfl, hO, hB5⟩
       have H5 := Lib.hid (And.intro (H4.out.2.trans (((grow1 w4 (.cells #[.int .i64 415, .int .i64 325, .int .i64 278] 3)).trans (hB5.mono (grow1 w4 (.cells #[.int .i64 415, .int .i64 325, .int .i64 278] 3)).size)).mono H4.out.2.size)) hO)
       clear hB5 hO)
    | (go_at_call 16; refine (HBL.out w3).mono ?_; rintro e w4 ⟨A4, rfl, hV, hB4⟩; have H4 := Lib.hid (And.intro hV (H3.out.trans (hB4.mono H3.out.size))); clear hV hB4)
    | (go_at_call 14; (with_reducible show Calls _ _ #[_, .int .i64 801886, _] _ _); refine (HS3.out w2).mono ?_; rintro e w3 ⟨rfl, hB3⟩; have H3 := Lib.hid (H2.out.trans (hB3.mono H2.out.size)); clear hB3)
    | (go_at_call 14; refine (HS2.out w1).mono ?_; rintro e w2 ⟨rfl, hB2⟩; have H2 := Lib.hid (H1.out.trans (hB2.mono H1.out.size)); clear hB2)
    | (go_at_call 13; refine (HAL.out w).mono ?_; rintro e w1 ⟨rfl, hB1⟩; have H1 := Lib.hid hB1; clear hB1))
  obtain ⟨wx, hwx⟩ : ∃ wx, w22.alloc (.cells #[.int .i64 0, .int .i64 0, .int .i64 0, .int .i64 0, .int .i64 0, .int .i64 0, .int .i64 0, .slice none 0 0] 28) = wx := ⟨_, rfl⟩
  have hX := H22.out.grows (grow1 w22 (.cells #[.int .i64 0, .int .i64 0, .int .i64 0, .int .i64 0, .int .i64 0, .int .i64 0, .int .i64 0, .slice none 0 0] 28))
  rw [hwx] at hX ⊢
  have HX := Lib.hid hX
  clear hX hwx hc22 hl22
  refine R6.wp_walk (C := DrC wx) 134 (by kernel_rfl) (by kernel_rfl) rfl (DrC.start (fun k => by simp)) ?_
  simp only []
  refine' R6.WalkR.det (fun _ => rfl) (fun D ρ W hK hC => ?_) ?_
  rotate_left
  · have f5 := fun i => cell_of_row W (w13.heap.size + 1) i _ _ _ (HX.out.grows hC.bel).m5
    have HC := Lib.hid hC
    clear hC hK
    go_simp
    with_reducible exact ⟨rfl, HC.out.move rfl rfl⟩
  simp only [Act.put, List.setIfInBounds_toArray, List.set_cons_succ, List.set_cons_zero]
  refine' R6.WalkR.nd (fun _ => rfl) rfl (fun D ρ W hK hC => ?_) ?_
  · have HC := Lib.hid hC
    clear hC hK
    go_simp
    go_at_call 20
    refine (HSC.out W).mono ?_
    rintro e W1 ⟨g, rfl, hm, hg, hB⟩
    exact ⟨_, rfl, HC.out.made1 hB (vals_in (L := pairs exOs) hm (lt_of_heap hm) at0)⟩
  simp only [Act.put, List.setIfInBounds_toArray, List.set_cons_succ, List.set_cons_zero]
  refine' R6.WalkR.nd (fun _ => rfl) rfl (fun D ρ W hK hC => ?_) ?_
  · obtain ⟨A', hv, hV⟩ := hC.sc (hK.pre 1 (needs_edge (by decide +kernel)))
    have HC := Lib.hid (And.intro hC (And.intro hV (HX.out.grows hC.bel).bk))
    clear hC hK hV
    go_simp
    go_at_call 23
    refine (HD1.out A12 A' W HC.out.2.2 HC.out.2.1).mono ?_
    rintro e W1 ⟨v, rfl, hB⟩
    exact ⟨_, rfl, HC.out.1.told2 hB v⟩
  simp only [Act.put, List.setIfInBounds_toArray, List.set_cons_succ, List.set_cons_zero]
  refine' R6.WalkR.fn 87 (fun v => v) (fun _ => rfl) (by decide +kernel) (fun D ρ W hK hC => ?_) ?_
  · have HC := Lib.hid hC
    clear hC hK
    go_simp
    first
      | exact HC.out.move rfl rfl
      | exact ⟨rfl, HC.out.move rfl rfl⟩
  simp only [Act.put, List.setIfInBounds_toArray, List.set_cons_succ, List.set_cons_zero]
  refine' R6.WalkR.nd (fun _ => rfl) rfl (fun D ρ W hK hC => ?_) ?_
  · obtain ⟨v, hv⟩ := hC.dr (hK.pre 2 (by decide +kernel))
    have HC := Lib.hid hC
    clear hC hK
    go_simp
    exact HC.out.move rfl rfl
  simp only [Act.put, List.setIfInBounds_toArray, List.set_cons_succ, List.set_cons_zero]
  refine' R6.WalkR.det (c := .int .i64 92) (fun _ => rfl) (fun D ρ W hK hC => ?_) ?_
  · obtain ⟨v, hv⟩ := hC.dr (hK.pre 2 (by decide +kernel))
    have HC := Lib.hid hC
    clear hC hK
    go_simp
    first
      | exact HC.out.move rfl rfl
      | exact ⟨rfl, HC.out.move rfl rfl⟩
  simp only [Act.put, List.setIfInBounds_toArray, List.set_cons_succ, List.set_cons_zero]
  refine' R6.WalkR.fn 88 (fun v => v) (fun _ => rfl) (by decide +kernel) (fun D ρ W hK hC => ?_) ?_
  · have HC := Lib.hid hC
    clear hC hK
    go_simp
    exact HC.out.move rfl rfl
  simp only [Act.put, List.setIfInBounds_toArray, List.set_cons_succ, List.set_cons_zero]
  refine' R6.WalkR.det (fun _ => rfl) (fun D ρ W hK hC => ?_) ?_
  rotate_left
  · have HC := Lib.hid hC
    clear hC hK
    go_simp
    with_reducible exact ⟨rfl, HC.out.move rfl rfl⟩
  simp only [Act.put, List.setIfInBounds_toArray, List.set_cons_succ, List.set_cons_zero]
  refine R6.WalkR.nil (fun D ρ W hD hC => ?_)
  generalize ρ 87 = z1
  generalize ρ 88 = z2
  generalize ρ 86 = z3
  obtain ⟨w24, hw24⟩ : ∃ w24, W = w24 := ⟨_, rfl⟩
  rw [hw24] at hC ⊢
  have H24 := Lib.hid (HX.out.grows hC.bel)
  clear hC hD hw24
  clear D ρ W
  go_wp2_with (first
    | (go_at_call 24; refine (HCK.out A11 w29 H29.out.fu).mono ?_; rintro e w30 ⟨rfl, hB⟩; have H30 := Lib.hid (H29.out.grows hB); clear hB)
    | (go_at_call 23
       refine (HD3.out A27 _ _ (Ints.mono (Ints.below H28.out.1 (grow1 w28 (.cells #[.int .i64 1, .int .i64 2] 25))) (grow1 w28 (.cells #[.int .i64 1, .int .i64 2] 25)).size) (vals_in (L := pairs [(1, 2)]) (alloc_at0 w28 _) (lt_of_heap (alloc_at0 w28 _)) at0)).mono ?_
       rintro e w29 ⟨v29, rfl, hB⟩
       have H29 := Lib.hid ((H28.out.2.grows (grow1 w28 (.cells #[.int .i64 1, .int .i64 2] 25))).grows hB)
       have hc29 := fun i => cell_of_row w29 w13.heap.size i _ _ _ H29.out.m4
       clear hB)
    | (go_at_call 17; refine (span_any _ _ w27).mono ?_; rintro e w28 ⟨rfl, hB⟩; have H28 := Lib.hid (And.intro (Ints.mono (Ints.below H27.out.1 hB) hB.size) (H27.out.2.grows hB)); clear hB)
    | (go_at_call 16; refine (HBL.out w26).mono ?_; rintro e w27 ⟨A27, rfl, hV, hB⟩; have H27 := Lib.hid (And.intro hV (H26.out.grows hB)); clear hV hB)
    | (go_at_call 23; refine (HD2.out A25 (some ⟨g13, 0, none⟩) w25 H25.out.1 (vals_in (L := pairs odOs) H25.out.2.mg (lt_of_heap H25.out.2.mg) at0)).mono ?_; rintro e w26 ⟨v26, rfl, hB⟩; have H26 := Lib.hid (H25.out.2.grows hB); clear hB)
    | (go_at_call 16; refine (HBL.out w24).mono ?_; rintro e w25 ⟨A25, rfl, hV, hB⟩; have H25 := Lib.hid (And.intro hV (H24.out.grows hB)); clear hV hB))
  go_ret
  exact ⟨rfl, H30.out.bel⟩

end Go.Proofs.Ytjjipkgconmfcaa
