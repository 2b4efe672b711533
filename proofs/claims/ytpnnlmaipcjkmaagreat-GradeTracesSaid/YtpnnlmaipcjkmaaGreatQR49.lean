/-
  The law GradeTraces.
-/
import Derived.Test.YtpnnlmaipcjkmaaGreatQR43
import Derived.Test.YtpnnlmaipcjkmaaGreatQR41
import Derived.Test.YtpnnlmaipcjkmaaGreatQR44
import Derived.Test.YtpnnlmaipcjkmaaGreatQR48
import Derived.Test.YtpnnlmaipcjkmaaGreatQR23
set_option linter.all false
namespace Go.Proofs.YtpnnlmaipcjkmaaGreat
open Go.RowKit
open R6 (done done_ne done_me upd_ne upd_me)

attribute [local go_sem] gives

theorem ownS_sh {W : World} {b : Nat} {ps : List Pol} {ts : List Ts} {A1 A2 : Option Addr} {c1 c2 : Nat} (h : OwnS W b ps ts (.slice A1 ps.length c1) (.slice A2 ts.length c2)) (h1 : ps.length ≤ 1000000) (h2 : ts.length ≤ 1000000) : ShAt W W.heap.size ps ts A1 A2 := ⟨Vals.own h.1, Vals.own h.2, h1, h2⟩
structure Gro (Φ : World → Prop) (W : World) : Prop where
  now : Φ W
  up : ∀ {W1 W2 : World}, Φ W1 → Grows W1 W2 → Φ W2
theorem Gro.grows {Φ : World → Prop} {W W' : World} (h : Gro Φ W) (hg : Grows W W') : Gro Φ W' := ⟨h.up h.now hg, h.up⟩
end Go.Proofs.YtpnnlmaipcjkmaaGreat

namespace Go.Proofs.YtpnnlmaipcjkmaaGreat
open Go.RowKit

set_option maxRecDepth 100000 in
set_option maxHeartbeats 16000000 in
theorem gradeTraces_law (ps : List Pol) (ts : List Ts) (gs : List Gd) (vary : Int) (gv : List Gv) (l : List Sk) (AP : Option Addr) (cp : Nat) (AT : Option Addr) (ct : Nat) (AG : Option Addr) (cg : Nat) (AV : Option Addr) (cv : Nat) (AL : Option Addr) (cl : Nat) (B : Nat) (w : World) (hB : B ≤ w.heap.size)
    (hz1 : Vals w B AP (ps.flatMap pcl)) (hz2 : Vals w B AT (ts.flatMap tcl)) (hz3 : Vals w B AG (gs.flatMap gcl)) (hz4 : GvsAt w B gv AV) (hgl : gv.length ≤ 9223372036854775807) (hz5 : SksBig w B l AL) (hl : l.length ≤ 9223372036854775807) :
    Calls Tryz.prog 3 #[.agg #[.slice AP ps.length cp, .slice AT ts.length ct], .agg #[.slice AG gs.length cg, .int .i64 vary], .slice AV gv.length cv, .slice AL l.length cl] w fun e w' => e = .returned (.bool true) ∧ Below w.heap.size w w' := by
  have hgt := fun (W : World) => rfGreat_any ps.length ts.length gs.length AP cp AT ct AG cg vary W
  obtain ⟨vg, hvg⟩ : ∃ vg, (decide (16 < ps.length) || (decide (26 < ts.length) || decide (6 < gs.length))) = vg := ⟨_, rfl⟩
  rw [hvg] at hgt
  have HGT := Lib.hid hgt
  have hgb := fun (W : World) (hW : Below w.heap.size w W) => rfGreatBooks_big gv l AV cv AL cl B W (Nat.le_trans hB hW.size) (hz4.below (hW.mono hB)) hgl (hz5.below (hW.mono hB)) hl
  obtain ⟨w1, hw1⟩ : ∃ w1, (w.alloc (.cells #[.slice AP ps.length cp, .slice AT ts.length ct] 25)).alloc (.cells #[.slice AG gs.length cg, .int .i64 vary] 28) = w1 := ⟨_, rfl⟩
  have hb1 : Below w.heap.size w w1 := by rw [← hw1]; exact grow2 _ _ _
  have m1 : w1.heap[w.heap.size]? = some (.cells [.slice AP ps.length cp, .slice AT ts.length ct].toArray 25 (0, 0)) := by rw [← hw1]; exact alloc2_at0 _ _ _
  have m2 : w1.heap[w.heap.size + 1]? = some (.cells [.slice AG gs.length cg, .int .i64 vary].toArray 28 (0, 0)) := by rw [← hw1]; exact alloc2_at1 _ _ _
  have H1 := Lib.hid (And.intro hb1 (And.intro m1 m2))
  clear hb1 m1 m2 hgt
  cases vg
  rotate_left
  · clear hvg hgb hz1 hz2 hz3 hz4 hz5 hgl hl
    go_enter Tryz.func3, Tryz.ntmps3
    go_wp2_with (first
    | (go_at_call 11
       refine (HGT.out w1).mono ?_
       rintro e w2 ⟨rfl, hB2⟩
       have H2 := Lib.hid (And.intro (H1.out.1.trans (hB2.mono H1.out.1.size)) (And.intro ((hB2.block _ (lt_of_heap H1.out.2.1)).trans H1.out.2.1) ((hB2.block _ (lt_of_heap H1.out.2.2)).trans H1.out.2.2)))
       clear hB2)
    | (show wpList _ _ _ (Oper.mk (some 18) _ _ _ _ _ :: _) _ _
       refine wpList_load_blk 25 (.tmp 4) rfl rfl rfl H1.out.2.1 [.slice AP ps.length cp, .slice AT ts.length ct] at0 rowSheetP ?_)
    | (show wpList _ _ _ (Oper.mk (some 19) _ _ _ _ _ :: _) _ _
       refine wpList_load_blk 28 (.tmp 5) rfl rfl rfl H1.out.2.2 [.slice AG gs.length cg, .int .i64 vary] at0 rowGradingP ?_))
    go_ret
    exact ⟨rfl, H2.out.1⟩
  have hln : ps.length ≤ 16 ∧ ts.length ≤ 26 ∧ gs.length ≤ 6 := by simp at hvg; omega
  clear hvg
  cases hbk : greatBk gv l
  rotate_left
  · rw [hbk] at hgb
    have HGB := Lib.hid hgb
    clear hgb hz1 hz2 hz3 hz4 hz5 hgl hl hbk hln
    go_enter Tryz.func3, Tryz.ntmps3
    go_wp2_with (first
    | (go_at_call 12
       refine (HGB.out w2 H2.out.1).mono ?_
       rintro e w3 ⟨rfl, hB3⟩
       have H3 := Lib.hid (And.intro (H2.out.1.trans (hB3.mono H2.out.1.size)) (And.intro ((hB3.block _ (lt_of_heap H2.out.2.1)).trans H2.out.2.1) ((hB3.block _ (lt_of_heap H2.out.2.2)).trans H2.out.2.2)))
       clear hB3)
    | (go_at_call 11
       refine (HGT.out w1).mono ?_
       rintro e w2 ⟨rfl, hB2⟩
       have H2 := Lib.hid (And.intro (H1.out.1.trans (hB2.mono H1.out.1.size)) (And.intro ((hB2.block _ (lt_of_heap H1.out.2.1)).trans H1.out.2.1) ((hB2.block _ (lt_of_heap H1.out.2.2)).trans H1.out.2.2)))
       clear hB2)
    | (show wpList _ _ _ (Oper.mk (some 18) _ _ _ _ _ :: _) _ _
       refine wpList_load_blk 25 (.tmp 4) rfl rfl rfl H1.out.2.1 [.slice AP ps.length cp, .slice AT ts.length ct] at0 rowSheetP ?_)
    | (show wpList _ _ _ (Oper.mk (some 19) _ _ _ _ _ :: _) _ _
       refine wpList_load_blk 28 (.tmp 5) rfl rfl rfl H1.out.2.2 [.slice AG gs.length cg, .int .i64 vary] at0 rowGradingP ?_))
    go_ret
    exact ⟨rfl, H3.out.1⟩
  rw [hbk] at hgb
  have HGB := Lib.hid hgb
  obtain ⟨hsk, hl8⟩ := hz5.small hbk
  have hg8 : gv.length ≤ 8 := by
    simp only [greatBk, Bool.or_eq_false_iff, decide_eq_false_iff_not] at hbk
    omega
  have hz : ShAt w B ps ts AP AT := ⟨hz1, hz2, by omega, by omega⟩
  have hg : GdAt w B gs AG := ⟨hz3, by omega⟩
  have htw := fun (W : World) (hW : Below w.heap.size w W) => rfTwin_any ps ts AP cp AT ct B W (Nat.le_trans hB hW.size) (hz.below (hW.mono hB)) (by omega) (by omega)
  unfold TwinPost at htw
  have HTW := Lib.hid htw
  have htr := fun (A1 : Option Addr) (c1 : Nat) (A2 : Option Addr) (c2 : Nat) (W : World) (hW : Below w.heap.size w W) (hs : ShAt W W.heap.size ps ts A1 A2) => gtTrace_any ps ts gs vary gv A1 c1 A2 c2 AG cg AV cv W.heap.size W (Nat.le_refl _) hs ((hg.below (hW.mono hB)).mono (Nat.le_trans hB hW.size)) ((hz4.below (hW.mono hB)).mono (Nat.le_trans hB hW.size)) (by omega)
  have hrt := fun (W : World) (hW : Below w.heap.size w W) => rfTrace_any ps ts gs vary gv AP cp AT ct AG cg AV cv B W (Nat.le_trans hB hW.size) (hz.below (hW.mono hB)) (hg.below (hW.mono hB)) (hz4.below (hW.mono hB)) (by omega)
  have hft := fun (A1 : Option Addr) (c1 : Nat) (A2 : Option Addr) (c2 : Nat) (W : World) (hW : Below w.heap.size w W) (hs : ShAt W W.heap.size ps ts A1 A2) => ftFit_any ps ts gs vary l A1 c1 A2 c2 AG cg AL cl W.heap.size W (Nat.le_refl _) hs ((hg.below (hW.mono hB)).mono (Nat.le_trans hB hW.size)) ((hsk.below (hW.mono hB)).mono (Nat.le_trans hB hW.size)) (by omega)
  have hrf := fun (W : World) (hW : Below w.heap.size w W) => rfFit_any ps ts gs vary l AP cp AT ct AG cg AL cl B W (Nat.le_trans hB hW.size) (hz.below (hW.mono hB)) (hg.below (hW.mono hB)) (hsk.below (hW.mono hB)) (by omega)
  unfold KnownPost at htr hrt hft hrf
  have hsm := fun (A1 : Option Addr) (c1 : Nat) (A2 : Option Addr) (c2 : Nat) (W : World) (hW : Below w.heap.size w W) (hs : ShAt W W.heap.size ps ts A1 A2) => rfSame_any ps ts A1 AP A2 AT c1 cp c2 ct W.heap.size W (Nat.le_refl _) hs ((hz.below (hW.mono hB)).mono (Nat.le_trans hB hW.size))
  generalize sTrace gs vary ps ts gv = tr at htr hrt
  generalize sFit gs vary ps ts l = fi at hft hrf
  obtain ⟨tL, tE⟩ := tr
  obtain ⟨fL, fE⟩ := fi
  simp only at htr hrt hft hrf
  have HTR := Lib.hid htr
  have HRT := Lib.hid hrt
  have HFT := Lib.hid hft
  have HRF := Lib.hid hrf
  have HSM := Lib.hid hsm
  have HLN := Lib.hid hln
  clear htw htr hrt hft hrf hsm hz hg hz1 hz2 hz3 hz4 hz5 hgl hl hbk hgb hsk hl8 hg8 hln
  go_enter Tryz.func3, Tryz.ntmps3
  go_wp2_with (first
    | (go_at_call 19
       refine (HSM.out A1 c1 A2 c2 w9 H9.out.1 H9.out.2.2.2.2).mono ?_
       rintro e w10 ⟨rfl, hB10⟩
       have H10 := Lib.hid (H9.out.1.trans (hB10.mono H9.out.1.size))
       clear hB10)
    | (go_at_call 18
       (with_reducible show Calls _ _ #[.slice A8 _ _, _] _ _)
       refine (gtSameKnown_any fL _ _ _ _ w9 U8.out U9.out).mono ?_
       rintro e w11 ⟨rfl, rfl⟩)
    | (go_at_call 18
       (with_reducible show Calls _ _ #[.slice A6 _ _, _] _ _)
       refine (gtSameKnown_any tL _ _ _ _ w9 U6.out U7.out).mono ?_
       rintro e w11 ⟨rfl, rfl⟩)
    | (go_at_call 17
       refine (HRF.out w8 H8.out.1).mono ?_
       rintro e w9 ⟨A9, c9, rfl, hu9, hB9⟩
       have H9 := Lib.hid (And.intro (H8.out.1.trans (hB9.mono H8.out.1.size)) (And.intro ((hB9.block _ (lt_of_heap H8.out.2.1)).trans H8.out.2.1) (And.intro ((hB9.block _ (lt_of_heap H8.out.2.2.1)).trans H8.out.2.2.1) (And.intro ((hB9.block _ (lt_of_heap H8.out.2.2.2.1)).trans H8.out.2.2.2.1) ((H8.out.2.2.2.2.below hB9).mono hB9.size)))))
       have U6 := Lib.hid (own_grows U6.out hB9)
       have U7 := Lib.hid (own_grows U7.out hB9)
       have U8 := Lib.hid (own_grows U8.out hB9)
       have U9 := Lib.hid hu9
       clear hu9 hB9)
    | (go_at_call 16
       refine (HFT.out A1 c1 A2 c2 w7 H7.out.1 H7.out.2.2.2.2).mono ?_
       rintro e w8 ⟨A8, c8, rfl, hu8, hB8⟩
       have H8 := Lib.hid (And.intro (H7.out.1.trans (hB8.mono H7.out.1.size)) (And.intro ((hB8.block _ (lt_of_heap H7.out.2.1)).trans H7.out.2.1) (And.intro ((hB8.block _ (lt_of_heap H7.out.2.2.1)).trans H7.out.2.2.1) (And.intro ((hB8.block _ (lt_of_heap H7.out.2.2.2.1)).trans H7.out.2.2.2.1) ((H7.out.2.2.2.2.below hB8).mono hB8.size)))))
       have U6 := Lib.hid (own_grows U6.out hB8)
       have U7 := Lib.hid (own_grows U7.out hB8)
       have U8 := Lib.hid hu8
       clear hu8 hB8)
    | (go_at_call 15
       refine (HRT.out w6 H6.out.1).mono ?_
       rintro e w7 ⟨A7, c7, rfl, hu7, hB7⟩
       have H7 := Lib.hid (And.intro (H6.out.1.trans (hB7.mono H6.out.1.size)) (And.intro ((hB7.block _ (lt_of_heap H6.out.2.1)).trans H6.out.2.1) (And.intro ((hB7.block _ (lt_of_heap H6.out.2.2.1)).trans H6.out.2.2.1) (And.intro ((hB7.block _ (lt_of_heap H6.out.2.2.2.1)).trans H6.out.2.2.2.1) ((H6.out.2.2.2.2.below hB7).mono hB7.size)))))
       have U6 := Lib.hid (own_grows U6.out hB7)
       have U7 := Lib.hid hu7
       clear hu7 hB7)
    | (go_at_call 14
       refine (HTR.out A1 c1 A2 c2 w5 H5.out.1 H5.out.2.2.2.2).mono ?_
       rintro e w6 ⟨A6, c6, rfl, hu6, hB6⟩
       have H6 := Lib.hid (And.intro (H5.out.1.trans (hB6.mono H5.out.1.size)) (And.intro ((hB6.block _ (lt_of_heap H5.out.2.1)).trans H5.out.2.1) (And.intro ((hB6.block _ (lt_of_heap H5.out.2.2.1)).trans H5.out.2.2.1) (And.intro ((hB6.block _ (lt_of_heap H5.out.2.2.2.1)).trans H5.out.2.2.2.1) ((H5.out.2.2.2.2.below hB6).mono hB6.size)))))
       have U6 := Lib.hid hu6
       clear hu6 hB6)
    | (go_at_call 13
       refine (HTW.out w3 H3.out.1).mono ?_
       rintro e w4 ⟨v1, v2, rfl, ho, hB4⟩
       obtain ⟨A1, c1, rfl⟩ := own_slice ho.1
       obtain ⟨A2, c2, rfl⟩ := own_slice ho.2
       obtain ⟨w5, hw5⟩ : ∃ w5, w4.alloc (.cells #[.slice A1 ps.length c1, .slice A2 ts.length c2] 25) = w5 := ⟨_, rfl⟩
       have g5 : Grows w4 w5 := by rw [← hw5]; exact grow1 _ _
       have g35 : Below w3.heap.size w3 w5 := hB4.trans (g5.mono hB4.size)
       have m5 : w5.heap[w4.heap.size]? = some (.cells [.slice A1 ps.length c1, .slice A2 ts.length c2].toArray 25 (0, 0)) := by rw [← hw5]; exact alloc_at0 _ _
       have hs5 := ownS_sh (OwnS.grows ho g5) (by have := HLN.out; omega) (by have := HLN.out; omega)
       have H5 := Lib.hid (And.intro (H3.out.1.trans (g35.mono H3.out.1.size)) (And.intro ((g35.block _ (lt_of_heap H3.out.2.1)).trans H3.out.2.1) (And.intro ((g35.block _ (lt_of_heap H3.out.2.2)).trans H3.out.2.2) (And.intro m5 hs5))))
       clear ho hB4 g5 g35 m5 hs5)
    | (go_at_call 12
       refine (HGB.out w2 H2.out.1).mono ?_
       rintro e w3 ⟨rfl, hB3⟩
       have H3 := Lib.hid (And.intro (H2.out.1.trans (hB3.mono H2.out.1.size)) (And.intro ((hB3.block _ (lt_of_heap H2.out.2.1)).trans H2.out.2.1) ((hB3.block _ (lt_of_heap H2.out.2.2)).trans H2.out.2.2)))
       clear hB3)
    | (go_at_call 11
       refine (HGT.out w1).mono ?_
       rintro e w2 ⟨rfl, hB2⟩
       have H2 := Lib.hid (And.intro (H1.out.1.trans (hB2.mono H1.out.1.size)) (And.intro ((hB2.block _ (lt_of_heap H1.out.2.1)).trans H1.out.2.1) ((hB2.block _ (lt_of_heap H1.out.2.2)).trans H1.out.2.2)))
       clear hB2)
    | (show wpList _ _ _ (Oper.mk (some 75) _ _ _ _ _ :: _) _ _
       refine wpList_load_blkG 25 (.tmp 9) rfl rfl rfl H9.out.2.2.2.1 [.slice A1 ps.length c1, .slice A2 ts.length c2] at0 rowSheetP ?_)
    | (show wpList _ _ _ (Oper.mk (some 76) _ _ _ _ _ :: _) _ _
       refine wpList_load_blkG 25 (.tmp 4) rfl rfl rfl H9.out.2.1 [.slice AP ps.length cp, .slice AT ts.length ct] at0 rowSheetP ?_)
    | (show wpList _ _ _ (Oper.mk (some 50) _ _ _ _ _ :: _) _ _
       refine wpList_load_blk 25 (.tmp 4) rfl rfl rfl H8.out.2.1 [.slice AP ps.length cp, .slice AT ts.length ct] at0 rowSheetP ?_)
    | (show wpList _ _ _ (Oper.mk (some 51) _ _ _ _ _ :: _) _ _
       refine wpList_load_blk 28 (.tmp 5) rfl rfl rfl H8.out.2.2.1 [.slice AG gs.length cg, .int .i64 vary] at0 rowGradingP ?_)
    | (show wpList _ _ _ (Oper.mk (some 43) _ _ _ _ _ :: _) _ _
       refine wpList_load_blk 25 (.tmp 9) rfl rfl rfl H7.out.2.2.2.1 [.slice A1 ps.length c1, .slice A2 ts.length c2] at0 rowSheetP ?_)
    | (show wpList _ _ _ (Oper.mk (some 44) _ _ _ _ _ :: _) _ _
       refine wpList_load_blk 28 (.tmp 5) rfl rfl rfl H7.out.2.2.1 [.slice AG gs.length cg, .int .i64 vary] at0 rowGradingP ?_)
    | (show wpList _ _ _ (Oper.mk (some 36) _ _ _ _ _ :: _) _ _
       refine wpList_load_blk 25 (.tmp 4) rfl rfl rfl H6.out.2.1 [.slice AP ps.length cp, .slice AT ts.length ct] at0 rowSheetP ?_)
    | (show wpList _ _ _ (Oper.mk (some 37) _ _ _ _ _ :: _) _ _
       refine wpList_load_blk 28 (.tmp 5) rfl rfl rfl H6.out.2.2.1 [.slice AG gs.length cg, .int .i64 vary] at0 rowGradingP ?_)
    | (show wpList _ _ _ (Oper.mk (some 29) _ _ _ _ _ :: _) _ _
       refine wpList_load_blk 25 (.tmp 9) rfl rfl rfl H5.out.2.2.2.1 [.slice A1 ps.length c1, .slice A2 ts.length c2] at0 rowSheetP ?_)
    | (show wpList _ _ _ (Oper.mk (some 30) _ _ _ _ _ :: _) _ _
       refine wpList_load_blk 28 (.tmp 5) rfl rfl rfl H5.out.2.2.1 [.slice AG gs.length cg, .int .i64 vary] at0 rowGradingP ?_)
    | (show wpList _ _ _ (Oper.mk (some 26) _ _ _ _ _ :: _) _ _
       refine wpList_load_blk 25 (.tmp 4) rfl rfl rfl H3.out.2.1 [.slice AP ps.length cp, .slice AT ts.length ct] at0 rowSheetP ?_)
    | (show wpList _ _ _ (Oper.mk (some 18) _ _ _ _ _ :: _) _ _
       refine wpList_load_blk 25 (.tmp 4) rfl rfl rfl H1.out.2.1 [.slice AP ps.length cp, .slice AT ts.length ct] at0 rowSheetP ?_)
    | (show wpList _ _ _ (Oper.mk (some 19) _ _ _ _ _ :: _) _ _
       refine wpList_load_blk 28 (.tmp 5) rfl rfl rfl H1.out.2.2 [.slice AG gs.length cg, .int .i64 vary] at0 rowGradingP ?_))
  go_ret
  exact ⟨rfl, H10.out⟩

end Go.Proofs.YtpnnlmaipcjkmaaGreat
