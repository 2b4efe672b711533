/-
  Texts laid together: FuB, FuB2, FuB3, FrA, FrE.
-/
import Derived.Test.YtjjipkgconmfcaaB95
set_option linter.all false
namespace Go.Proofs.Ytjjipkgconmfcaa
open Go.RowKit
open R6 (done done_ne done_me upd_ne upd_me)

attribute [local go_sem] gives

theorem rowFlute : RowTy Try.prog 28 8 := ⟨⟨_, Try.underlying28, rfl⟩, by kernel_rfl⟩
theorem rowHole : RowTy Try.prog 38 3 := ⟨⟨_, Try.underlying38, rfl⟩, by kernel_rfl⟩

theorem validLength_any (n : Int) (w : World) : Calls Try.prog 61 #[.int .i64 n] w fun e w' => e = .returned (.bool (allB 50 20000 [n])) ∧ Below w.heap.size w w' := by
  have HW := Lib.hid (fun W b hb => within_new 50 20000 [n] W b 1 1 rfl hb (by simp))
  generalize allB 50 20000 [n] = u at HW ⊢
  go_enter Try.func61, Try.ntmps61
  go_wp2_with (go_at_call 64; refine (HW.out _ _ (alloc_at0 _ _)).mono ?_; rintro e W3 ⟨rfl, hB3⟩; have H3 := Lib.hid ((grow1 w _).trans (hB3.mono (grow1 w _).size)); clear hB3)
  go_ret
  exact ⟨rfl, H3.out⟩
theorem validSpeed_any (a b : Int) (w : World) : Calls Try.prog 63 #[.agg #[.int .i64 a, .int .i64 b]] w fun e w' => e = .returned (.bool (okS a b 100000 500000)) ∧ Below w.heap.size w w' := by
  have HW := Lib.hid (fun W => validSpan_any a b 100000 500000 W)
  generalize okS a b 100000 500000 = u at HW ⊢
  go_enter Try.func63, Try.ntmps63
  go_wp2_with (go_at_call 74; refine (HW.out _).mono ?_; rintro e W3 ⟨rfl, hB3⟩; have H3 := Lib.hid ((grow1 w _).trans (hB3.mono (grow1 w _).size)); clear hB3)
  go_ret
  exact ⟨rfl, H3.out⟩
theorem validFix_any (a b : Int) (w : World) : Calls Try.prog 62 #[.agg #[.int .i64 a, .int .i64 b]] w fun e w' => e = .returned (.bool (okS a b 0 60)) ∧ Below w.heap.size w w' := by
  obtain ⟨w1, hw1⟩ : ∃ w1, w.alloc (.cells #[.int .i64 a, .int .i64 b] 25) = w1 := ⟨_, rfl⟩
  have hb1 : Below w.heap.size w w1 := by rw [← hw1]; exact grow1 _ _
  have m1 : w1.heap[w.heap.size]? = some (.cells #[.int .i64 a, .int .i64 b] 25 (0, 0)) := by rw [← hw1]; exact alloc_at0 _ _
  have HW := Lib.hid (fun W => validSpan_any a b 0 60 W)
  generalize okS a b 0 60 = u at HW ⊢
  have H1 := Lib.hid (And.intro hb1 m1)
  clear hb1 m1
  go_enter Try.func62, Try.ntmps62
  go_wp2
  refine R6.wp_walk (C := fun _ _ W => Below w1.heap.size w1 W) 6 (by kernel_rfl) (by kernel_rfl) rfl (Below.refl _ _).drew ?_
  simp only []
  repeat (first
    | (refine' R6.WalkR.det (fun _ => rfl) (fun D ρ W hK hC => ?_) ?_
       rotate_left
       · have hcb := fun i => cell_of_row W w.heap.size i _ _ _ ((hC.block _ (lt_of_heap H1.out.2)).trans H1.out.2)
         have HC := Lib.hid hC
         clear hC hK
         go_simp
         first
           | with_reducible exact ⟨rfl, HC.out⟩
           | (go_at_call 66; refine (upTo_any _ W).mono ?_; rintro e W1 ⟨rfl, hB1⟩; exact ⟨_, rfl, rfl, HC.out.trans (hB1.mono HC.out.size)⟩)
           | (go_at_call 74; refine (HW.out W).mono ?_; rintro e W1 ⟨rfl, hB1⟩; exact ⟨_, rfl, rfl, HC.out.trans (hB1.mono HC.out.size)⟩)
       simp only [Act.put, List.setIfInBounds_toArray, List.set_cons_succ, List.set_cons_zero]))
  refine R6.WalkR.nil (fun D ρ W hD hC => ?_)
  have HB := Lib.hid (H1.out.1.trans (hC.mono H1.out.1.size))
  clear hC hD
  go_wp2
  go_ret
  exact ⟨rfl, HB.out⟩
theorem validNote_any (a b : Int) (w : World) : Calls Try.prog 46 #[.agg #[.int .i64 a, .int .i64 b]] w fun e w' => e = .returned (.bool (okS a b 1 10000000)) ∧ Below w.heap.size w w' := by
  obtain ⟨w1, hw1⟩ : ∃ w1, w.alloc (.cells #[.int .i64 a, .int .i64 b] 25) = w1 := ⟨_, rfl⟩
  have hb1 : Below w.heap.size w w1 := by rw [← hw1]; exact grow1 _ _
  have m1 : w1.heap[w.heap.size]? = some (.cells #[.int .i64 a, .int .i64 b] 25 (0, 0)) := by rw [← hw1]; exact alloc_at0 _ _
  have HW := Lib.hid (fun W => validSpan_any a b 1 10000000 W)
  generalize okS a b 1 10000000 = u at HW ⊢
  have H1 := Lib.hid (And.intro hb1 m1)
  clear hb1 m1
  go_enter Try.func46, Try.ntmps46
  go_wp2
  refine R6.wp_walk (C := fun _ _ W => Below w1.heap.size w1 W) 6 (by kernel_rfl) (by kernel_rfl) rfl (Below.refl _ _).drew ?_
  simp only []
  repeat (first
    | (refine' R6.WalkR.det (fun _ => rfl) (fun D ρ W hK hC => ?_) ?_
       rotate_left
       · have hcb := fun i => cell_of_row W w.heap.size i _ _ _ ((hC.block _ (lt_of_heap H1.out.2)).trans H1.out.2)
         have HC := Lib.hid hC
         clear hC hK
         go_simp
         first
           | with_reducible exact ⟨rfl, HC.out⟩
           | (go_at_call 65; refine (fromOne_any _ W).mono ?_; rintro e W1 ⟨rfl, hB1⟩; exact ⟨_, rfl, rfl, HC.out.trans (hB1.mono HC.out.size)⟩)
           | (go_at_call 74; refine (HW.out W).mono ?_; rintro e W1 ⟨rfl, hB1⟩; exact ⟨_, rfl, rfl, HC.out.trans (hB1.mono HC.out.size)⟩)
       simp only [Act.put, List.setIfInBounds_toArray, List.set_cons_succ, List.set_cons_zero]))
  refine R6.WalkR.nil (fun D ρ W hD hC => ?_)
  have HB := Lib.hid (H1.out.1.trans (hC.mono H1.out.1.size))
  clear hC hD
  go_wp2
  go_ret
  exact ⟨rfl, HB.out⟩

end Go.Proofs.Ytjjipkgconmfcaa

namespace Go.Proofs.Ytjjipkgconmfcaa
open Go.RowKit
open R6 (done done_ne done_me upd_ne upd_me)

attribute [local go_sem] gives

/-- A flute as it lies. -/
def FuAt (w : World) (B : Nat) (f : Fu) : Prop := Vals w B f.A (f.hs.flatMap hoc)
theorem FuAt.below {w w' : World} {B : Nat} {f : Fu} (h : FuAt w B f) (hb : Below B w w') : FuAt w' B f := Vals.below h hb
theorem FuAt.mono {w : World} {B B' : Nat} {f : Fu} (h : FuAt w B f) (hb : B ≤ B') : FuAt w B' f := Vals.mono h hb

set_option maxRecDepth 100000 in
set_option maxHeartbeats 4000000 in
theorem validHoles_any (f : Fu) (hln : 50 ≤ f.len ∧ f.len ≤ 20000) (hl : f.hs.length ≤ 1000000) (B : Nat) (w : World) (hB : B ≤ w.heap.size) (hz : FuAt w B f) :
    Calls Try.prog 84 #[.agg (fuc f).toArray] w fun e w' => e = .returned (.bool (hoL f.len f.hs 50)) ∧ Below w.heap.size w w' := by
  obtain ⟨w1, hw1⟩ : ∃ w1, w.alloc (.cells (fuc f).toArray 28) = w1 := ⟨_, rfl⟩
  have hb1 : Below w.heap.size w w1 := by rw [← hw1]; exact grow1 _ _
  have m1 : w1.heap[w.heap.size]? = some (.cells (fuc f).toArray 28 (0, 0)) := by rw [← hw1]; exact alloc_at0 _ _
  have hcf := fun (W : World) (hW : Below w1.heap.size w1 W) i => cell_of_row W w.heap.size i _ _ _ ((hW.block _ (lt_of_heap m1)).trans m1)
  have hln1 := hln.1
  have hln2 := hln.2
  have hwl : IntKind.i64.wrap (f.len - 1) = f.len - 1 := by rw [IntKind.wrap_i64]; omega
  have hz' : Vals w B f.A (f.hs.flatMap hoc) := hz
  have HZ := Lib.hid hz'
  have HWL := Lib.hid hwl
  obtain ⟨X, hX⟩ : ∃ X, X = hoL f.len f.hs 50 := ⟨_, rfl⟩
  rw [← hX]
  have hX0 : hoL f.len (f.hs.drop 0) (loH f.hs 0) = X := by rw [hX]; rfl
  have HX := Lib.hid hX0
  have hid := fun (k : Nat) (hk : k < f.hs.length) => hoL_step (len := f.len) hk
  have HID := Lib.hid hid
  have H1 := Lib.hid hb1
  unfold fuc at hw1 hcf ⊢
  have HCF := Lib.hid hcf
  have hc1 := HCF.out w1 (Below.refl _ _)
  clear hz hz' hwl hX hX0 hid hcf hb1 m1 hln
  generalize f.len = len at hln1 hln2 hw1 hc1 HX HID HCF HWL ⊢
  generalize f.A = A at hw1 hc1 HCF HZ ⊢
  go_enter Try.func84, Try.ntmps84
  go_wp2
  go_loopg [3, 9] f.hs.length (fun gg s3 s9 wx => ∃ k : Nat, k + gg = f.hs.length ∧ s3 = .int .i64 (loH f.hs k) ∧ s9 = .int .i64 k ∧ Hid (0 ≤ loH f.hs k ∧ loH f.hs k ≤ 20000) ∧ Hid (hoL len (f.hs.drop k) (loH f.hs k) = X) ∧ Hid (Below w1.heap.size w1 wx))
  case atStart => exact ⟨0, by omega, rfl, rfl, ⟨by simp [loH], by simp [loH]⟩, HX.out, Below.refl _ _⟩
  case round =>
    obtain ⟨k, hkg, rfl, rfl, hLB, hI, hBr⟩ := hrel
    have hws := hBr.out.size
    cases gk with
    | zero =>
      obtain rfl : k = f.hs.length := by omega
      have hI' := hI.out
      rw [List.drop_length] at hI'
      have HI := Lib.hid hI'
      clear hI'
      go_wp2
      go_ret
      exact ⟨by rw [← HI.out]; rfl, H1.out.trans (hBr.out.mono H1.out.size)⟩
    | succ gg =>
      have hk : k < f.hs.length := by omega
      have hkz : (k : Int) < f.hs.length := by omega
      obtain ⟨c, off, hA, hcB, hc⟩ := vals_elem hoc_len HZ.out (by decide) hk
      subst hA
      have hst := HID.out k hk
      rw [hI.out] at hst
      have hlo : loH f.hs (k + 1) = f.hs[k].a + 1 := by simp [loH, hk]
      have hc' := fun j v hv => ((H1.out.trans (hBr.out.mono H1.out.size)).cell (p := ⟨c, off + k * 3 + j, none⟩) (by simp; omega)).trans (hc j v hv)
      rw [hlo] at hst
      have HLO := Lib.hid hlo
      clear hc1 hc hlo
      generalize f.hs[k] = y at hc' hst HLO
      have HY := Lib.hid hc'
      have HST := Lib.hid hst
      obtain ⟨least, hle⟩ : ∃ m, m = loH f.hs k := ⟨_, rfl⟩
      have hlb := hLB.out
      rw [← hle] at HST hlb
      simp only [← hle]
      have hl1 := hlb.1
      have hl2 := hlb.2
      have hcr := HCF.out wr hBr.out
      have HLE := Lib.hid hle
      clear hc' hst hlb hle
      have hwk : IntKind.i64.wrap (y.a + 1) = y.a + 1 ∨ ¬ (0 ≤ y.a ∧ y.a ≤ 20000) := by
        by_cases h : 0 ≤ y.a ∧ y.a ≤ 20000
        · exact .inl (by rw [IntKind.wrap_i64]; omega)
        · exact .inr h
      have HWK := Lib.hid hwk
      have H5 := Lib.hid (fun W b hb => within_new least (len - 1) [y.a] W b 1 1 rfl hb (by simp))
      have H6 := Lib.hid (fun W => validFix_any y.lo y.hi W)
      clear hwk
      cases hv1 : allB least (len - 1) [y.a]
      · have HV1 := Lib.hid hv1
        clear hv1
        go_wp2_with (first
          | (show wpList _ _ _ (Oper.mk (some 12) _ _ _ _ _ :: _) _ _
             refine wpList_load_at 38 (.tmp 11) rfl rfl rfl (hoc y) HY.out rowHole ?_)
          | (show wpList _ _ _ (Oper.mk none (Op.store _ (Operand.tmp 5) (Operand.tmp 12)) _ _ _ _ :: _) _ _
             refine wpList_store_blk 38 (.tmp 5) (.tmp 12) (cs := hoc y) (L := [.int .i64 0, .int .i64 0, .int .i64 0]) rfl rfl rfl rfl rfl (alloc_at0 _ _) (by simp [hoc_len]) (fun u hu => hoc_one [y] u (by simpa using hu)) rowHole ?_
             intro w4 hP4 hM4
             rw [splice_whole (by simp [hoc_len])] at hM4
             have hs4 := hP4.size
             simp only [World.size_alloc] at hs4
             have hb4 : Below wr.heap.size wr w4 := (grow1 wr _).trans (hP4.below (Nat.le_refl _))
             unfold hoc at hM4
             have hc4 := fun i => cell_of_row w4 wr.heap.size i _ _ _ hM4
             have hc1 := HCF.out w4 (hBr.out.trans (hb4.mono hws))
             have H4 := Lib.hid (And.intro hb4 (And.intro hM4 hs4))
             clear hP4 hM4 hs4 hb4)
          | (go_at_call 64
             refine (H5.out _ _ (alloc_at0 _ _)).mono ?_
             rintro e W5 ⟨rfl, hB5⟩
             rw [HV1.out]
             have HB5 := Lib.hid ((grow1 w4 _).trans (hB5.mono (grow1 w4 _).size))
             clear hB5))
        go_ret
        exact ⟨by rw [HST.out, HV1.out]; rfl, H1.out.trans ((hBr.out.trans ((H4.out.1.trans (HB5.out.mono H4.out.1.size)).mono hws)).mono H1.out.size)⟩
      have hy0 : least ≤ y.a ∧ y.a ≤ len - 1 := by rw [allB_one, inR_iff] at hv1; exact hv1
      have HV1 := Lib.hid hv1
      have hya1 : 0 ≤ y.a := by omega
      have hya2 : y.a ≤ 20000 := by omega
      have HY0 := Lib.hid hy0
      clear hv1 hy0
      cases hv2 : okS y.lo y.hi 0 60
      · have HV2 := Lib.hid hv2
        clear hv2
        go_wp2_with (first
          | (show wpList _ _ _ (Oper.mk (some 12) _ _ _ _ _ :: _) _ _
             refine wpList_load_at 38 (.tmp 11) rfl rfl rfl (hoc y) HY.out rowHole ?_)
          | (show wpList _ _ _ (Oper.mk none (Op.store _ (Operand.tmp 5) (Operand.tmp 12)) _ _ _ _ :: _) _ _
             refine wpList_store_blk 38 (.tmp 5) (.tmp 12) (cs := hoc y) (L := [.int .i64 0, .int .i64 0, .int .i64 0]) rfl rfl rfl rfl rfl (alloc_at0 _ _) (by simp [hoc_len]) (fun u hu => hoc_one [y] u (by simpa using hu)) rowHole ?_
             intro w4 hP4 hM4
             rw [splice_whole (by simp [hoc_len])] at hM4
             have hs4 := hP4.size
             simp only [World.size_alloc] at hs4
             have hb4 : Below wr.heap.size wr w4 := (grow1 wr _).trans (hP4.below (Nat.le_refl _))
             unfold hoc at hM4
             have hc4 := fun i => cell_of_row w4 wr.heap.size i _ _ _ hM4
             clear hcr
             have hc1 := HCF.out w4 (hBr.out.trans (hb4.mono hws))
             have H4 := Lib.hid (And.intro hb4 (And.intro hM4 hs4))
             clear hP4 hM4 hs4 hb4)
          | (go_at_call 64
             refine (H5.out _ _ (alloc_at0 _ _)).mono ?_
             rintro e W5 ⟨rfl, hB5⟩
             rw [HV1.out]
             have HB5 := Lib.hid ((grow1 w4 _).trans (hB5.mono (grow1 w4 _).size))
             clear hB5
             have hc5 := fun i => cell_of_row W5 wr.heap.size i _ _ _ ((HB5.out.block _ (lt_of_heap H4.out.2.1)).trans H4.out.2.1))
          | (go_at_call 62
             refine (H6.out _).mono ?_
             rintro e W6 ⟨rfl, hB6⟩
             rw [HV2.out]
             have HB6 := Lib.hid (HB5.out.trans (hB6.mono HB5.out.size))
             clear hB6))
        go_ret
        exact ⟨by rw [HST.out, HV1.out, HV2.out]; rfl, H1.out.trans ((hBr.out.trans ((H4.out.1.trans (HB6.out.mono H4.out.1.size)).mono hws)).mono H1.out.size)⟩
      · have HV2 := Lib.hid hv2
        clear hv2
        go_wp2_with (first
          | (show wpList _ _ _ (Oper.mk (some 12) _ _ _ _ _ :: _) _ _
             refine wpList_load_at 38 (.tmp 11) rfl rfl rfl (hoc y) HY.out rowHole ?_)
          | (show wpList _ _ _ (Oper.mk none (Op.store _ (Operand.tmp 5) (Operand.tmp 12)) _ _ _ _ :: _) _ _
             refine wpList_store_blk 38 (.tmp 5) (.tmp 12) (cs := hoc y) (L := [.int .i64 0, .int .i64 0, .int .i64 0]) rfl rfl rfl rfl rfl (alloc_at0 _ _) (by simp [hoc_len]) (fun u hu => hoc_one [y] u (by simpa using hu)) rowHole ?_
             intro w4 hP4 hM4
             rw [splice_whole (by simp [hoc_len])] at hM4
             have hs4 := hP4.size
             simp only [World.size_alloc] at hs4
             have hb4 : Below wr.heap.size wr w4 := (grow1 wr _).trans (hP4.below (Nat.le_refl _))
             unfold hoc at hM4
             have hc4 := fun i => cell_of_row w4 wr.heap.size i _ _ _ hM4
             clear hcr
             have hc1 := HCF.out w4 (hBr.out.trans (hb4.mono hws))
             have H4 := Lib.hid (And.intro hb4 (And.intro hM4 hs4))
             clear hP4 hM4 hs4 hb4)
          | (go_at_call 64
             refine (H5.out _ _ (alloc_at0 _ _)).mono ?_
             rintro e W5 ⟨rfl, hB5⟩
             rw [HV1.out]
             have HB5 := Lib.hid ((grow1 w4 _).trans (hB5.mono (grow1 w4 _).size))
             clear hB5
             have hc5 := fun i => cell_of_row W5 wr.heap.size i _ _ _ ((HB5.out.block _ (lt_of_heap H4.out.2.1)).trans H4.out.2.1))
          | (go_at_call 62
             refine (H6.out _).mono ?_
             rintro e W6 ⟨rfl, hB6⟩
             rw [HV2.out]
             have HB6 := Lib.hid (HB5.out.trans (hB6.mono HB5.out.size))
             clear hB6
             have hc6 := fun i => cell_of_row W6 wr.heap.size i _ _ _ ((HB6.out.block _ (lt_of_heap H4.out.2.1)).trans H4.out.2.1)))
        go_roundg gg
        case measure => omega
        case rel => exact ⟨k + 1, by omega, by rw [HLO.out], by go_num, by rw [HLO.out]; exact ⟨by omega, by have := HY0.out; omega⟩, by rw [HLO.out, HST.out, HV1.out, HV2.out]; rfl, hBr.out.trans ((H4.out.1.trans (HB6.out.mono H4.out.1.size)).mono hws)⟩

end Go.Proofs.Ytjjipkgconmfcaa

namespace Go.Proofs.Ytjjipkgconmfcaa
open Go.RowKit

set_option maxRecDepth 100000 in
set_option maxHeartbeats 4000000 in
theorem validFlute_any (f : Fu) (hl : f.hs.length ≤ 1000000) (B : Nat) (w : World) (hB : B ≤ w.heap.size) (hz : FuAt w B f) :
    Calls Try.prog 51 #[.agg (fuc f).toArray] w fun e w' => e = .returned (.bool (okFu f)) ∧ Below w.heap.size w w' := by
  obtain ⟨w1, hw1⟩ : ∃ w1, w.alloc (.cells (fuc f).toArray 28) = w1 := ⟨_, rfl⟩
  have hb1 : Below w.heap.size w w1 := by rw [← hw1]; exact grow1 _ _
  have m1 : w1.heap[w.heap.size]? = some (.cells (fuc f).toArray 28 (0, 0)) := by rw [← hw1]; exact alloc_at0 _ _
  have hcf := fun (W : World) (hW : Below w1.heap.size w1 W) i => cell_of_row W w.heap.size i _ _ _ ((hW.block _ (lt_of_heap m1)).trans m1)
  have hh := fun (h : allB 50 20000 [f.len] = true) W (hW : Below w1.heap.size w1 W) => validHoles_any f (by rw [allB_one, inR_iff] at h; exact h) hl B W (Nat.le_trans hB (Nat.le_trans hb1.size hW.size)) ((hz.below (hb1.mono hB)).below (hW.mono (Nat.le_trans hB hb1.size)))
  have hx : okFu f = (allB 50 20000 [f.len] && okS f.e0 f.e1 0 60 && okS f.c0 f.c1 0 60 && okS f.s0 f.s1 100000 500000 && decide (f.hs.length ≤ 8) && hoL f.len f.hs 50) := rfl
  rw [hx]
  have HL := Lib.hid (fun W => validLength_any f.len W)
  have HE := Lib.hid (fun W => validFix_any f.e0 f.e1 W)
  have HK := Lib.hid (fun W => validFix_any f.c0 f.c1 W)
  have HS := Lib.hid (fun W => validSpeed_any f.s0 f.s1 W)
  have HH := Lib.hid hh
  have H1 := Lib.hid hb1
  clear hz hb1 m1 hx hh
  unfold fuc at hw1 hcf HH ⊢
  have HCF := Lib.hid hcf
  have hc := HCF.out w1 (Below.refl _ _)
  have HB := Lib.hid (Below.refl w1.heap.size w1)
  clear hcf
  generalize hoL f.len f.hs 50 = v6 at HH ⊢
  generalize okS f.s0 f.s1 100000 500000 = v4 at HS ⊢
  generalize okS f.c0 f.c1 0 60 = v3 at HK ⊢
  generalize okS f.e0 f.e1 0 60 = v2 at HE ⊢
  generalize allB 50 20000 [f.len] = v1 at HL HH ⊢
  cases v1
  · go_enter Try.func51, Try.ntmps51
    go_wp2_with (first
      | (go_at_call 61
         refine (HL.out _).mono ?_
         rintro e w' ⟨rfl, hB'⟩
         have hK := HB.out.trans (hB'.mono HB.out.size)
         clear hc HB hB'
         have HB := Lib.hid hK
         have hc := HCF.out w' hK
         clear hK))
    go_ret
    exact ⟨rfl, H1.out.trans (HB.out.mono H1.out.size)⟩
  cases v2
  · go_enter Try.func51, Try.ntmps51
    go_wp2_with (first
      | (go_at_call 62
         (with_reducible show Calls _ _ #[.agg #[.int .i64 f.e0, _]] _ _)
         refine (HE.out _).mono ?_
         rintro e w' ⟨rfl, hB'⟩
         have hK := HB.out.trans (hB'.mono HB.out.size)
         clear hc HB hB'
         have HB := Lib.hid hK
         have hc := HCF.out w' hK
         clear hK)
      | (go_at_call 61
         refine (HL.out _).mono ?_
         rintro e w' ⟨rfl, hB'⟩
         have hK := HB.out.trans (hB'.mono HB.out.size)
         clear hc HB hB'
         have HB := Lib.hid hK
         have hc := HCF.out w' hK
         clear hK))
    go_ret
    exact ⟨rfl, H1.out.trans (HB.out.mono H1.out.size)⟩
  cases v3
  · go_enter Try.func51, Try.ntmps51
    go_wp2_with (first
      | (go_at_call 62
         (with_reducible show Calls _ _ #[.agg #[.int .i64 f.c0, _]] _ _)
         refine (HK.out _).mono ?_
         rintro e w' ⟨rfl, hB'⟩
         have hK := HB.out.trans (hB'.mono HB.out.size)
         clear hc HB hB'
         have HB := Lib.hid hK
         have hc := HCF.out w' hK
         clear hK)
      | (go_at_call 62
         (with_reducible show Calls _ _ #[.agg #[.int .i64 f.e0, _]] _ _)
         refine (HE.out _).mono ?_
         rintro e w' ⟨rfl, hB'⟩
         have hK := HB.out.trans (hB'.mono HB.out.size)
         clear hc HB hB'
         have HB := Lib.hid hK
         have hc := HCF.out w' hK
         clear hK)
      | (go_at_call 61
         refine (HL.out _).mono ?_
         rintro e w' ⟨rfl, hB'⟩
         have hK := HB.out.trans (hB'.mono HB.out.size)
         clear hc HB hB'
         have HB := Lib.hid hK
         have hc := HCF.out w' hK
         clear hK))
    go_ret
    exact ⟨rfl, H1.out.trans (HB.out.mono H1.out.size)⟩
  cases v4
  · go_enter Try.func51, Try.ntmps51
    go_wp2_with (first
      | (go_at_call 63
         refine (HS.out _).mono ?_
         rintro e w' ⟨rfl, hB'⟩
         have hK := HB.out.trans (hB'.mono HB.out.size)
         clear hc HB hB'
         have HB := Lib.hid hK
         have hc := HCF.out w' hK
         clear hK)
      | (go_at_call 62
         (with_reducible show Calls _ _ #[.agg #[.int .i64 f.c0, _]] _ _)
         refine (HK.out _).mono ?_
         rintro e w' ⟨rfl, hB'⟩
         have hK := HB.out.trans (hB'.mono HB.out.size)
         clear hc HB hB'
         have HB := Lib.hid hK
         have hc := HCF.out w' hK
         clear hK)
      | (go_at_call 62
         (with_reducible show Calls _ _ #[.agg #[.int .i64 f.e0, _]] _ _)
         refine (HE.out _).mono ?_
         rintro e w' ⟨rfl, hB'⟩
         have hK := HB.out.trans (hB'.mono HB.out.size)
         clear hc HB hB'
         have HB := Lib.hid hK
         have hc := HCF.out w' hK
         clear hK)
      | (go_at_call 61
         refine (HL.out _).mono ?_
         rintro e w' ⟨rfl, hB'⟩
         have hK := HB.out.trans (hB'.mono HB.out.size)
         clear hc HB hB'
         have HB := Lib.hid hK
         have hc := HCF.out w' hK
         clear hK))
    go_ret
    exact ⟨rfl, H1.out.trans (HB.out.mono H1.out.size)⟩
  by_cases h5 : f.hs.length ≤ 8
  rotate_left
  · have h5z : decide ((f.hs.length : Int) ≤ 8) = false := decide_eq_false (by omega)
    have h5n : decide (f.hs.length ≤ 8) = false := decide_eq_false h5
    rw [h5n]
    clear h5n
    go_enter Try.func51, Try.ntmps51
    go_wp2_with (first
      | (go_at_call 63
         refine (HS.out _).mono ?_
         rintro e w' ⟨rfl, hB'⟩
         have hK := HB.out.trans (hB'.mono HB.out.size)
         clear hc HB hB'
         have HB := Lib.hid hK
         have hc := HCF.out w' hK
         clear hK)
      | (go_at_call 62
         (with_reducible show Calls _ _ #[.agg #[.int .i64 f.c0, _]] _ _)
         refine (HK.out _).mono ?_
         rintro e w' ⟨rfl, hB'⟩
         have hK := HB.out.trans (hB'.mono HB.out.size)
         clear hc HB hB'
         have HB := Lib.hid hK
         have hc := HCF.out w' hK
         clear hK)
      | (go_at_call 62
         (with_reducible show Calls _ _ #[.agg #[.int .i64 f.e0, _]] _ _)
         refine (HE.out _).mono ?_
         rintro e w' ⟨rfl, hB'⟩
         have hK := HB.out.trans (hB'.mono HB.out.size)
         clear hc HB hB'
         have HB := Lib.hid hK
         have hc := HCF.out w' hK
         clear hK)
      | (go_at_call 61
         refine (HL.out _).mono ?_
         rintro e w' ⟨rfl, hB'⟩
         have hK := HB.out.trans (hB'.mono HB.out.size)
         clear hc HB hB'
         have HB := Lib.hid hK
         have hc := HCF.out w' hK
         clear hK))
    go_ret
    exact ⟨rfl, H1.out.trans (HB.out.mono H1.out.size)⟩
  have h5z : decide ((f.hs.length : Int) ≤ 8) = true := decide_eq_true (by omega)
  have h5n : decide (f.hs.length ≤ 8) = true := decide_eq_true h5
  rw [h5n]
  clear h5n
  cases v6
  · go_enter Try.func51, Try.ntmps51
    go_wp2_with (first
      | (go_at_call 84
         refine (HH.out (by first | trivial | rfl) _ HB.out).mono ?_
         rintro e w' ⟨rfl, hB'⟩
         have hK := HB.out.trans (hB'.mono HB.out.size)
         clear hc HB hB'
         have HB := Lib.hid hK
         have hc := HCF.out w' hK
         clear hK)
      | (go_at_call 63
         refine (HS.out _).mono ?_
         rintro e w' ⟨rfl, hB'⟩
         have hK := HB.out.trans (hB'.mono HB.out.size)
         clear hc HB hB'
         have HB := Lib.hid hK
         have hc := HCF.out w' hK
         clear hK)
      | (go_at_call 62
         (with_reducible show Calls _ _ #[.agg #[.int .i64 f.c0, _]] _ _)
         refine (HK.out _).mono ?_
         rintro e w' ⟨rfl, hB'⟩
         have hK := HB.out.trans (hB'.mono HB.out.size)
         clear hc HB hB'
         have HB := Lib.hid hK
         have hc := HCF.out w' hK
         clear hK)
      | (go_at_call 62
         (with_reducible show Calls _ _ #[.agg #[.int .i64 f.e0, _]] _ _)
         refine (HE.out _).mono ?_
         rintro e w' ⟨rfl, hB'⟩
         have hK := HB.out.trans (hB'.mono HB.out.size)
         clear hc HB hB'
         have HB := Lib.hid hK
         have hc := HCF.out w' hK
         clear hK)
      | (go_at_call 61
         refine (HL.out _).mono ?_
         rintro e w' ⟨rfl, hB'⟩
         have hK := HB.out.trans (hB'.mono HB.out.size)
         clear hc HB hB'
         have HB := Lib.hid hK
         have hc := HCF.out w' hK
         clear hK))
    go_ret
    exact ⟨rfl, H1.out.trans (HB.out.mono H1.out.size)⟩
  · go_enter Try.func51, Try.ntmps51
    go_wp2_with (first
      | (go_at_call 84
         refine (HH.out (by first | trivial | rfl) _ HB.out).mono ?_
         rintro e w' ⟨rfl, hB'⟩
         have hK := HB.out.trans (hB'.mono HB.out.size)
         clear hc HB hB'
         have HB := Lib.hid hK
         have hc := HCF.out w' hK
         clear hK)
      | (go_at_call 63
         refine (HS.out _).mono ?_
         rintro e w' ⟨rfl, hB'⟩
         have hK := HB.out.trans (hB'.mono HB.out.size)
         clear hc HB hB'
         have HB := Lib.hid hK
         have hc := HCF.out w' hK
         clear hK)
      | (go_at_call 62
         (with_reducible show Calls _ _ #[.agg #[.int .i64 f.c0, _]] _ _)
         refine (HK.out _).mono ?_
         rintro e w' ⟨rfl, hB'⟩
         have hK := HB.out.trans (hB'.mono HB.out.size)
         clear hc HB hB'
         have HB := Lib.hid hK
         have hc := HCF.out w' hK
         clear hK)
      | (go_at_call 62
         (with_reducible show Calls _ _ #[.agg #[.int .i64 f.e0, _]] _ _)
         refine (HE.out _).mono ?_
         rintro e w' ⟨rfl, hB'⟩
         have hK := HB.out.trans (hB'.mono HB.out.size)
         clear hc HB hB'
         have HB := Lib.hid hK
         have hc := HCF.out w' hK
         clear hK)
      | (go_at_call 61
         refine (HL.out _).mono ?_
         rintro e w' ⟨rfl, hB'⟩
         have hK := HB.out.trans (hB'.mono HB.out.size)
         clear hc HB hB'
         have HB := Lib.hid hK
         have hc := HCF.out w' hK
         clear hK))
    go_ret
    exact ⟨rfl, H1.out.trans (HB.out.mono H1.out.size)⟩

theorem check_any (f : Fu) (hl : f.hs.length ≤ 1000000) (B : Nat) (w : World) (hB : B ≤ w.heap.size) (hz : FuAt w B f) :
    Calls Try.prog 24 #[.agg (fuc f).toArray] w fun e w' => e = .returned (.int .i64 (if okFu f = true then 0 else 90)) ∧ Below w.heap.size w w' := by
  obtain ⟨w1, hw1⟩ : ∃ w1, w.alloc (.cells (fuc f).toArray 28) = w1 := ⟨_, rfl⟩
  have hb1 : Below w.heap.size w w1 := by rw [← hw1]; exact grow1 _ _
  have m1 : w1.heap[w.heap.size]? = some (.cells (fuc f).toArray 28 (0, 0)) := by rw [← hw1]; exact alloc_at0 _ _
  have HV := Lib.hid (validFlute_any f hl B w1 (Nat.le_trans hB hb1.size) (hz.below (hb1.mono hB)))
  have hc := fun i => cell_of_row w1 w.heap.size i _ _ _ m1
  have H1 := Lib.hid hb1
  clear hz hb1 m1
  unfold fuc at hw1 HV hc ⊢
  generalize okFu f = v at HV ⊢
  cases v
  all_goals
    go_enter Try.func24, Try.ntmps24
    go_wp2_with (go_at_call 51; refine HV.out.mono ?_; rintro e w' ⟨rfl, hB'⟩; have HB := Lib.hid hB'; clear hB')
    go_ret
    exact ⟨rfl, H1.out.trans (HB.out.mono H1.out.size)⟩

end Go.Proofs.Ytjjipkgconmfcaa

namespace Go.Proofs.Ytjjipkgconmfcaa
open Go.RowKit

theorem rfWithin_any (n lo hi : Int) (w : World) : Calls Try.prog 60 #[.int .i64 n, .int .i64 lo, .int .i64 hi] w fun e w' => e = .returned (.bool (inR n lo hi)) ∧ w = w' := by
  by_cases h1 : lo ≤ n
  · by_cases h2 : n ≤ hi
    · have e : inR n lo hi = true := inR_iff.2 ⟨h1, h2⟩
      rw [e]
      clear e
      go_enter Try.func60, Try.ntmps60
      go_wp2
      go_ret
      exact ⟨rfl, rfl⟩
    · have e : inR n lo hi = false := by simp [inR]; omega
      rw [e]
      clear e
      go_enter Try.func60, Try.ntmps60
      go_wp2
      go_ret
      exact ⟨rfl, rfl⟩
  · have e : inR n lo hi = false := by simp [inR]; omega
    rw [e]
    clear e
    go_enter Try.func60, Try.ntmps60
    go_wp2
    go_ret
    exact ⟨rfl, rfl⟩
theorem okS_false {a b lo hi : Int} (h : ¬ (lo ≤ a ∧ a ≤ b ∧ b ≤ hi)) : okS a b lo hi = false := by
  cases e : okS a b lo hi
  · rfl
  · exact absurd (okS_iff.1 e) h
theorem rfSpanned_any (a b lo hi : Int) (w : World) : Calls Try.prog 58 #[.agg #[.int .i64 a, .int .i64 b], .int .i64 lo, .int .i64 hi] w fun e w' => e = .returned (.bool (okS a b lo hi)) ∧ Below w.heap.size w w' := by
  by_cases h1 : lo ≤ a
  · by_cases h2 : a ≤ b
    · by_cases h3 : b ≤ hi
      · rw [okS_iff.2 ⟨h1, h2, h3⟩]
        go_enter Try.func58, Try.ntmps58
        go_wp2
        go_ret
        exact ⟨rfl, grow1 _ _⟩
      · rw [okS_false (by omega)]
        go_enter Try.func58, Try.ntmps58
        go_wp2
        go_ret
        exact ⟨rfl, grow1 _ _⟩
    · rw [okS_false (by omega)]
      go_enter Try.func58, Try.ntmps58
      go_wp2
      go_ret
      exact ⟨rfl, grow1 _ _⟩
  · rw [okS_false (by omega)]
    go_enter Try.func58, Try.ntmps58
    go_wp2
    go_ret
    exact ⟨rfl, grow1 _ _⟩
theorem rfNote_any (a b : Int) (w : World) : Calls Try.prog 33 #[.agg #[.int .i64 a, .int .i64 b]] w fun e w' => e = .returned (.bool (okS a b 1 10000000)) ∧ Below w.heap.size w w' := by
  have HW := Lib.hid (fun W => rfSpanned_any a b 1 10000000 W)
  generalize okS a b 1 10000000 = u at HW ⊢
  go_enter Try.func33, Try.ntmps33
  go_wp2_with (go_at_call 58; refine (HW.out _).mono ?_; rintro e W3 ⟨rfl, hB3⟩; have H3 := Lib.hid ((grow1 w _).trans (hB3.mono (grow1 w _).size)); clear hB3)
  go_ret
  exact ⟨rfl, H3.out⟩
/-- Whether a tone is a note. -/
def plaF (t o : Int × Int) : Int := if o.1 ≤ t.1 ∧ t.2 ≤ o.2 then 2 else if t.2 < o.1 ∨ o.2 < t.1 then 0 else 1
theorem plaF_two (t o : Int × Int) : (plaF t o == 2) = insB o t := by
  unfold plaF insB
  by_cases h : o.1 ≤ t.1 ∧ t.2 ≤ o.2
  · rw [if_pos h, decide_eq_true h.1, decide_eq_true h.2]; rfl
  · rw [if_neg h]
    have e : (decide (o.1 ≤ t.1) && decide (t.2 ≤ o.2)) = false := by
      cases e : (decide (o.1 ≤ t.1) && decide (t.2 ≤ o.2))
      · rfl
      · simp only [Bool.and_eq_true, decide_eq_true_eq] at e; exact absurd e h
    rw [e]
    split <;> rfl
theorem rfPlays_any (t0 t1 o0 o1 : Int) (w : World) : Calls Try.prog 53 #[.agg #[.int .i64 t0, .int .i64 t1], .agg #[.int .i64 o0, .int .i64 o1]] w fun e w' => e = .returned (.int .u8 (plaF (t0, t1) (o0, o1))) ∧ Below w.heap.size w w' := by
  have hp : plaF (t0, t1) (o0, o1) = if o0 ≤ t0 ∧ t1 ≤ o1 then 2 else if t1 < o0 ∨ o1 < t0 then 0 else 1 := rfl
  rw [hp]
  clear hp
  have hg : Below w.heap.size w ((w.alloc (.cells #[.int .i64 t0, .int .i64 t1] 25)).alloc (.cells #[.int .i64 o0, .int .i64 o1] 25)) := ((Below.refl _ _).alloc (Nat.le_refl _) _).alloc (by simp) _
  have HG := Lib.hid hg
  clear hg
  by_cases h : o0 ≤ t0 ∧ t1 ≤ o1
  · rw [if_pos h]
    obtain ⟨h1, h2⟩ := h
    go_enter Try.func53, Try.ntmps53
    go_wp2
    go_ret
    exact ⟨rfl, HG.out⟩
  rw [if_neg h]
  by_cases h3 : t1 < o0
  · rw [if_pos (.inl h3)]
    by_cases h1 : o0 ≤ t0
    · have h2 : ¬ t1 ≤ o1 := by omega
      clear h
      go_enter Try.func53, Try.ntmps53
      go_wp2
      go_ret
      exact ⟨rfl, HG.out⟩
    · clear h
      go_enter Try.func53, Try.ntmps53
      go_wp2
      go_ret
      exact ⟨rfl, HG.out⟩
  by_cases h4 : o1 < t0
  · rw [if_pos (.inr h4)]
    by_cases h1 : o0 ≤ t0
    · have h2 : ¬ t1 ≤ o1 := by omega
      clear h
      go_enter Try.func53, Try.ntmps53
      go_wp2
      go_ret
      exact ⟨rfl, HG.out⟩
    · clear h
      go_enter Try.func53, Try.ntmps53
      go_wp2
      go_ret
      exact ⟨rfl, HG.out⟩
  rw [if_neg (by omega)]
  by_cases h1 : o0 ≤ t0
  · have h2 : ¬ t1 ≤ o1 := by omega
    clear h
    go_enter Try.func53, Try.ntmps53
    go_wp2
    go_ret
    exact ⟨rfl, HG.out⟩
  · clear h
    go_enter Try.func53, Try.ntmps53
    go_wp2
    go_ret
    exact ⟨rfl, HG.out⟩

theorem rfOpen_any (n i : Nat) (hn : n < 256) (hi : i < 20) (w : World) : Calls Try.prog 93 #[.int .u8 (n : Int), .int .i64 (i : Int)] w fun e w' => e = .returned (.bool (n.testBit i)) ∧ w = w' := by
  go_enter Try.func93, Try.ntmps93
  go_wp2
  go_ret
  refine ⟨congrArg (fun x => Ending.returned (Value.bool x)) ?_, rfl⟩
  clear w
  obtain ⟨m, rfl⟩ : ∃ m : Fin 256, m.val = n := ⟨⟨n, hn⟩, rfl⟩
  obtain ⟨j, rfl⟩ : ∃ j : Fin 20, j.val = i := ⟨⟨i, hi⟩, rfl⟩
  clear hn hi
  revert m j
  decide +kernel

end Go.Proofs.Ytjjipkgconmfcaa

namespace Go.Proofs.Ytjjipkgconmfcaa
open Go.RowKit
open R6 (done done_ne done_me upd_ne upd_me)

attribute [local go_sem] gives

/-- A blank. -/
structure Bk where
  len : Int
  e0 : Int
  e1 : Int
  f0 : Int
  f1 : Int
  s0 : Int
  s1 : Int
  gap : Int
  near : Int
  A : Option Addr
  cap : Nat
  zs : List Int
def bkc (b : Bk) : List Value := [.int .i64 b.len, .int .i64 b.e0, .int .i64 b.e1, .int .i64 b.f0, .int .i64 b.f1, .int .i64 b.s0, .int .i64 b.s1, .int .i64 b.gap, .int .i64 b.near, .slice b.A b.zs.length b.cap]
def bk0 : Bk := ⟨0, 0, 0, 0, 0, 0, 0, 0, 0, none, 0, []⟩
def fu0 : Fu := ⟨0, 0, 0, 0, 0, 0, 0, none, 0, []⟩
def greatF (f : Fu) (b : Bk) (n : Int) : Bool := decide (12 < f.hs.length) || decide (20 < b.zs.length) || decide (15 < n)
theorem rfGreat_any (f : Fu) (b : Bk) (n : Int) (w : World) :
    Calls Try.prog 25 #[.agg (fuc f).toArray, .agg (bkc b).toArray, .int .i64 n] w fun e w' => e = .returned (.bool (greatF f b n)) ∧ Below w.heap.size w w' := by
  have hg : Below w.heap.size w ((w.alloc (.cells (fuc f).toArray 28)).alloc (.cells (bkc b).toArray 34)) := ((Below.refl _ _).alloc (Nat.le_refl _) _).alloc (by simp) _
  unfold fuc bkc at hg ⊢
  have HG := Lib.hid hg
  clear hg
  by_cases h1 : 12 < f.hs.length
  · have h1z : decide ((12 : Int) < f.hs.length) = true := decide_eq_true (by omega)
    have e : greatF f b n = true := by simp [greatF, h1]
    rw [e]
    clear e h1
    go_enter Try.func25, Try.ntmps25
    go_wp2
    go_ret
    exact ⟨rfl, HG.out⟩
  have h1z : decide ((12 : Int) < f.hs.length) = false := decide_eq_false (by omega)
  by_cases h2 : 20 < b.zs.length
  · have h2z : decide ((20 : Int) < b.zs.length) = true := decide_eq_true (by omega)
    have e : greatF f b n = true := by simp [greatF, h2]
    rw [e]
    clear e h1 h2
    go_enter Try.func25, Try.ntmps25
    go_wp2
    go_ret
    exact ⟨rfl, HG.out⟩
  have h2z : decide ((20 : Int) < b.zs.length) = false := decide_eq_false (by omega)
  have e : greatF f b n = decide (15 < n) := by simp [greatF, h1, h2]
  rw [e]
  clear e h1 h2
  go_enter Try.func25, Try.ntmps25
  go_wp2
  go_ret
  exact ⟨rfl, HG.out⟩

end Go.Proofs.Ytjjipkgconmfcaa
