/-
  Which flutes are valid (the program's).
-/
import Derived.Test.YthjpgpelbagceaaFuB
set_option linter.all false
namespace Go.Proofs.Ythjpgpelbagceaa
open Go.RowKit
open R6 (done done_ne done_me upd_ne upd_me)

attribute [local go_sem] gives

/-- A flute as it lies. -/
def FuAt (w : World) (B : Nat) (f : Fu) : Prop := Vals w B f.A (f.hs.flatMap hoc)
theorem FuAt.below {w w' : World} {B : Nat} {f : Fu} (h : FuAt w B f) (hb : Below B w w') : FuAt w' B f := Vals.below h hb
theorem FuAt.mono {w : World} {B B' : Nat} {f : Fu} (h : FuAt w B f) (hb : B ≤ B') : FuAt w B' f := Vals.mono h hb

set_option maxRecDepth 100000 in
set_option maxHeartbeats 4000000 in
theorem validHoles_any (f : Fu) (hln : 50 ≤ f.len ∧ f.len ≤ 20000) (hl : f.hs.length ≤ 1000000) (B : Nat) (w : World) (hB : B ≤ w.heap.size) (hz : FuAt w B f) :
    Calls Try.prog 84 #[.agg (fuc f).toArray] w fun e w' => e = .returned (.bool (hoL f.len f.hs 50)) ∧ Below w.heap.size w w' := by
  obtain ⟨w1, hw1⟩ : ∃ w1, w.alloc (.cells (fuc f).toArray 28) = w1 := ⟨_, rfl⟩
  have hb1 : Below w.heap.size w w1 := by rw [← hw1]; exact grow1 _ _
  have m1 : w1.heap[w.heap.size]? = some (.cells (fuc f).toArray 28 (0, 0)) := by rw [← hw1]; exact alloc_at0 _ _
  have hcf := fun (W : World) (hW : Below w1.heap.size w1 W) i => cell_of_row W w.heap.size i _ _ _ ((hW.block _ (lt_of_heap m1)).trans m1)
  have hln1 := hln.1
  have hln2 := hln.2
  have hwl : IntKind.i64.wrap (f.len - 1) = f.len - 1 := by rw [IntKind.wrap_i64]; omega
  have hz' : Vals w B f.A (f.hs.flatMap hoc) := hz
  have HZ := Lib.hid hz'
  have HWL := Lib.hid hwl
  obtain ⟨X, hX⟩ : ∃ X, X = hoL f.len f.hs 50 := ⟨_, rfl⟩
  rw [← hX]
  have hX0 : hoL f.len (f.hs.drop 0) (loH f.hs 0) = X := by rw [hX]; rfl
  have HX := Lib.hid hX0
  have hid := fun (k : Nat) (hk : k < f.hs.length) => hoL_step (len := f.len) hk
  have HID := Lib.hid hid
  have H1 := Lib.hid hb1
  unfold fuc at hw1 hcf ⊢
  have HCF := Lib.hid hcf
  have hc1 := HCF.out w1 (Below.refl _ _)
  clear hz hz' hwl hX hX0 hid hcf hb1 m1 hln
  generalize f.len = len at hln1 hln2 hw1 hc1 HX HID HCF HWL ⊢
  generalize f.A = A at hw1 hc1 HCF HZ ⊢
  go_enter Try.func84, Try.ntmps84
  go_wp2
  go_loopg [3, 9] f.hs.length (fun gg s3 s9 wx => ∃ k : Nat, k + gg = f.hs.length ∧ s3 = .int .i64 (loH f.hs k) ∧ s9 = .int .i64 k ∧ Hid (0 ≤ loH f.hs k ∧ loH f.hs k ≤ 20000) ∧ Hid (hoL len (f.hs.drop k) (loH f.hs k) = X) ∧ Hid (Below w1.heap.size w1 wx))
  case atStart => exact ⟨0, by omega, rfl, rfl, ⟨by simp [loH], by simp [loH]⟩, HX.out, Below.refl _ _⟩
  case round =>
    obtain ⟨k, hkg, rfl, rfl, hLB, hI, hBr⟩ := hrel
    have hws := hBr.out.size
    cases gk with
    | zero =>
      obtain rfl : k = f.hs.length := by omega
      have hI' := hI.out
      rw [List.drop_length] at hI'
      have HI := Lib.hid hI'
      clear hI'
      go_wp2
      go_ret
      exact ⟨by rw [← HI.out]; rfl, H1.out.trans (hBr.out.mono H1.out.size)⟩
    | succ gg =>
      have hk : k < f.hs.length := by omega
      have hkz : (k : Int) < f.hs.length := by omega
      obtain ⟨c, off, hA, hcB, hc⟩ := vals_elem hoc_len HZ.out (by decide) hk
      subst hA
      have hst := HID.out k hk
      rw [hI.out] at hst
      have hlo : loH f.hs (k + 1) = f.hs[k].a + 1 := by simp [loH, hk]
      have hc' := fun j v hv => ((H1.out.trans (hBr.out.mono H1.out.size)).cell (p := ⟨c, off + k * 3 + j, none⟩) (by simp; omega)).trans (hc j v hv)
      rw [hlo] at hst
      have HLO := Lib.hid hlo
      clear hc1 hc hlo
      generalize f.hs[k] = y at hc' hst HLO
      have HY := Lib.hid hc'
      have HST := Lib.hid hst
      obtain ⟨least, hle⟩ : ∃ m, m = loH f.hs k := ⟨_, rfl⟩
      have hlb := hLB.out
      rw [← hle] at HST hlb
      simp only [← hle]
      have hl1 := hlb.1
      have hl2 := hlb.2
      have hcr := HCF.out wr hBr.out
      have HLE := Lib.hid hle
      clear hc' hst hlb hle
      have hwk : IntKind.i64.wrap (y.a + 1) = y.a + 1 ∨ ¬ (0 ≤ y.a ∧ y.a ≤ 20000) := by
        by_cases h : 0 ≤ y.a ∧ y.a ≤ 20000
        · exact .inl (by rw [IntKind.wrap_i64]; omega)
        · exact .inr h
      have HWK := Lib.hid hwk
      have H5 := Lib.hid (fun W b hb => within_new least (len - 1) [y.a] W b 1 1 rfl hb (by simp))
      have H6 := Lib.hid (fun W => validFix_any y.lo y.hi W)
      clear hwk
      cases hv1 : allB least (len - 1) [y.a]
      · have HV1 := Lib.hid hv1
        clear hv1
        go_wp2_with (first
          | (show wpList _ _ _ (Oper.mk (some 12) _ _ _ _ _ :: _) _ _
             refine wpList_load_at 38 (.tmp 11) rfl rfl rfl (hoc y) HY.out rowHole ?_)
          | (show wpList _ _ _ (Oper.mk none (Op.store _ (Operand.tmp 5) (Operand.tmp 12)) _ _ _ _ :: _) _ _
             refine wpList_store_blk 38 (.tmp 5) (.tmp 12) (cs := hoc y) (L := [.int .i64 0, .int .i64 0, .int .i64 0]) rfl rfl rfl rfl rfl (alloc_at0 _ _) (by simp [hoc_len]) (fun u hu => hoc_one [y] u (by simpa using hu)) rowHole ?_
             intro w4 hP4 hM4
             rw [splice_whole (by simp [hoc_len])] at hM4
             have hs4 := hP4.size
             simp only [World.size_alloc] at hs4
             have hb4 : Below wr.heap.size wr w4 := (grow1 wr _).trans (hP4.below (Nat.le_refl _))
             unfold hoc at hM4
             have hc4 := fun i => cell_of_row w4 wr.heap.size i _ _ _ hM4
             have hc1 := HCF.out w4 (hBr.out.trans (hb4.mono hws))
             have H4 := Lib.hid (And.intro hb4 (And.intro hM4 hs4))
             clear hP4 hM4 hs4 hb4)
          | (go_at_call 64
             refine (H5.out _ _ (alloc_at0 _ _)).mono ?_
             rintro e W5 ⟨rfl, hB5⟩
             rw [HV1.out]
             have HB5 := Lib.hid ((grow1 w4 _).trans (hB5.mono (grow1 w4 _).size))
             clear hB5))
        go_ret
        exact ⟨by rw [HST.out, HV1.out]; rfl, H1.out.trans ((hBr.out.trans ((H4.out.1.trans (HB5.out.mono H4.out.1.size)).mono hws)).mono H1.out.size)⟩
      have hy0 : least ≤ y.a ∧ y.a ≤ len - 1 := by rw [allB_one, inR_iff] at hv1; exact hv1
      have HV1 := Lib.hid hv1
      have hya1 : 0 ≤ y.a := by omega
      have hya2 : y.a ≤ 20000 := by omega
      have HY0 := Lib.hid hy0
      clear hv1 hy0
      cases hv2 : okS y.lo y.hi 0 60
      · have HV2 := Lib.hid hv2
        clear hv2
        go_wp2_with (first
          | (show wpList _ _ _ (Oper.mk (some 12) _ _ _ _ _ :: _) _ _
             refine wpList_load_at 38 (.tmp 11) rfl rfl rfl (hoc y) HY.out rowHole ?_)
          | (show wpList _ _ _ (Oper.mk none (Op.store _ (Operand.tmp 5) (Operand.tmp 12)) _ _ _ _ :: _) _ _
             refine wpList_store_blk 38 (.tmp 5) (.tmp 12) (cs := hoc y) (L := [.int .i64 0, .int .i64 0, .int .i64 0]) rfl rfl rfl rfl rfl (alloc_at0 _ _) (by simp [hoc_len]) (fun u hu => hoc_one [y] u (by simpa using hu)) rowHole ?_
             intro w4 hP4 hM4
             rw [splice_whole (by simp [hoc_len])] at hM4
             have hs4 := hP4.size
             simp only [World.size_alloc] at hs4
             have hb4 : Below wr.heap.size wr w4 := (grow1 wr _).trans (hP4.below (Nat.le_refl _))
             unfold hoc at hM4
             have hc4 := fun i => cell_of_row w4 wr.heap.size i _ _ _ hM4
             clear hcr
             have hc1 := HCF.out w4 (hBr.out.trans (hb4.mono hws))
             have H4 := Lib.hid (And.intro hb4 (And.intro hM4 hs4))
             clear hP4 hM4 hs4 hb4)
          | (go_at_call 64
             refine (H5.out _ _ (alloc_at0 _ _)).mono ?_
             rintro e W5 ⟨rfl, hB5⟩
             rw [HV1.out]
             have HB5 := Lib.hid ((grow1 w4 _).trans (hB5.mono (grow1 w4 _).size))
             clear hB5
             have hc5 := fun i => cell_of_row W5 wr.heap.size i _ _ _ ((HB5.out.block _ (lt_of_heap H4.out.2.1)).trans H4.out.2.1))
          | (go_at_call 62
             refine (H6.out _).mono ?_
             rintro e W6 ⟨rfl, hB6⟩
             rw [HV2.out]
             have HB6 := Lib.hid (HB5.out.trans (hB6.mono HB5.out.size))
             clear hB6))
        go_ret
        exact ⟨by rw [HST.out, HV1.out, HV2.out]; rfl, H1.out.trans ((hBr.out.trans ((H4.out.1.trans (HB6.out.mono H4.out.1.size)).mono hws)).mono H1.out.size)⟩
      · have HV2 := Lib.hid hv2
        clear hv2
        go_wp2_with (first
          | (show wpList _ _ _ (Oper.mk (some 12) _ _ _ _ _ :: _) _ _
             refine wpList_load_at 38 (.tmp 11) rfl rfl rfl (hoc y) HY.out rowHole ?_)
          | (show wpList _ _ _ (Oper.mk none (Op.store _ (Operand.tmp 5) (Operand.tmp 12)) _ _ _ _ :: _) _ _
             refine wpList_store_blk 38 (.tmp 5) (.tmp 12) (cs := hoc y) (L := [.int .i64 0, .int .i64 0, .int .i64 0]) rfl rfl rfl rfl rfl (alloc_at0 _ _) (by simp [hoc_len]) (fun u hu => hoc_one [y] u (by simpa using hu)) rowHole ?_
             intro w4 hP4 hM4
             rw [splice_whole (by simp [hoc_len])] at hM4
             have hs4 := hP4.size
             simp only [World.size_alloc] at hs4
             have hb4 : Below wr.heap.size wr w4 := (grow1 wr _).trans (hP4.below (Nat.le_refl _))
             unfold hoc at hM4
             have hc4 := fun i => cell_of_row w4 wr.heap.size i _ _ _ hM4
             clear hcr
             have hc1 := HCF.out w4 (hBr.out.trans (hb4.mono hws))
             have H4 := Lib.hid (And.intro hb4 (And.intro hM4 hs4))
             clear hP4 hM4 hs4 hb4)
          | (go_at_call 64
             refine (H5.out _ _ (alloc_at0 _ _)).mono ?_
             rintro e W5 ⟨rfl, hB5⟩
             rw [HV1.out]
             have HB5 := Lib.hid ((grow1 w4 _).trans (hB5.mono (grow1 w4 _).size))
             clear hB5
             have hc5 := fun i => cell_of_row W5 wr.heap.size i _ _ _ ((HB5.out.block _ (lt_of_heap H4.out.2.1)).trans H4.out.2.1))
          | (go_at_call 62
             refine (H6.out _).mono ?_
             rintro e W6 ⟨rfl, hB6⟩
             rw [HV2.out]
             have HB6 := Lib.hid (HB5.out.trans (hB6.mono HB5.out.size))
             clear hB6
             have hc6 := fun i => cell_of_row W6 wr.heap.size i _ _ _ ((HB6.out.block _ (lt_of_heap H4.out.2.1)).trans H4.out.2.1)))
        go_roundg gg
        case measure => omega
        case rel => exact ⟨k + 1, by omega, by rw [HLO.out], by go_num, by rw [HLO.out]; exact ⟨by omega, by have := HY0.out; omega⟩, by rw [HLO.out, HST.out, HV1.out, HV2.out]; rfl, hBr.out.trans ((H4.out.1.trans (HB6.out.mono H4.out.1.size)).mono hws)⟩

end Go.Proofs.Ythjpgpelbagceaa
