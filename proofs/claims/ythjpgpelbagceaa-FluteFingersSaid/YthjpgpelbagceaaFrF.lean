/-
  Flutes compared.
-/
import Derived.Test.YthjpgpelbagceaaFrE
set_option linter.all false
namespace Go.Proofs.Ythjpgpelbagceaa
open Go.RowKit
open R6 (done done_ne done_me upd_ne upd_me)

attribute [local go_sem] gives

/-- A flute at another place. -/
def fuAt' (f : Fu) (A : Option Addr) (c : Nat) : Fu := { f with A := A, cap := c }

set_option maxRecDepth 100000 in
set_option maxHeartbeats 8000000 in
theorem rfSame_any (f : Fu) (A' : Option Addr) (c' : Nat) (hl : f.hs.length ≤ 1000000) (B B' : Nat) (w : World) (hB : B ≤ w.heap.size) (hB' : B' ≤ w.heap.size) (hz : FuAt w B f) (hz' : FuAt w B' (fuAt' f A' c')) :
    Calls Try.prog 18 #[.agg (fuc (fuAt' f A' c')).toArray, .agg (fuc f).toArray] w fun e w' => e = .returned (.bool true) ∧ Below w.heap.size w w' := by
  have h1 : Vals w B f.A (f.hs.flatMap hoc) := hz
  have h2 : Vals w B' A' (f.hs.flatMap hoc) := hz'
  clear hz hz'
  unfold fuAt' fuc
  dsimp only
  obtain ⟨w1, hw1⟩ : ∃ w1, (w.alloc (.cells #[.int .i64 f.len, .int .i64 f.e0, .int .i64 f.e1, .int .i64 f.c0, .int .i64 f.c1, .int .i64 f.s0, .int .i64 f.s1, .slice A' f.hs.length c'] 28)).alloc (.cells #[.int .i64 f.len, .int .i64 f.e0, .int .i64 f.e1, .int .i64 f.c0, .int .i64 f.c1, .int .i64 f.s0, .int .i64 f.s1, .slice f.A f.hs.length f.cap] 28) = w1 := ⟨_, rfl⟩
  have hb1 : Below w.heap.size w w1 := by rw [← hw1]; exact ((Below.refl _ _).alloc (Nat.le_refl _) _).alloc (by simp) _
  have m0 : w1.heap[w.heap.size]? = some (.cells #[.int .i64 f.len, .int .i64 f.e0, .int .i64 f.e1, .int .i64 f.c0, .int .i64 f.c1, .int .i64 f.s0, .int .i64 f.s1, .slice A' f.hs.length c'] 28 (0, 0)) := by rw [← hw1]; exact alloc2_at0 _ _ _
  have m1 : w1.heap[w.heap.size + 1]? = some (.cells #[.int .i64 f.len, .int .i64 f.e0, .int .i64 f.e1, .int .i64 f.c0, .int .i64 f.c1, .int .i64 f.s0, .int .i64 f.s1, .slice f.A f.hs.length f.cap] 28 (0, 0)) := by rw [← hw1]; exact alloc2_at1 _ _ _
  have HV1 := Lib.hid (h1.below (hb1.mono hB))
  have HV2 := Lib.hid (h2.below (hb1.mono hB'))
  have hcf := fun (W : World) (hW : Below w1.heap.size w1 W) => And.intro (fun i => cell_of_row W w.heap.size i _ _ _ ((hW.block _ (lt_of_heap m0)).trans m0)) (fun i => cell_of_row W (w.heap.size + 1) i _ _ _ ((hW.block _ (lt_of_heap m1)).trans m1))
  have HCF := Lib.hid hcf
  obtain ⟨hc0, hc1⟩ := HCF.out w1 (Below.refl _ _)
  have H1 := Lib.hid hb1
  clear h1 h2 hb1 m0 m1 hcf
  generalize f.A = A at hw1 HCF HV1 hc1 ⊢
  go_enter Try.func18, Try.ntmps18
  go_wp2
  go_loopg [5] f.hs.length (fun gg s5 wx => ∃ k : Nat, k + gg = f.hs.length ∧ s5 = .int .i64 k ∧ Hid (Below w1.heap.size w1 wx))
  case atStart => exact ⟨0, by omega, rfl, Below.refl _ _⟩
  case round =>
    obtain ⟨k, hkg, rfl, hBr⟩ := hrel
    have hws := hBr.out.size
    clear hc0 hc1
    obtain ⟨hc0, hc1⟩ := HCF.out wr hBr.out
    cases gk with
    | zero =>
      obtain rfl : k = f.hs.length := by omega
      go_wp2
      go_ret
      exact ⟨rfl, H1.out.trans (hBr.out.mono H1.out.size)⟩
    | succ gg =>
      have hk : k < f.hs.length := by omega
      have hkz : (k : Int) < f.hs.length := by omega
      obtain ⟨c, off, hA, hcB, hcy⟩ := vals_elem hoc_len HV1.out (by decide) hk
      obtain ⟨d, off2, hA2, hdB, hdy⟩ := vals_elem hoc_len HV2.out (by decide) hk
      subst hA hA2
      have hB1 := H1.out.size
      have hy1 := fun W (hW : Below wr.heap.size wr W) j v hv => (((hBr.out.trans (hW.mono hws)).cell (p := ⟨c, off + k * 3 + j, none⟩) (by simp; omega)).trans (hcy j v hv))
      have hy2 := fun W (hW : Below wr.heap.size wr W) j v hv => (((hBr.out.trans (hW.mono hws)).cell (p := ⟨d, off2 + k * 3 + j, none⟩) (by simp; omega)).trans (hdy j v hv))
      generalize f.hs[k] = y at hy1 hy2 hcy hdy
      have HY1 := Lib.hid hy1
      have HY2 := Lib.hid hy2
      clear hy1 hy2 hcy hdy
      go_wp2
      refine R6.wp_walk (C := fun _ _ W => Below wr.heap.size wr W) 59 (by kernel_rfl) (by kernel_rfl) rfl (Below.refl _ _).drew ?_
      simp only []
      iterate 4
        (refine' R6.WalkR.det (fun _ => rfl) (fun D ρ W hK hC => ?_) ?_
         rotate_left
         · obtain ⟨f0, f1⟩ := HCF.out W (hBr.out.trans (hC.mono hws))
           have HC := Lib.hid hC
           clear hC hK
           go_simp
           with_reducible exact ⟨rfl, HC.out⟩
         simp only [Act.put, List.setIfInBounds_toArray, List.set_cons_succ, List.set_cons_zero])
      refine' R6.WalkR.det (fun _ => rfl) (fun D ρ W hK hC => ?_) ?_
      rotate_left
      · exact gives_load_at 38 (.tmp 51) rfl (by simp [Act.eval]) [.int .i64 y.a, .int .i64 y.lo, .int .i64 y.hi] (HY2.out W hC) rowHole ⟨rfl, hC⟩
      simp only [Act.put, List.setIfInBounds_toArray, List.set_cons_succ, List.set_cons_zero]
      iterate 4
        (refine' R6.WalkR.det (fun _ => rfl) (fun D ρ W hK hC => ?_) ?_
         rotate_left
         · obtain ⟨f0, f1⟩ := HCF.out W (hBr.out.trans (hC.mono hws))
           have HC := Lib.hid hC
           clear hC hK
           go_simp
           with_reducible exact ⟨rfl, HC.out⟩
         simp only [Act.put, List.setIfInBounds_toArray, List.set_cons_succ, List.set_cons_zero])
      refine' R6.WalkR.det (fun _ => rfl) (fun D ρ W hK hC => ?_) ?_
      rotate_left
      · exact gives_load_at 38 (.tmp 56) rfl (by simp [Act.eval]) [.int .i64 y.a, .int .i64 y.lo, .int .i64 y.hi] (HY1.out W hC) rowHole ⟨rfl, hC⟩
      simp only [Act.put, List.setIfInBounds_toArray, List.set_cons_succ, List.set_cons_zero]
      iterate 1
        (refine' R6.WalkR.det (fun _ => rfl) (fun D ρ W hK hC => ?_) ?_
         rotate_left
         · obtain ⟨f0, f1⟩ := HCF.out W (hBr.out.trans (hC.mono hws))
           have HC := Lib.hid hC
           clear hC hK
           go_simp
           with_reducible exact ⟨rfl, HC.out⟩
         simp only [Act.put, List.setIfInBounds_toArray, List.set_cons_succ, List.set_cons_zero])
      refine R6.WalkR.nil (fun D ρ W hD hC => ?_)
      have H9 := Lib.hid (hBr.out.trans (hC.mono hws))
      clear hC hD
      go_wp2
      go_roundg gg
      case measure => omega
      case rel => exact ⟨k + 1, by omega, by go_num, H9.out⟩

end Go.Proofs.Ythjpgpelbagceaa
