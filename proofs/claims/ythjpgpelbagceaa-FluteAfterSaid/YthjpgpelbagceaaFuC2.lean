/-
  slices.Repeat of one span.
-/
import Derived.Test.YthjpgpelbagceaaFuC
import Derived.Test.YthjpgpelbagceaaCdD
set_option linter.all false
namespace Go.Proofs.Ythjpgpelbagceaa
open Go.RowKit
open R6 (done done_ne done_me upd_ne upd_me)

attribute [local go_sem] gives

/-- What Repeat makes. -/
def RepPostQ (w : World) (p : Int × Int) (q : Nat) (e : Ending) (w' : World) : Prop :=
  e = .returned (.slice (some ⟨w.heap.size, 0, none⟩) q q) ∧ w'.heap[w.heap.size]? = some (.cells (pairs (List.replicate q p)).toArray 25 (0, 0)) ∧ Below w.heap.size w w'

set_option maxRecDepth 100000 in
set_option maxHeartbeats 4000000 in
theorem repeat_some (lo hi : Int) (b : Nat) (c : Nat) (q : Nat) (hq1 : 1 ≤ q) (hq8 : q ≤ 8) (w : World) (hb : w.heap[b]? = some (.cells #[.int .i64 lo, .int .i64 hi] 25 (0, 0))) :
    Calls Try.prog 76 #[.slice (some ⟨b, 0, none⟩) 1 c, .int .i64 (q : Int)] w (RepPostQ w (lo, hi) q) := by
  obtain ⟨d, hd⟩ : ∃ d, 1 + d = q := ⟨q - 1, by omega⟩
  have HD := Lib.hid hd
  clear hd
  have hqz1 : (1 : Int) ≤ q := by omega
  have hqz8 : (q : Int) ≤ 8 := by omega
  have hqw : IntKind.u64.wrap (q : Int) = q := by rw [IntKind.wrap_u64]; omega
  have hqi : IntKind.i64.wrap (q : Int) = q := by rw [IntKind.wrap_i64]; omega
  have hq0 : decide ((q : Int) < 0) = false := decide_eq_false (by omega)
  have hqm : decide (9223372036854775807 < (q : Int)) = false := decide_eq_false (by omega)
  have HB := Lib.hid hb
  have hlt := lt_of_heap hb
  obtain ⟨Z, hZ⟩ : ∃ Z, Z = repL (lo, hi) 0 (1 + d) := ⟨_, rfl⟩
  have hmk : ∀ W, (Instr.makeSlice 41 (.int .i64 (q : Int)) (.int .i64 (q : Int))).run Try.prog W = .ok (.slice (some ⟨W.heap.size, 0, none⟩) q q) (W.alloc (.cells Z.toArray 25)) := fun W => by
    rw [hZ, repL, List.replicate_zero, List.nil_append, HD.out]
    exact run_make_pairs (P := Try.prog) 41 25 infoSpan Try.underlying41 q (by omega) W
  have hsp := repL_splice (lo, hi) 0 1 d
  rw [← hZ] at hsp
  simp only [Nat.zero_mul, Nat.zero_add] at hsp
  have hzl : Z.length = q * 2 := by rw [hZ, repL_len, Nat.zero_add, HD.out]
  obtain ⟨Y, hY⟩ : ∃ Y, Y = repL (lo, hi) 1 d := ⟨_, rfl⟩
  rw [← hY] at hsp
  have HS := Lib.hid (And.intro hsp (And.intro hzl hY))
  have hg0 : Below w.heap.size w (w.alloc (.cells Z.toArray 25)) := (Below.refl w.heap.size w).alloc (Nat.le_refl _) _
  have HG0 := Lib.hid hg0
  clear hb hZ hsp hzl hY hg0
  go_enter Try.func76, Try.ntmps76
  go_wp2_with (first
    | (go_at_call 92; refine (mul_small q hq8 _).mono ?_; rintro e w1 ⟨rfl, rfl⟩)
    | (show wpList _ _ _ (Oper.mk (some 33) _ _ _ _ _ :: _) _ _
       refine wpList_copy_blk rfl (.tmp 31) (.tmp 32) 41 41 rfl 25 Try.underlying41 2 1 sizeSpan w.heap.size 0 q q ⟨b, 0, none⟩ 1 c (by rfl) (by rfl) (Nat.min_eq_left hq1).symm (cs := pairs (List.replicate 1 (lo, hi))) (L := Z) rfl
         (fun j v hv => by rw [add_at]; exact (cell_of_row _ b (0 + j) _ _ _ ((Below.heap_alloc _ _ _ hlt).trans HB.out)).trans (at0 j v hv)) (alloc_at0 _ _) (by rw [HS.out.2.1]; simp [pairs_len]; omega) (pairs_one _) ?_
       intro w2 hP2 hM2
       rw [HS.out.1] at hM2
       have hs2 := hP2.size
       simp only [World.size_alloc] at hs2
       have H2 := Lib.hid (And.intro hM2 (HG0.out.trans (hP2.below (B := w.heap.size) (Nat.le_refl _))))
       clear hP2 hM2))
  go_loopg [8] d (fun gg s8 wx => ∃ m : Nat, m + gg = q ∧ 1 ≤ m ∧ s8 = .int .i64 m ∧ Hid (wx.heap[w.heap.size]? = some (.cells (repL (lo, hi) m gg).toArray 25 (0, 0))) ∧ Hid (Below w.heap.size w wx))
  case atStart => exact ⟨1, HD.out, Nat.le_refl _, rfl, by rw [← HS.out.2.2]; exact H2.out.1, H2.out.2⟩
  case round =>
    obtain ⟨m, hmg, hm1, rfl, hM, hBr⟩ := hrel
    cases gk with
    | zero =>
      obtain rfl : m = q := by omega
      go_wp2
      go_ret
      refine ⟨rfl, ?_, hBr.out⟩
      have := hM.out
      simpa only [repL, List.replicate_zero, List.append_nil] using this
    | succ gg =>
      have hml : (m : Int) < q := by omega
      obtain ⟨c2, r2, hcr, hc2, hcm, hmin⟩ : ∃ c2 r2 : Nat, gg + 1 = c2 + r2 ∧ 1 ≤ c2 ∧ c2 ≤ m ∧ c2 = Nat.min m (q - m) := by
        refine ⟨Nat.min m (q - m), gg + 1 - Nat.min m (q - m), ?_, ?_, ?_, rfl⟩
        all_goals
          have h1 : Nat.min m (q - m) ≤ m := Nat.min_le_left _ _
          have h2 : Nat.min m (q - m) ≤ q - m := Nat.min_le_right _ _
          have h3 : Nat.min m (q - m) = m ∨ Nat.min m (q - m) = q - m := by
            rcases Nat.le_total m (q - m) with h | h
            · exact .inl (Nat.min_eq_left h)
            · exact .inr (Nat.min_eq_right h)
          omega
      have hM0 := hM.out
      have hs0 := repL_splice (lo, hi) m c2 r2
      have hs1 := repL_at (lo, hi) m (c2 + r2) c2 hcm
      have hs2 := repL_len (lo, hi) m (c2 + r2)
      rw [hcr] at hM0
      generalize repL (lo, hi) m (c2 + r2) = L0 at hM0 hs0 hs1 hs2
      have hs3 := pairs_rep (lo, hi) c2
      have hs4 := pairs_one (List.replicate c2 (lo, hi))
      generalize pairs (List.replicate c2 (lo, hi)) = cs0 at hs0 hs1 hs3 hs4
      have hws := hBr.out.size
      have h0 : OneW wr w.heap.size (.cells L0.toArray 25 (0, 0)) (.cells (repL (lo, hi) (m + c2) r2).toArray 25 (0, 0)) 7 (fun _ => false) (fun _ => undef) wr.drew := OneW.start hM0 rfl
      obtain ⟨L1, hL1⟩ : ∃ L1, L1 = repL (lo, hi) (m + c2) r2 := ⟨_, rfl⟩
      rw [← hL1] at hs0 h0
      have HL1 := Lib.hid hL1
      clear hL1
      have H0 := Lib.hid h0
      have HL := Lib.hid (And.intro hs0 (And.intro hs1 (And.intro hs2 (And.intro hs3 (And.intro hs4 hmin)))))
      clear hM0 h0 hs0 hs1 hs2 hs3 hs4 hmin
      have hm0 : (0 : Int) ≤ m := by omega
      have hm2 : (m : Int) ≤ q := by omega
      have hm3 : ¬ q = m := by omega
      go_wp2
      refine R6.wp_walk (C := OneW wr w.heap.size (.cells L0.toArray 25 (0, 0)) (.cells L1.toArray 25 (0, 0)) 7) 48 (by kernel_rfl) (by kernel_rfl) rfl ⟨H0.out.gb, H0.out.lt, H0.out.no, H0.out.yes⟩ ?_
      simp only []
      repeat (first
        | (refine' R6.WalkR.det (fun _ => rfl) (fun D ρ W hK hC => ?_) ?_
           rotate_left
           · skip
             have HC := Lib.hid hC
             clear hC hK
             go_simp
             first
               | with_reducible exact ⟨rfl, HC.out.move rfl⟩
               | fail
           simp only [Act.put, List.setIfInBounds_toArray, List.set_cons_succ, List.set_cons_zero]))
      refine' R6.WalkR.det (fun _ => rfl) (fun D ρ W hK hC => ?_) ?_
      rotate_left
      · have h7 := hC.no hK.me
        have HC := Lib.hid hC
        clear hC hK
        refine gives_copy_blk (.tmp 41) (.tmp 44) 41 41 rfl 25 Try.underlying41 2 c2 sizeSpan w.heap.size (m * 2) (q - m) (q - m) ⟨w.heap.size, 0, none⟩ m q (by rfl) (by rfl) HL.out.2.2.2.2.2 HL.out.2.2.2.1
          (fun j v hv => by rw [add_at]; exact (cell_of_row W w.heap.size (0 + j) _ _ _ h7).trans (HL.out.2.1 j v hv)) h7 (by rw [HL.out.2.2.2.1, HL.out.2.2.1]; omega) HL.out.2.2.2.2.1 ?_
        intro W1 hP hM1
        rw [HL.out.1] at hM1
        exact ⟨rfl, HC.out.put hP hM1⟩
      simp only [Act.put, List.setIfInBounds_toArray, List.set_cons_succ, List.set_cons_zero]
      have hc2m : (c2 : Int) ≤ q := by omega
      have hc20 : (0 : Int) ≤ c2 := by omega
      have hwr : IntKind.i64.wrap ((m : Int) + c2) = (m : Int) + c2 := by rw [IntKind.wrap_i64]; omega
      simp only [goInt]
      repeat (first
        | (refine' R6.WalkR.det (fun _ => rfl) (fun D ρ W hK hC => ?_) ?_
           rotate_left
           · skip
             have HC := Lib.hid hC
             clear hC hK
             go_simp
             first
               | with_reducible exact ⟨rfl, HC.out.move rfl⟩
               | fail
           simp only [Act.put, List.setIfInBounds_toArray, List.set_cons_succ, List.set_cons_zero]))
      refine R6.WalkR.nil (fun D ρ W hD hC => ?_)
      have hM7 := hC.yes (hD 7 (by decide))
      have hB7 := hBr.out.grown hC.gb hws (fun k e => by cases e; exact Nat.le_refl _)
      have H7 := Lib.hid (And.intro hM7 hB7)
      clear hC hD hM7 hB7
      go_wp2
      go_roundg r2
      case measure => omega
      case rel => exact ⟨m + c2, by omega, by omega, by go_num, by rw [← HL1.out]; exact H7.out.1, H7.out.2⟩


set_option maxRecDepth 100000 in
/-- .. not once. -/
theorem repeat_none (lo hi : Int) (b : Nat) (c : Nat) (w : World) :
    Calls Try.prog 76 #[.slice (some ⟨b, 0, none⟩) 1 c, .int .i64 0] w (RepPostQ w (lo, hi) 0) := by
  have hmk : ∀ W, (Instr.makeSlice 41 (.int .i64 0) (.int .i64 0)).run Try.prog W = .ok (.slice (some ⟨W.heap.size, 0, none⟩) 0 0) (W.alloc (.cells #[] 25)) := fun W =>
    run_make_pairs (P := Try.prog) 41 25 infoSpan Try.underlying41 0 (by omega) W
  have HM := Lib.hid (mul_small 0 (by omega) w)
  go_enter Try.func76, Try.ntmps76
  go_wp2_with (first
    | (go_at_call 92; refine HM.out.mono ?_; rintro e w1 ⟨rfl, rfl⟩)
    | (show wpList _ _ _ (Oper.mk (some 33) _ _ _ _ _ :: _) _ _
       refine wpList_copy_blk rfl (.tmp 31) (.tmp 32) 41 41 rfl 25 Try.underlying41 2 0 sizeSpan w.heap.size 0 0 0 ⟨b, 0, none⟩ 1 c (by rfl) (by rfl) rfl (cs := []) (L := []) rfl (fun j v hv => by simp at hv) (alloc_at0 _ _) (by simp) (by simp) ?_
       intro w2 hP2 hM2
       have H2 := Lib.hid (And.intro hM2 ((grow1 w _).trans (hP2.below (B := w.heap.size) (Nat.le_refl _))))
       clear hP2 hM2))
  refine wp_loop_rounds 1 ?_
  rw [rounds_succ]
  go_wp2
  go_ret
  exact ⟨rfl, H2.out.1, H2.out.2⟩

theorem repeat_q (lo hi : Int) (b : Nat) (c : Nat) (q : Nat) (hq8 : q ≤ 8) (w : World) (hb : w.heap[b]? = some (.cells #[.int .i64 lo, .int .i64 hi] 25 (0, 0))) :
    Calls Try.prog 76 #[.slice (some ⟨b, 0, none⟩) 1 c, .int .i64 (q : Int)] w (RepPostQ w (lo, hi) q) := by
  cases q with
  | zero => exact repeat_none lo hi b c w
  | succ q => exact repeat_some lo hi b c (q + 1) (by omega) hq8 w hb

end Go.Proofs.Ythjpgpelbagceaa
