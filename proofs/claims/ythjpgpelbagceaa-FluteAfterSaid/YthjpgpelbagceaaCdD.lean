/-
  A list of one span, repeated.
-/
import Derived.Test.YthjpgpelbagceaaCdC
set_option linter.all false
namespace Go.Proofs.Ythjpgpelbagceaa
open Go.RowKit
open R6 (done done_ne done_me upd_ne upd_me)

attribute [local go_sem] gives

theorem mul64_one (w : World) : Calls Try.prog 96 #[.int .u64 1, .int .u64 365] w fun e w' => e = .returned (.tuple #[.int .u64 0, .int .u64 365]) ∧ w = w' := by
  go_enter Try.func96, Try.ntmps96
  go_wp2
  go_ret2
  exact ⟨rfl, rfl⟩
theorem mul_one (w : World) : Calls Try.prog 92 #[.int .u64 1, .int .u64 365] w fun e w' => e = .returned (.tuple #[.int .u64 0, .int .u64 365]) ∧ w = w' := by
  go_enter Try.func92, Try.ntmps92
  go_wp2_with (go_at_call 96; refine (mul64_one _).mono ?_; rintro e w1 ⟨rfl, rfl⟩)
  go_ret2
  exact ⟨rfl, rfl⟩

theorem add_at (b o j : Nat) : (⟨b, o, none⟩ : Addr).add j = ⟨b, o + j, none⟩ := by
  unfold Addr.add
  split
  · subst_vars; rfl
  · rfl

/-- A region that writes one block, once. -/
structure OneW (W0 : World) (g : Nat) (X Y : Obj) (ks : Nat) (D : Nat → Bool) (σ : Nat → Value) (W : World) : Prop where
  gb : W0.grownBy W (some g)
  lt : g < W.heap.size
  no : D ks = false → W.heap[g]? = some X
  yes : D ks = true → W.heap[g]? = some Y
section
variable {W0 W W' : World} {g : Nat} {X Y : Obj} {ks : Nat} {D : Nat → Bool} {σ σ' : Nat → Value}
theorem OneW.move {k : Nat} (h : OneW W0 g X Y ks D σ W) (hk : (k == ks) = false) : OneW W0 g X Y ks (done D k) σ' W := by
  have e1 := done_ne (D := D) (k := k) (j := ks) (by simpa using fun e : ks = k => (by simpa using hk : k ≠ ks) e.symm)
  exact ⟨h.gb, h.lt, by rw [e1]; exact h.no, by rw [e1]; exact h.yes⟩
theorem OneW.next (h : OneW W0 g X Y ks D σ W) (hg : Grows W W') : OneW W0 g X Y ks D σ W' :=
  ⟨grown_trans h.gb (below_grown hg (Nat.le_refl _) _), Nat.lt_of_lt_of_le h.lt hg.size, fun e => (hg.block _ h.lt).trans (h.no e), fun e => (hg.block _ h.lt).trans (h.yes e)⟩
theorem OneW.put (h : OneW W0 g X Y ks D σ W) (hp : Put W W' g) (hM : W'.heap[g]? = some Y) : OneW W0 g X Y ks (done D ks) σ' W' :=
  ⟨grown_trans h.gb hp.grown, by rw [hp.size]; exact h.lt, fun e => (by rw [done_me] at e; cases e), fun _ => hM⟩
theorem OneW.start (hb : W0.heap[g]? = some X) (hD : D ks = false) : OneW W0 g X Y ks D σ W0.drew :=
  ⟨⟨rfl, rfl, rfl, Nat.le_refl _, fun _ _ _ => rfl⟩, lt_of_heap hb, fun _ => hb, fun e => by rw [hD] at e; cases e⟩
theorem OneW.other (h : OneW W0 g X Y ks D σ W) {k : Nat} (hk : k < W0.heap.size) (hne : k ≠ g) : W.heap[k]? = W0.heap[k]? := h.gb.block _ hk (by simpa using hne)
end

theorem rowSpan : RowTy Try.prog 25 2 := ⟨⟨_, Try.underlying25, rfl⟩, by kernel_rfl⟩
theorem infoSpan : (Try.prog.info? 25).map (fun i => (i.zero, i.size, i.bytes)) = some (some (.agg #[.int .i64 0, .int .i64 0]), 2, 16) := by kernel_rfl
theorem sizeSpan : (Try.prog.info? 25).map (·.size) = some 2 := by kernel_rfl

/-- Where the doubling is. -/
def repL (p : Int × Int) (m r : Nat) : List Value := pairs (List.replicate m p ++ List.replicate r (0, 0))
theorem repL_len (p : Int × Int) (m r : Nat) : (repL p m r).length = (m + r) * 2 := by simp [repL, pairs_len]
theorem pairs_rep (p : Int × Int) (m : Nat) : (pairs (List.replicate m p)).length = m * 2 := by simp [pairs_len]
theorem repL_splice (p : Int × Int) (m c r : Nat) : splice (repL p m (c + r)) (m * 2) (pairs (List.replicate c p)) = repL p (m + c) r := by
  unfold splice repL
  rw [List.replicate_append_replicate.symm, List.replicate_append_replicate.symm]
  simp only [pairs_app, pairs_rep, List.append_assoc]
  rw [List.take_left' (pairs_rep p m), ← List.drop_drop, List.drop_left' (pairs_rep p m), List.drop_left' (pairs_rep _ c)]
theorem repL_at (p : Int × Int) (m r c : Nat) (hc : c ≤ m) : ∀ j v, (pairs (List.replicate c p))[j]? = some v → (repL p m r).toArray[0 + j]? = some v := by
  intro j v hv
  have hj : j < (pairs (List.replicate c p)).length := (List.getElem?_eq_some_iff.1 hv).1
  rw [Nat.zero_add, List.getElem?_toArray]
  obtain ⟨d, rfl⟩ : ∃ d, m = c + d := ⟨m - c, by omega⟩
  rw [repL, List.replicate_append_replicate.symm, List.append_assoc, pairs_app, List.getElem?_append_left hj]
  exact hv

/-- What Repeat makes. -/
def RepPost (w : World) (p : Int × Int) (e : Ending) (w' : World) : Prop :=
  e = .returned (.slice (some ⟨w.heap.size, 0, none⟩) 365 365) ∧ w'.heap[w.heap.size]? = some (.cells (pairs (List.replicate 365 p)).toArray 25 (0, 0)) ∧ Below w.heap.size w w'

set_option maxRecDepth 100000 in
set_option maxHeartbeats 4000000 in
theorem repeat_any (lo hi : Int) (b : Nat) (c : Nat) (w : World) (hb : w.heap[b]? = some (.cells #[.int .i64 lo, .int .i64 hi] 25 (0, 0))) :
    Calls Try.prog 76 #[.slice (some ⟨b, 0, none⟩) 1 c, .int .i64 365] w (RepPost w (lo, hi)) := by
  have HB := Lib.hid hb
  have hlt := lt_of_heap hb
  obtain ⟨Z, hZ⟩ : ∃ Z, Z = repL (lo, hi) 0 (1 + 364) := ⟨_, rfl⟩
  have hmk : ∀ W, (Instr.makeSlice 41 (.int .i64 365) (.int .i64 365)).run Try.prog W = .ok (.slice (some ⟨W.heap.size, 0, none⟩) 365 365) (W.alloc (.cells Z.toArray 25)) := fun W => by
    rw [hZ]
    exact run_make_pairs (P := Try.prog) 41 25 infoSpan Try.underlying41 365 (by decide) W
  have hsp := repL_splice (lo, hi) 0 1 364
  rw [← hZ] at hsp
  simp only [Nat.zero_mul, Nat.zero_add] at hsp
  have hzl : Z.length = 730 := by rw [hZ, repL_len]
  obtain ⟨Y, hY⟩ : ∃ Y, Y = repL (lo, hi) 1 364 := ⟨_, rfl⟩
  rw [← hY] at hsp
  have HS := Lib.hid (And.intro hsp (And.intro hzl hY))
  have hg0 : Below w.heap.size w (w.alloc (.cells Z.toArray 25)) := (Below.refl w.heap.size w).alloc (Nat.le_refl _) _
  have HG0 := Lib.hid hg0
  clear hb hZ hsp hzl hY hg0
  go_enter Try.func76, Try.ntmps76
  go_wp2_with (first
    | (go_at_call 92; refine (mul_one _).mono ?_; rintro e w1 ⟨rfl, rfl⟩)
    | (show wpList _ _ _ (Oper.mk (some 33) _ _ _ _ _ :: _) _ _
       refine wpList_copy_blk rfl (.tmp 31) (.tmp 32) 41 41 rfl 25 Try.underlying41 2 1 sizeSpan w.heap.size 0 365 365 ⟨b, 0, none⟩ 1 c (by rfl) (by rfl) rfl (cs := pairs (List.replicate 1 (lo, hi))) (L := Z) rfl
         (fun j v hv => by rw [add_at]; exact (cell_of_row _ b (0 + j) _ _ _ ((Below.heap_alloc _ _ _ hlt).trans HB.out)).trans (at0 j v hv)) (alloc_at0 _ _) (by rw [HS.out.2.1]; simp [pairs_len]) (pairs_one _) ?_
       intro w2 hP2 hM2
       rw [HS.out.1] at hM2
       have hs2 := hP2.size
       simp only [World.size_alloc] at hs2
       have H2 := Lib.hid (And.intro hM2 (HG0.out.trans (hP2.below (B := w.heap.size) (Nat.le_refl _))))
       clear hP2 hM2))
  go_loopg [8] 364 (fun gg s8 wx => ∃ m : Nat, m + gg = 365 ∧ 1 ≤ m ∧ s8 = .int .i64 m ∧ Hid (wx.heap[w.heap.size]? = some (.cells (repL (lo, hi) m gg).toArray 25 (0, 0))) ∧ Hid (Below w.heap.size w wx))
  case atStart => exact ⟨1, rfl, Nat.le_refl _, rfl, by rw [← HS.out.2.2]; exact H2.out.1, H2.out.2⟩
  case round =>
    obtain ⟨m, hmg, hm1, rfl, hM, hBr⟩ := hrel
    cases gk with
    | zero =>
      obtain rfl : m = 365 := by omega
      go_wp2
      go_ret
      refine ⟨rfl, ?_, hBr.out⟩
      have := hM.out
      simpa only [repL, List.replicate_zero, List.append_nil] using this
    | succ gg =>
      have hml : (m : Int) < 365 := by omega
      obtain ⟨c2, r2, hcr, hc2, hcm, hmin⟩ : ∃ c2 r2 : Nat, gg + 1 = c2 + r2 ∧ 1 ≤ c2 ∧ c2 ≤ m ∧ c2 = Nat.min m (365 - m) := by
        refine ⟨Nat.min m (365 - m), gg + 1 - Nat.min m (365 - m), ?_, ?_, ?_, rfl⟩
        all_goals
          have h1 : Nat.min m (365 - m) ≤ m := Nat.min_le_left _ _
          have h2 : Nat.min m (365 - m) ≤ 365 - m := Nat.min_le_right _ _
          have h3 : Nat.min m (365 - m) = m ∨ Nat.min m (365 - m) = 365 - m := by
            rcases Nat.le_total m (365 - m) with h | h
            · exact .inl (Nat.min_eq_left h)
            · exact .inr (Nat.min_eq_right h)
          omega
      have hM0 := hM.out
      have hs0 := repL_splice (lo, hi) m c2 r2
      have hs1 := repL_at (lo, hi) m (c2 + r2) c2 hcm
      have hs2 := repL_len (lo, hi) m (c2 + r2)
      rw [hcr] at hM0
      generalize repL (lo, hi) m (c2 + r2) = L0 at hM0 hs0 hs1 hs2
      have hs3 := pairs_rep (lo, hi) c2
      have hs4 := pairs_one (List.replicate c2 (lo, hi))
      generalize pairs (List.replicate c2 (lo, hi)) = cs0 at hs0 hs1 hs3 hs4
      have hws := hBr.out.size
      have h0 : OneW wr w.heap.size (.cells L0.toArray 25 (0, 0)) (.cells (repL (lo, hi) (m + c2) r2).toArray 25 (0, 0)) 7 (fun _ => false) (fun _ => undef) wr.drew := OneW.start hM0 rfl
      obtain ⟨L1, hL1⟩ : ∃ L1, L1 = repL (lo, hi) (m + c2) r2 := ⟨_, rfl⟩
      rw [← hL1] at hs0 h0
      have HL1 := Lib.hid hL1
      clear hL1
      have H0 := Lib.hid h0
      have HL := Lib.hid (And.intro hs0 (And.intro hs1 (And.intro hs2 (And.intro hs3 (And.intro hs4 hmin)))))
      clear hM0 h0 hs0 hs1 hs2 hs3 hs4 hmin
      have hm0 : (0 : Int) ≤ m := by omega
      have hm2 : (m : Int) ≤ 365 := by omega
      have hm3 : ¬ 365 = m := by omega
      go_wp2
      refine R6.wp_walk (C := OneW wr w.heap.size (.cells L0.toArray 25 (0, 0)) (.cells L1.toArray 25 (0, 0)) 7) 48 (by kernel_rfl) (by kernel_rfl) rfl ⟨H0.out.gb, H0.out.lt, H0.out.no, H0.out.yes⟩ ?_
      simp only []
      repeat (first
        | (refine' R6.WalkR.det (fun _ => rfl) (fun D ρ W hK hC => ?_) ?_
           rotate_left
           · skip
             have HC := Lib.hid hC
             clear hC hK
             go_simp
             first
               | with_reducible exact ⟨rfl, HC.out.move rfl⟩
               | fail
           simp only [Act.put, List.setIfInBounds_toArray, List.set_cons_succ, List.set_cons_zero]))
      refine' R6.WalkR.det (fun _ => rfl) (fun D ρ W hK hC => ?_) ?_
      rotate_left
      · have h7 := hC.no hK.me
        have HC := Lib.hid hC
        clear hC hK
        refine gives_copy_blk (.tmp 41) (.tmp 44) 41 41 rfl 25 Try.underlying41 2 c2 sizeSpan w.heap.size (m * 2) (365 - m) (365 - m) ⟨w.heap.size, 0, none⟩ m 365 (by rfl) (by rfl) HL.out.2.2.2.2.2 HL.out.2.2.2.1
          (fun j v hv => by rw [add_at]; exact (cell_of_row W w.heap.size (0 + j) _ _ _ h7).trans (HL.out.2.1 j v hv)) h7 (by rw [HL.out.2.2.2.1, HL.out.2.2.1]; omega) HL.out.2.2.2.2.1 ?_
        intro W1 hP hM1
        rw [HL.out.1] at hM1
        exact ⟨rfl, HC.out.put hP hM1⟩
      simp only [Act.put, List.setIfInBounds_toArray, List.set_cons_succ, List.set_cons_zero]
      have hc2m : (c2 : Int) ≤ 365 := by omega
      have hc20 : (0 : Int) ≤ c2 := by omega
      have hwr : IntKind.i64.wrap ((m : Int) + c2) = (m : Int) + c2 := by rw [IntKind.wrap_i64]; omega
      simp only [goInt]
      repeat (first
        | (refine' R6.WalkR.det (fun _ => rfl) (fun D ρ W hK hC => ?_) ?_
           rotate_left
           · skip
             have HC := Lib.hid hC
             clear hC hK
             go_simp
             first
               | with_reducible exact ⟨rfl, HC.out.move rfl⟩
               | fail
           simp only [Act.put, List.setIfInBounds_toArray, List.set_cons_succ, List.set_cons_zero]))
      refine R6.WalkR.nil (fun D ρ W hD hC => ?_)
      have hM7 := hC.yes (hD 7 (by decide))
      have hB7 := hBr.out.grown hC.gb hws (fun k e => by cases e; exact Nat.le_refl _)
      have H7 := Lib.hid (And.intro hM7 hB7)
      clear hC hD hM7 hB7
      go_wp2
      go_roundg r2
      case measure => omega
      case rel => exact ⟨m + c2, by omega, by omega, by go_num, by rw [← HL1.out]; exact H7.out.1, H7.out.2⟩

end Go.Proofs.Ythjpgpelbagceaa
