/-
  What a test says; strengths by stresses.
-/
import Derived.Test.YtboffligjgjgjaaGrN
namespace Go.Proofs.Ytboffligjgjgjaa
open Go.RowKit
open R6 (done done_ne done_me upd_ne upd_me)

attribute [local go_sem] gives

/-- Blocks that stay, and one that is written once. -/
structure StM (w0 : World) (b2 : Nat) (ty : TypeId) (X Y : List Value) (K : List (Nat × Obj)) (ks : Nat) (D : Nat → Bool) (σ : Nat → Value) (W : World) : Prop where
  bel : Below w0.heap.size w0 W
  hX : D ks = false → W.heap[b2]? = some (.cells X.toArray ty (0, 0))
  hY : D ks = true → W.heap[b2]? = some (.cells Y.toArray ty (0, 0))
  lt : b2 < W.heap.size
  box : keptK K W
def stK (ks k : Nat) : Bool := !(k == ks)
theorem keptK.put {W W' : World} {b : Nat} (hP : Put W W' b) : ∀ {K : List (Nat × Obj)}, (∀ e ∈ K, e.1 ≠ b) → keptK K W → keptK K W'
  | [], _, _ => trivial
  | _ :: _, hne, h => ⟨(hP.other _ (hne _ (List.mem_cons_self ..))).trans h.1, keptK.put hP (fun e he => hne e (List.mem_cons_of_mem _ he)) h.2⟩
section
variable {w0 W W' : World} {b2 : Nat} {ty : TypeId} {X Y : List Value} {K : List (Nat × Obj)} {ks : Nat} {D : Nat → Bool} {σ σ' : Nat → Value}
theorem StM.move {k : Nat} (h : StM w0 b2 ty X Y K ks D σ W) (hk : stK ks k = true) : StM w0 b2 ty X Y K ks (done D k) σ' W := by
  simp only [stK, Bool.not_eq_true', beq_eq_false_iff_ne, ne_eq] at hk
  have e2 := done_ne (D := D) (k := k) (j := ks) (by omega)
  exact ⟨h.bel, by rw [e2]; exact h.hX, by rw [e2]; exact h.hY, h.lt, h.box⟩
theorem StM.next (h : StM w0 b2 ty X Y K ks D σ W) (hg : Grows W W') : StM w0 b2 ty X Y K ks D σ W' :=
  ⟨h.bel.trans (hg.mono h.bel.size), fun e => (hg.block _ h.lt).trans (h.hX e), fun e => (hg.block _ h.lt).trans (h.hY e), Nat.lt_of_lt_of_le h.lt hg.size, h.box.next hg⟩
theorem StM.put (h : StM w0 b2 ty X Y K ks D σ W) (hP : Put W W' b2) (hM : W'.heap[b2]? = some (.cells Y.toArray ty (0, 0))) (hn : w0.heap.size ≤ b2) (hK : ∀ e ∈ K, e.1 ≠ b2) : StM w0 b2 ty X Y K ks (done D ks) σ' W' :=
  ⟨h.bel.trans (hP.below hn), (fun e => by rw [done_me] at e; cases e), fun _ => hM, by rw [hP.size]; exact h.lt, h.box.put hP hK⟩
end

theorem grAtLeast_any (n : Int) (w : World) : Calls Try.prog 74 #[.int .i64 n] w fun e w' => e = .returned (.agg (sp2 (n, 200000)).toArray) ∧ Below w.heap.size w w' := by
  go_enter Try.func74, Try.ntmps74
  go_wp2
  refine bodyPost_ret (v := .agg #[.int .i64 n, .int .i64 200000]) (by simp [results, Try.results74, go_sem]) rfl ⟨rfl, ?_⟩
  exact grow1 _ _
theorem grBelow_any (n : Int) (h1 : 1 ≤ n) (h2 : n ≤ 1000000000) (w : World) : Calls Try.prog 75 #[.int .i64 n] w fun e w' => e = .returned (.agg (sp2 (1, n - 1)).toArray) ∧ Below w.heap.size w w' := by
  obtain ⟨w1, hw1⟩ : ∃ w1, w.alloc (.cells #[.int .i64 0, .int .i64 0] 38) = w1 := ⟨_, rfl⟩
  have hb1 : Below w.heap.size w w1 := by rw [← hw1]; exact grow1 _ _
  have hm1 : w1.heap[w.heap.size]? = some (.cells [Value.int .i64 0, .int .i64 0].toArray 38 (0, 0)) := by rw [← hw1]; exact alloc_at0 _ _
  have H1 := Lib.hid (And.intro hb1 hm1)
  clear hb1 hm1
  go_enter Try.func75, Try.ntmps75
  go_wp2_with (first
    | (go_at_call 50
       refine (grFromOne_any _ _).mono ?_
       rintro e w2 ⟨rfl, hB2⟩
       have H2 := Lib.hid (And.intro (H1.out.1.trans (hB2.mono H1.out.1.size)) ((hB2.block _ (lt_of_heap H1.out.2)).trans H1.out.2))
       clear hB2)
    | (show wpList _ _ _ (Oper.mk none (Op.store _ (Operand.tmp 2) (Operand.tmp 5)) _ _ _ _ :: _) _ _
       refine wpList_store_blk 38 (.tmp 2) (.tmp 5) rfl rfl rfl rfl (cs := sp2 (1, n - 1)) rfl H2.out.2 (Nat.le_of_ble_eq_true rfl) (sp2_one _) rowSpan5 ?_
       intro w3 hP3 hM3
       rw [splice_whole (by rfl)] at hM3
       have H3 := Lib.hid (And.intro (H2.out.1.trans (hP3.below (Nat.le_refl _))) hM3)
       clear hP3 hM3))
  refine bodyPost_ret (v := .agg (sp2 (1, n - 1)).toArray) (results_cell1 Try.results75 rfl H3.out.2 rowSpan5) rfl ⟨rfl, H3.out.1⟩

/-- A test at work. -/
def fnT (t : Ts) : Value := if t.held = true then .func (.func 74) #[] #[] else .func (.func 75) #[] #[]
def trl (t : Ts) : List Value := tcl t ++ [fnT t]

theorem rowTrial : RowTy Try.prog 110 6 := ⟨⟨_, Try.underlying110, rfl⟩, by kernel_rfl⟩

set_option maxRecDepth 100000 in
theorem grTrialOf_any (t : Ts) (w : World) : Calls Try.prog 63 #[.agg (tcl t).toArray] w fun e w' => e = .returned (.agg (trl t).toArray) ∧ Below w.heap.size w w' := by
  unfold trl fnT tcl
  obtain ⟨i, p, s, f, h⟩ := t
  cases h
  · simp only [Bool.false_eq_true, if_false]
    go_enter Try.func63, Try.ntmps63
    go_wp2_with
      (show wpList _ _ _ (Oper.mk none (Op.store _ (Operand.tmp 2) (Operand.tmp 8)) _ _ _ _ :: _) _ _
       refine wpList_store_blk 110 (.tmp 2) (.tmp 8) rfl rfl rfl rfl (cs := [.int .i64 i, .int .i64 p, .int .i64 s, .int .i64 f, .bool false, .func (.func 75) #[] #[]]) rfl (alloc2_at1 w _ _) (Nat.le_of_ble_eq_true rfl) (by intro v hv; simp only [List.mem_cons, List.not_mem_nil, or_false] at hv; rcases hv with rfl | rfl | rfl | rfl | rfl | rfl <;> rfl) rowTrial ?_
       intro w3 hP3 hM3
       rw [splice_whole (by rfl)] at hM3
       have H3 := Lib.hid (And.intro ((grow2 w _ _).trans (hP3.below (by omega))) hM3)
       clear hP3 hM3)
    exact bodyPost_ret (results_cell1 Try.results63 rfl H3.out.2 rowTrial) rfl ⟨rfl, H3.out.1⟩
  · simp only [if_true]
    go_enter Try.func63, Try.ntmps63
    go_wp2_with
      (show wpList _ _ _ (Oper.mk none (Op.store _ (Operand.tmp 2) (Operand.tmp 6)) _ _ _ _ :: _) _ _
       refine wpList_store_blk 110 (.tmp 2) (.tmp 6) rfl rfl rfl rfl (cs := [.int .i64 i, .int .i64 p, .int .i64 s, .int .i64 f, .bool true, .func (.func 74) #[] #[]]) rfl (alloc2_at1 w _ _) (Nat.le_of_ble_eq_true rfl) (by intro v hv; simp only [List.mem_cons, List.not_mem_nil, or_false] at hv; rcases hv with rfl | rfl | rfl | rfl | rfl | rfl <;> rfl) rowTrial ?_
       intro w3 hP3 hM3
       rw [splice_whole (by rfl)] at hM3
       have H3 := Lib.hid (And.intro ((grow2 w _ _).trans (hP3.below (by omega))) hM3)
       clear hP3 hM3)
    exact bodyPost_ret (results_cell1 Try.results63 rfl H3.out.2 rowTrial) rfl ⟨rfl, H3.out.1⟩


set_option maxRecDepth 100000 in
set_option maxHeartbeats 4000000 in
theorem grSays_any (t : Ts) (a : Int) (a0 : 0 < a) (a1 : a ≤ 60000) (f0 : 1 ≤ t.force) (f1 : t.force ≤ 1000000) (w : World) :
    Calls Try.prog 64 #[.agg (trl t).toArray, .int .i64 a] w fun e w' => e = .returned (.agg (sp2 (says a t)).toArray) ∧ Below w.heap.size w w' := by
  have hq : (t.force * 1000 + a - 1).tdiv a = needN a t.force := by
    rw [Int.tdiv_eq_ediv_of_nonneg (by omega)]
    unfold needN
    rw [Int.mul_comm]
  have hn := needN_bnd a0 f0 f1
  have v1 : IntKind.i64.wrap (t.force * 1000) = t.force * 1000 := IntWalk.i64_in _ (by omega)
  have v2 : IntKind.i64.wrap (t.force * 1000 + a) = t.force * 1000 + a := IntWalk.i64_in _ (by omega)
  have v3 : IntKind.i64.wrap (t.force * 1000 + a - 1) = t.force * 1000 + a - 1 := IntWalk.i64_in _ (by omega)
  have v4 : IntKind.i64.wrap ((t.force * 1000 + a - 1).tdiv a) = needN a t.force := by rw [hq]; exact IntWalk.i64_in _ (by omega)
  have v5 : ¬ a = 0 := by omega
  have v6 : (a == 0) = false := by simp; omega
  have HV := Lib.hid (And.intro v1 (And.intro v2 (And.intro v3 (And.intro v4 (And.intro v5 v6)))))
  have hcall : ∀ W, Calls Try.prog (if t.held = true then 74 else 75) #[.int .i64 (needN a t.force)] W fun e w' => e = .returned (.agg (sp2 (says a t)).toArray) ∧ Below W.heap.size W w' := fun W => by
    unfold says
    cases t.held
    · exact grBelow_any _ hn.1 hn.2 W
    · exact grAtLeast_any _ W
  obtain ⟨w1, hw1⟩ : ∃ w1, (w.alloc (.cells (trl t).toArray 110)).alloc (.cells #[.int .i64 0, .int .i64 0] 38) = w1 := ⟨_, rfl⟩
  have hb1 : Below w.heap.size w w1 := by rw [← hw1]; exact grow2 _ _ _
  have hm1 : w1.heap[w.heap.size]? = some (.cells (trl t).toArray 110 (0, 0)) := by rw [← hw1]; exact alloc2_at0 _ _ _
  have hm2 : w1.heap[w.heap.size + 1]? = some (.cells [Value.int .i64 0, .int .i64 0].toArray 38 (0, 0)) := by rw [← hw1]; exact alloc2_at1 _ _ _
  have H1 := Lib.hid (And.intro hb1 (And.intro hm1 hm2))
  generalize says a t = z at hcall ⊢
  obtain ⟨z1, z2⟩ := z
  have hfn : (trl t).toArray[5]? = some (fnT t) := rfl
  have hfc : (trl t).toArray[3]? = some (.int .i64 t.force) := rfl
  have HT := Lib.hid (And.intro hfn hfc)
  unfold fnT at HT
  generalize needN a t.force = q at HV hcall
  clear hq hn v1 v2 v3 v4 v5 v6 hb1 hm1 hm2 hfn hfc
  cases hh : t.held
  all_goals
    rw [hh] at hcall HT
    simp only [Bool.false_eq_true, if_false, if_true] at hcall HT
    have HCL := Lib.hid hcall
    clear hcall
    go_enter Try.func64, Try.ntmps64
    go_wp2
    refine R6.wp_walk (C := StM w (w.heap.size + 1) 38 [.int .i64 0, .int .i64 0] (sp2 (z1, z2)) [(w.heap.size, .cells (trl t).toArray 110)] 12) 17 (by kernel_rfl) (by kernel_rfl) rfl
      ⟨H1.out.1.drew, fun _ => H1.out.2.2, (fun e => by cases e), lt_of_heap H1.out.2.2, ⟨H1.out.2.1, trivial⟩⟩ ?_
    simp only []
    repeat (first
      | (refine' R6.WalkR.det (fun _ => rfl) (fun D ρ W hK hC => ?_) ?_
         rotate_left
         · have f5 := (cell_of_row W w.heap.size 5 _ _ _ hC.box.1).trans HT.out.1
           have f3 := (cell_of_row W w.heap.size 3 _ _ _ hC.box.1).trans HT.out.2
           obtain ⟨v1, v2, v3, v4, v5, v6⟩ := HV.out
           have HC := Lib.hid hC
           clear hC hK
           go_simp
           first
             | with_reducible exact ⟨rfl, HC.out.move (by decide)⟩
             | (go_at_call 75; refine (HCL.out W).mono ?_; rintro e W1 ⟨rfl, hB1⟩; exact ⟨_, rfl, rfl, (HC.out.next hB1).move (by decide)⟩)
             | (go_at_call 74; refine (HCL.out W).mono ?_; rintro e W1 ⟨rfl, hB1⟩; exact ⟨_, rfl, rfl, (HC.out.next hB1).move (by decide)⟩)
         simp only [Act.put, List.setIfInBounds_toArray, List.set_cons_succ, List.set_cons_zero]))
    refine' R6.WalkR.det (c := undef) (fun _ => rfl) (fun D ρ W hK hC => ?_) ?_
    · refine gives_store_blk 38 (.tmp 4) (.tmp 16) (cs := sp2 (z1, z2)) rfl rfl rfl (hC.hX hK.me) (Nat.le_of_ble_eq_true rfl) (sp2_one _) rowSpan5 ?_
      intro W' hP hM'
      rw [splice_whole (by rfl)] at hM'
      exact ⟨rfl, hC.put hP hM' (by omega) (fun e he => by simp only [List.mem_singleton] at he; subst he; simp)⟩
    simp only [Act.put, List.setIfInBounds_toArray, List.set_cons_succ, List.set_cons_zero]
    refine R6.WalkR.nil (fun D ρ W hD hC => ?_)
    have HB := Lib.hid (And.intro (hC.hY (hD 12 (by omega))) hC.bel)
    clear hC hD
    go_wp2
    refine bodyPost_ret (v := .agg (sp2 (z1, z2)).toArray) (results_cell1 Try.results64 rfl HB.out.1 rowSpan5) rfl ⟨rfl, HB.out.2⟩

theorem bears_bnd (s a : Int) (s0 : 0 ≤ s) (s1 : s ≤ 200000) (a0 : 0 < a) (a1 : a ≤ 60000) : 0 ≤ s * a ∧ s * a ≤ 12000000000 := by
  constructor
  · exact Int.mul_nonneg s0 (by omega)
  · have h1 : s * a ≤ s * 60000 := Int.mul_le_mul_of_nonneg_left a1 s0
    omega

theorem grStr1_any (s a : Int) (s0 : 0 ≤ s) (s1 : s ≤ 200000) (a0 : 0 < a) (a1 : a ≤ 60000) (b : Nat) (w : World) (hb : w.heap[b]? = some (.cells #[.int .i64 a] 3 (0, 0))) :
    Calls Try.prog 44 #[.int .i64 s, .pointer (some ⟨b, 0, none⟩)] w fun e w' => e = .returned (.int .i64 (min (s * a / 1000) 1000000)) ∧ w = w' := by
  have hc : w.cell? ⟨b, 0, none⟩ = some (.int .i64 a) := cell_of_row w b 0 _ _ _ hb
  obtain ⟨h0, h1⟩ := bears_bnd s a s0 s1 a0 a1
  have hq : (s * a).tdiv 1000 = s * a / 1000 := Int.tdiv_eq_ediv_of_nonneg h0
  rw [← hq]
  have v1 : 0 ≤ (s * a).tdiv 1000 := by rw [hq]; omega
  have v2 : (s * a).tdiv 1000 ≤ 12000000 := by rw [hq]; omega
  clear hq hb
  go_enter Try.func44, Try.ntmps44
  go_wp2
  go_ret
  exact ⟨rfl, rfl⟩

set_option maxRecDepth 100000 in
set_option maxHeartbeats 4000000 in
theorem grStrengths_any (s : Int × Int) (a : Int) (s0 : 0 ≤ s.1 ∧ s.1 ≤ 200000) (s1 : 0 ≤ s.2 ∧ s.2 ≤ 200000) (a0 : 0 < a) (a1 : a ≤ 60000) (w : World) :
    Calls Try.prog 24 #[.agg (sp2 s).toArray, .int .i64 a] w fun e w' => e = .returned (.agg (sp2 (min (s.1 * a / 1000) 1000000, min (s.2 * a / 1000) 1000000)).toArray) ∧ Below w.heap.size w w' := by
  obtain ⟨x, y⟩ := s
  simp only at s0 s1 ⊢
  have hf := fun (b : Nat) (W : World) (hW : W.heap[b]? = some (.cells #[.int .i64 a] 3 (0, 0))) => grStr1_any x a s0.1 s0.2 a0 a1 b W hW
  have hg := fun (b : Nat) (W : World) (hW : W.heap[b]? = some (.cells #[.int .i64 a] 3 (0, 0))) => grStr1_any y a s1.1 s1.2 a0 a1 b W hW
  generalize min (x * a / 1000) 1000000 = p at hf ⊢
  generalize min (y * a / 1000) 1000000 = q at hg ⊢
  have HF := Lib.hid hf
  have HG := Lib.hid hg
  obtain ⟨w1, hw1⟩ : ∃ w1, ((w.alloc (.cells (sp2 (x, y)).toArray 38)).alloc (.cells #[.int .i64 a] 3)).alloc (.cells #[.int .i64 0, .int .i64 0] 38) = w1 := ⟨_, rfl⟩
  have hb1 : Below w.heap.size w w1 := by rw [← hw1]; exact (grow2 _ _ _).alloc (by simp; omega) _
  have hm1 : w1.heap[w.heap.size]? = some (.cells (sp2 (x, y)).toArray 38 (0, 0)) := by rw [← hw1]; exact alloc3_at0 _ _ _ _
  have hm2 : w1.heap[w.heap.size + 1]? = some (.cells #[.int .i64 a] 3 (0, 0)) := by rw [← hw1]; exact alloc3_at1 _ _ _ _
  have hm3 : w1.heap[w.heap.size + 1 + 1]? = some (.cells [Value.int .i64 0, .int .i64 0].toArray 38 (0, 0)) := by rw [← hw1]; exact alloc3_at2 _ _ _ _
  have H1 := Lib.hid (And.intro hb1 (And.intro hm1 (And.intro hm2 hm3)))
  clear hb1 hm1 hm2 hm3 s0 s1 a0 a1 hf hg
  go_enter Try.func24, Try.ntmps24
  go_wp2
  refine R6.wp_walk (C := StM w (w.heap.size + 1 + 1) 38 [.int .i64 0, .int .i64 0] (sp2 (p, q)) [(w.heap.size, .cells (sp2 (x, y)).toArray 38), (w.heap.size + 1, .cells #[.int .i64 a] 3)] 9) 16 (by kernel_rfl) (by kernel_rfl) rfl
    ⟨H1.out.1.drew, fun _ => H1.out.2.2.2, (fun e => by cases e), lt_of_heap H1.out.2.2.2, ⟨H1.out.2.1, H1.out.2.2.1, trivial⟩⟩ ?_
  simp only []
  repeat (first
    | (refine' R6.WalkR.det (fun _ => rfl) (fun D ρ W hK hC => ?_) ?_
       rotate_left
       · have f0 : W.cell? ⟨w.heap.size, 0, none⟩ = some (.int .i64 x) := cell_of_row W _ 0 _ _ _ hC.box.1
         have f1 : W.cell? ⟨w.heap.size, 1, none⟩ = some (.int .i64 y) := cell_of_row W _ 1 _ _ _ hC.box.1
         have HC := Lib.hid hC
         clear hC hK
         go_simp
         first
           | with_reducible exact ⟨rfl, HC.out.move (by decide)⟩
           | (go_at_call 44; (with_reducible show Calls _ _ #[.int _ x, _] _ _); refine (HF.out _ W HC.out.box.2.1).mono ?_; rintro e W1 ⟨rfl, rfl⟩; exact ⟨_, rfl, rfl, HC.out.move (by decide)⟩)
           | (go_at_call 44; (with_reducible show Calls _ _ #[.int _ y, _] _ _); refine (HG.out _ W HC.out.box.2.1).mono ?_; rintro e W1 ⟨rfl, rfl⟩; exact ⟨_, rfl, rfl, HC.out.move (by decide)⟩)
       simp only [Act.put, List.setIfInBounds_toArray, List.set_cons_succ, List.set_cons_zero]))
  refine' R6.WalkR.det (c := undef) (fun _ => rfl) (fun D ρ W hK hC => ?_) ?_
  · refine gives_store_blk 38 (.tmp 4) (.tmp 15) (cs := sp2 (p, q)) rfl rfl rfl (hC.hX hK.me) (Nat.le_of_ble_eq_true rfl) (sp2_one _) rowSpan5 ?_
    intro W' hP hM'
    rw [splice_whole (by rfl)] at hM'
    exact ⟨rfl, hC.put hP hM' (by omega) (fun e he => by simp only [List.mem_cons, List.not_mem_nil, or_false] at he; rcases he with rfl | rfl <;> (dsimp only; omega))⟩
  simp only [Act.put, List.setIfInBounds_toArray, List.set_cons_succ, List.set_cons_zero]
  refine R6.WalkR.nil (fun D ρ W hD hC => ?_)
  have HB := Lib.hid (And.intro (hC.hY (hD 9 (by omega))) hC.bel)
  clear hC hD
  go_wp2
  refine bodyPost_ret (v := .agg (sp2 (p, q)).toArray) (results_cell1 Try.results24 rfl HB.out.1 rowSpan5) rfl ⟨rfl, HB.out.2⟩

end Go.Proofs.Ytboffligjgjgjaa
