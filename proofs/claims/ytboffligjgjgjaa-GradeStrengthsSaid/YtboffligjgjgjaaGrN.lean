/-
  Stresses: what two have in common; wider.
-/
import Derived.Test.YtboffligjgjgjaaGrL
namespace Go.Proofs.Ytboffligjgjgjaa
open Go.RowKit
open R6 (done done_ne done_me upd_ne upd_me)

attribute [local go_sem] gives

section
variable {P : Program} {ops : Array Oper} {rest : List Oper} {op : Oper} {a : Act} {w : World} {Q : Exit → Act → World → Prop}
theorem wpList_store1 (ty : TypeId) (x y : Operand) (hgd : op.guard = none) (ho : op.op = .store ty x y) (hd : op.dst = none) {b o : Nat} (hx : a.eval x = .pointer (some ⟨b, o, none⟩)) {z : Int} (hy : a.eval y = .int .i64 z)
    {L : List Value} {t : TypeId} (hb : w.heap[b]? = some (.cells L.toArray t (0, 0))) (hfit : o < L.length) (hty : (P.info? ty).map (·.size) = some 1)
    (h : ∀ w', Put w w' b → w'.heap[b]? = some (.cells (L.set o (.int .i64 z)).toArray t (0, 0)) → wpList P ops Q rest a w') : wpList P ops Q (op :: rest) a w := by
  refine wpList_plain hgd fun K hK => ?_
  have hrun := run_store_one (P := P) (v := .int .i64 z) hb hfit rfl rfl hty
  unfold Oper.wp execOp
  simp only [ho, hx, hy, Sem.run_bind, Sem.run_pure, hrun, Result.andThen_ok]
  refine hK _ _ ?_
  rw [hd]
  refine h _ (put_setCells b [.int .i64 z] o w) ?_
  have := heap_setCell_same w b o _ _ (.int .i64 z) hb
  rwa [List.setIfInBounds_toArray] at this
end

theorem flat1 (z : Int × Int) : [z].flatMap sp2 = sp2 z := by simp

set_option maxRecDepth 100000 in
set_option maxHeartbeats 8000000 in
theorem grBoth_any (s o : Nat → Int × Int) (w : World) :
    Calls Try.prog 41 #[.agg (st6 s).toArray, .agg (st6 o).toArray] w fun e w' => e = .returned (.agg (st6 fun k => cut1 (s k) (o k)).toArray) ∧ Below w.heap.size w w' := by
  obtain ⟨nf, hnf⟩ : ∃ nf : Nat → Int × Int, nf = fun k => cut1 (s k) (o k) := ⟨_, rfl⟩
  rw [← hnf]
  obtain ⟨w1, hw1⟩ : ∃ w1, ((w.alloc (.cells (st6 s).toArray 70)).alloc (.cells (st6 o).toArray 70)).alloc (.cells #[.int .i64 0, .int .i64 0, .int .i64 0, .int .i64 0, .int .i64 0, .int .i64 0] 70) = w1 := ⟨_, rfl⟩
  have hb1 : Below w.heap.size w w1 := by rw [← hw1]; exact (grow2 _ _ _).alloc (by simp; omega) _
  have hm1 : w1.heap[w.heap.size]? = some (.cells (st6 s).toArray 70 (0, 0)) := by rw [← hw1]; exact alloc3_at0 _ _ _ _
  have hm2 : w1.heap[w.heap.size + 1]? = some (.cells (st6 o).toArray 70 (0, 0)) := by rw [← hw1]; exact alloc3_at1 _ _ _ _
  have hm3 : w1.heap[w.heap.size + 1 + 1]? = some (.cells [Value.int .i64 0, .int .i64 0, .int .i64 0, .int .i64 0, .int .i64 0, .int .i64 0].toArray 70 (0, 0)) := by rw [← hw1]; exact alloc3_at2 _ _ _ _
  rw [← mixF_zero s nf] at hm1
  have H1 := Lib.hid (And.intro hm1 (And.intro hm2 (And.intro hm3 hb1)))
  have HN := Lib.hid hnf
  clear hb1 hm1 hm2 hm3 hnf
  go_enter Try.func41, Try.ntmps41
  go_wp2
  go_loopg [6] 3 (fun gn s6 wx => ∃ k : Nat, k + gn = 3 ∧ s6 = .int .i64 k ∧ Hid (wx.heap[w.heap.size]? = some (.cells (st6 (mixF s nf k)).toArray 70 (0, 0)) ∧ wx.heap[w.heap.size + 1]? = some (.cells (st6 o).toArray 70 (0, 0)) ∧ wx.heap[w.heap.size + 1 + 1]? = some (.cells [Value.int .i64 0, .int .i64 0, .int .i64 0, .int .i64 0, .int .i64 0, .int .i64 0].toArray 70 (0, 0)) ∧ Below w.heap.size w wx))
  case atStart => exact ⟨0, by omega, rfl, H1.out⟩
  case round =>
    obtain ⟨k, hkg, rfl, hM⟩ := hrel
    cases gk with
    | zero =>
      have hM' := hM.out
      obtain rfl : k = 3 := by omega
      rw [mixF_all] at hM'
      have HM := Lib.hid hM'
      clear hM'
      go_wp2_with (first
        | (show wpList _ _ _ (Oper.mk (some 20) _ _ _ _ _ :: _) _ _
           refine wpList_load_blk 70 (.tmp 2) rfl rfl rfl HM.out.1 (st6 nf) at0 rowStress ?_)
        | (show wpList _ _ _ (Oper.mk none (Op.store _ (Operand.tmp 4) (Operand.tmp 20)) _ _ _ _ :: _) _ _
           refine wpList_store_blk 70 (.tmp 4) (.tmp 20) rfl rfl rfl rfl rfl HM.out.2.2.1 (Nat.le_of_ble_eq_true rfl) (st6_one _) rowStress ?_
           intro w3 hP3 hM3
           rw [splice_whole (by rfl)] at hM3
           have H3 := Lib.hid (And.intro (HM.out.2.2.2.trans (hP3.below (by omega))) hM3)
           clear hP3 hM3))
      refine bodyPost_ret (v := .agg (st6 nf).toArray) (results_cell1 Try.results41 rfl H3.out.2 rowStress) rfl ⟨rfl, H3.out.1⟩
    | succ gn =>
      have hk : k < 3 := by omega
      have hkz : (k : Int) < 3 := by omega
      have hk0 : (0 : Int) ≤ k := by omega
      have hmix := mixF_at s nf k
      have hnk : nf k = cut1 (s k) (o k) := by rw [HN.out]
      have hset := mixF_set s nf k
      have hats := st6_at (mixF s nf k) hk
      have hato := st6_at o hk
      rw [hmix] at hats
      have hsp := st6_set (mixF s nf k) hk (nf k)
      rw [hset] at hsp
      generalize s k = sk at hats hnk
      generalize o k = ok at hato hnk
      obtain ⟨o1, o2⟩ := ok
      obtain ⟨s1, s2⟩ := sk
      rw [hnk] at hsp
      obtain ⟨X, hX⟩ : ∃ X, X = st6 (mixF s nf k) := ⟨_, rfl⟩
      have hXl : X.length = 6 := by rw [hX]; rfl
      obtain ⟨Y, hY⟩ : ∃ Y, Y = st6 (mixF s nf (k + 1)) := ⟨_, rfl⟩
      have hM' := hM.out
      rw [← hX] at hats hM' hsp
      rw [← hY] at hsp
      have HF := Lib.hid (And.intro hats (And.intro hato (And.intro hsp (And.intro hXl hY))))
      have HM := Lib.hid hM'
      clear hats hato hsp hXl hX hY hM' hmix hset hnk hM
      go_wp2
      refine R6.wp_walk (C := BothC w w.heap.size 0 X Y [(w.heap.size + 1, .cells (st6 o).toArray 70), (w.heap.size + 1 + 1, .cells [Value.int .i64 0, .int .i64 0, .int .i64 0, .int .i64 0, .int .i64 0, .int .i64 0].toArray 70)] 7 10 16 (o1, o2)) 21 (by kernel_rfl) (by kernel_rfl) rfl
        ⟨HM.out.2.2.2.drew, fun _ => HM.out.1, (fun e => by cases e), lt_of_heap HM.out.1, ⟨HM.out.2.1, HM.out.2.2.1, trivial⟩, (fun e => by cases e)⟩ ?_
      simp only []
      repeat (first
        | (refine' R6.WalkR.det (fun _ => rfl) (fun D ρ W hK hC => ?_) ?_
           rotate_left
           · skip
             have HC := Lib.hid hC
             clear hC hK
             go_simp
             first
               | with_reducible exact ⟨rfl, HC.out.move (by decide)⟩
               | fail
           simp only [Act.put, List.setIfInBounds_toArray, List.set_cons_succ, List.set_cons_zero]))
      refine' R6.WalkR.det (fun _ => rfl) (fun D ρ W hK hC => ?_) ?_
      rotate_left
      · exact gives_load_blk 38 (.tmp 11) rfl rfl (hC.hX (hK.post 10 (by decide +kernel))) [.int .i64 s1, .int .i64 s2] HF.out.1 rowSpan5 ⟨rfl, hC.move (by decide)⟩
      simp only [Act.put, List.setIfInBounds_toArray, List.set_cons_succ, List.set_cons_zero]
      repeat (first
        | (refine' R6.WalkR.det (fun _ => rfl) (fun D ρ W hK hC => ?_) ?_
           rotate_left
           · skip
             have HC := Lib.hid hC
             clear hC hK
             go_simp
             first
               | with_reducible exact ⟨rfl, HC.out.move (by decide)⟩
               | fail
           simp only [Act.put, List.setIfInBounds_toArray, List.set_cons_succ, List.set_cons_zero]))
      refine' R6.WalkR.det (fun _ => rfl) (fun D ρ W hK hC => ?_) ?_
      rotate_left
      · exact gives_load_blk 38 (.tmp 14) rfl rfl hC.box.1 [.int .i64 o1, .int .i64 o2] HF.out.2.1 rowSpan5 ⟨rfl, hC.move (by decide)⟩
      simp only [Act.put, List.setIfInBounds_toArray, List.set_cons_succ, List.set_cons_zero]
      refine' R6.WalkR.nd (fun _ => rfl) rfl (fun D ρ W hK hC => ?_) ?_
      · have HC := Lib.hid hC
        clear hC hK
        go_simp
        exact HC.out.made rfl rfl
      simp only [Act.put, List.setIfInBounds_toArray, List.set_cons_succ, List.set_cons_zero]
      refine' R6.WalkR.det (fun _ => rfl) (fun D ρ W hK hC => ?_) ?_
      rotate_left
      · obtain ⟨b, hne, hv, hm⟩ := hC.new (hK.pre 7 (needs_edgeM (by decide +kernel)))
        have hvv := vals_new hm (lt_of_heap hm)
        rw [← flat1] at hvv
        have HC := Lib.hid hC
        have HV := Lib.hid hvv
        clear hC hK hm hvv hne
        go_simp
        go_at_call 65
        refine (grCut_any (s1, s2) (some ⟨b, 0, none⟩) 1 [(o1, o2)] _ W (Nat.le_refl _) HV.out (by simp)).mono ?_
        rintro e W1 ⟨rfl, hB1⟩
        exact ⟨_, rfl, rfl, (HC.out.next hB1).move (by decide)⟩
      simp only [Act.put, List.setIfInBounds_toArray, List.set_cons_succ, List.set_cons_zero]
      repeat (first
        | (refine' R6.WalkR.det (fun _ => rfl) (fun D ρ W hK hC => ?_) ?_
           rotate_left
           · skip
             have HC := Lib.hid hC
             clear hC hK
             go_simp
             first
               | with_reducible exact ⟨rfl, HC.out.move (by decide)⟩
               | fail
           simp only [Act.put, List.setIfInBounds_toArray, List.set_cons_succ, List.set_cons_zero]))
      refine' R6.WalkR.det (c := undef) (fun _ => rfl) (fun D ρ W hK hC => ?_) ?_
      · refine gives_store_blk 38 (.tmp 18) (.tmp 17) (cs := sp2 (cut1 (s1, s2) (o1, o2))) rfl rfl rfl (hC.hX hK.me) (by rw [HF.out.2.2.2.1]; show k * 2 + 2 ≤ 6; omega) (sp2_one _) rowSpan5 ?_
        intro W' hP hM'
        rw [HF.out.2.2.1] at hM'
        have hg1 := hC.box.1
        have hg2 := hC.box.2.1
        refine ⟨rfl, ⟨hC.bel.trans (hP.below (Nat.le_refl _)), (fun e => by rw [done_me] at e; cases e), fun _ => hM', by rw [hP.size]; exact hC.lt, ⟨(hP.other _ (by omega)).trans hg1, (hP.other _ (by omega)).trans hg2, trivial⟩, fun e => ?_⟩⟩
        rw [done_ne (by decide)] at e
        obtain ⟨b, h0, h1, h2⟩ := hC.new e
        exact ⟨b, h0, by rw [upd_none]; exact h1, (hP.other b h0).trans h2⟩
      simp only [Act.put, List.setIfInBounds_toArray, List.set_cons_succ, List.set_cons_zero]
      refine R6.WalkR.nil (fun D ρ W hD hC => ?_)
      have h1 := hC.hY (hD 10 (by omega))
      rw [HF.out.2.2.2.2] at h1
      have HB := Lib.hid (And.intro h1 (And.intro hC.box.1 (And.intro hC.box.2.1 hC.bel)))
      clear hC hD h1
      go_wp2
      go_roundg gn
      case measure => omega
      case rel => exact ⟨k + 1, by omega, by go_num, HB.out⟩

/-- Numbers that a stress may be. -/
def smallF (f : Nat → Int × Int) : Prop := ∀ k, k < 3 → (-2000000000 ≤ (f k).1 ∧ (f k).1 ≤ 2000000000) ∧ (-2000000000 ≤ (f k).2 ∧ (f k).2 ≤ 2000000000)

theorem st6_at0 (f : Nat → Int × Int) {k : Nat} (hk : k < 3) : (st6 f).toArray[k * 2]? = some (.int .i64 (f k).1) := by simpa using st6_at f hk 0 _ rfl
theorem st6_at1 (f : Nat → Int × Int) {k : Nat} (hk : k < 3) : (st6 f).toArray[k * 2 + 1]? = some (.int .i64 (f k).2) := st6_at f hk 1 _ rfl
theorem st6_set0 (f : Nat → Int × Int) {k : Nat} (hk : k < 3) (x : Int) : (st6 f).set (k * 2) (.int .i64 x) = st6 (updF f k (x, (f k).2)) := by
  have h3 : k = 0 ∨ k = 1 ∨ k = 2 := by omega
  rcases h3 with rfl | rfl | rfl <;> rfl
theorem st6_set1 (f : Nat → Int × Int) {k : Nat} (hk : k < 3) (x : Int) : (st6 f).set (k * 2 + 1) (.int .i64 x) = st6 (updF f k ((f k).1, x)) := by
  have h3 : k = 0 ∨ k = 1 ∨ k = 2 := by omega
  rcases h3 with rfl | rfl | rfl <;> rfl

set_option maxRecDepth 100000 in
set_option maxHeartbeats 8000000 in
theorem grWider_any (s : Nat → Int × Int) (v : Int) (hs : smallF s) (hv : 0 ≤ v ∧ v ≤ 200000) (w : World) :
    Calls Try.prog 42 #[.agg (st6 s).toArray, .int .i64 v] w fun e w' => e = .returned (.agg (st6 fun k => wid1 v (s k)).toArray) ∧ Below w.heap.size w w' := by
  obtain ⟨nf, hnf⟩ : ∃ nf : Nat → Int × Int, nf = fun k => wid1 v (s k) := ⟨_, rfl⟩
  rw [← hnf]
  obtain ⟨v0, v1⟩ := hv
  obtain ⟨w1, hw1⟩ : ∃ w1, (w.alloc (.cells (st6 s).toArray 70)).alloc (.cells #[.int .i64 0, .int .i64 0, .int .i64 0, .int .i64 0, .int .i64 0, .int .i64 0] 70) = w1 := ⟨_, rfl⟩
  have hb1 : Below w.heap.size w w1 := by rw [← hw1]; exact grow2 _ _ _
  have hm1 : w1.heap[w.heap.size]? = some (.cells (st6 s).toArray 70 (0, 0)) := by rw [← hw1]; exact alloc2_at0 _ _ _
  have hm3 : w1.heap[w.heap.size + 1]? = some (.cells [Value.int .i64 0, .int .i64 0, .int .i64 0, .int .i64 0, .int .i64 0, .int .i64 0].toArray 70 (0, 0)) := by rw [← hw1]; exact alloc2_at1 _ _ _
  rw [← mixF_zero s nf] at hm1
  have H1 := Lib.hid (And.intro hm1 (And.intro hm3 hb1))
  have HN := Lib.hid (And.intro hnf hs)
  clear hb1 hm1 hm3 hnf hs
  go_enter Try.func42, Try.ntmps42
  go_wp2
  go_loopg [6] 3 (fun gn s6 wx => ∃ k : Nat, k + gn = 3 ∧ s6 = .int .i64 k ∧ Hid (wx.heap[w.heap.size]? = some (.cells (st6 (mixF s nf k)).toArray 70 (0, 0)) ∧ wx.heap[w.heap.size + 1]? = some (.cells [Value.int .i64 0, .int .i64 0, .int .i64 0, .int .i64 0, .int .i64 0, .int .i64 0].toArray 70 (0, 0)) ∧ Below w.heap.size w wx))
  case atStart => exact ⟨0, by omega, rfl, H1.out⟩
  case round =>
    obtain ⟨k, hkg, rfl, hM⟩ := hrel
    cases gk with
    | zero =>
      have hM' := hM.out
      obtain rfl : k = 3 := by omega
      rw [mixF_all] at hM'
      have HM := Lib.hid hM'
      clear hM'
      go_wp2_with (first
        | (show wpList _ _ _ (Oper.mk (some 26) _ _ _ _ _ :: _) _ _
           refine wpList_load_blk 70 (.tmp 2) rfl rfl rfl HM.out.1 (st6 nf) at0 rowStress ?_)
        | (show wpList _ _ _ (Oper.mk none (Op.store _ (Operand.tmp 4) (Operand.tmp 26)) _ _ _ _ :: _) _ _
           refine wpList_store_blk 70 (.tmp 4) (.tmp 26) rfl rfl rfl rfl rfl HM.out.2.1 (Nat.le_of_ble_eq_true rfl) (st6_one _) rowStress ?_
           intro w3 hP3 hM3
           rw [splice_whole (by rfl)] at hM3
           have H3 := Lib.hid (And.intro (HM.out.2.2.trans (hP3.below (by omega))) hM3)
           clear hP3 hM3))
      refine bodyPost_ret (v := .agg (st6 nf).toArray) (results_cell1 Try.results42 rfl H3.out.2 rowStress) rfl ⟨rfl, H3.out.1⟩
    | succ gn =>
      have hk : k < 3 := by omega
      have hkz : (k : Int) < 3 := by omega
      have hk0 : (0 : Int) ≤ k := by omega
      have hmix := mixF_at s nf k
      have hnk : nf k = ((s k).1 - v, (s k).2 + v) := by rw [HN.out.1]; rfl
      obtain ⟨⟨b0, b1⟩, ⟨b2, b3⟩⟩ := HN.out.2 k hk
      have hc0 := (cell_of_row wr w.heap.size (k * 2) _ _ _ hM.out.1).trans (st6_at0 _ hk)
      rw [hmix] at hc0
      have e1 := st6_set0 (mixF s nf k) hk ((s k).1 - v)
      have e2 := st6_set1 (updF (mixF s nf k) k ((s k).1 - v, (s k).2)) hk ((s k).2 + v)
      have e3 : st6 (updF (updF (mixF s nf k) k ((s k).1 - v, (s k).2)) k ((updF (mixF s nf k) k ((s k).1 - v, (s k).2) k).1, (s k).2 + v)) = st6 (mixF s nf (k + 1)) := by
        rw [← mixF_set s nf k]
        refine st6_congr fun i _ => ?_
        unfold updF
        by_cases hi : i = k
        · subst hi; simp [hnk]
        · simp [hi]
      have ea := st6_at1 (updF (mixF s nf k) k ((s k).1 - v, (s k).2)) hk
      rw [show (updF (mixF s nf k) k ((s k).1 - v, (s k).2) k) = ((s k).1 - v, (s k).2) by simp [updF]] at ea e2 e3
      rw [hmix] at e1
      rw [e3] at e2
      generalize s k = sk at *
      obtain ⟨s1, s2⟩ := sk
      simp only at hc0 e1 e2 ea b0 b1 b2 b3
      have HE := Lib.hid (And.intro e1 (And.intro e2 ea))
      clear e1 e2 e3 ea hmix hnk
      go_wp2_with (first
        | (show wpList _ _ _ (Oper.mk none (Op.store _ (Operand.tmp 16) (Operand.tmp 14)) _ _ _ _ :: _) _ _
           refine wpList_store1 3 (.tmp 16) (.tmp 14) rfl rfl rfl rfl rfl hM.out.1 (by rw [st6_len]; omega) info3s ?_
           intro w4 hP4 hM4
           rw [HE.out.1] at hM4
           have hc1 := (cell_of_row w4 w.heap.size (k * 2 + 1) _ _ _ hM4).trans HE.out.2.2
           have H4 := Lib.hid (And.intro hM4 (And.intro ((hP4.other _ (by omega)).trans hM.out.2.1) (hM.out.2.2.trans (hP4.below (Nat.le_refl _)))))
           clear hP4 hM4 hc0)
        | (show wpList _ _ _ (Oper.mk none (Op.store _ (Operand.tmp 24) (Operand.tmp 22)) _ _ _ _ :: _) _ _
           refine wpList_store1 3 (.tmp 24) (.tmp 22) rfl rfl rfl rfl rfl H4.out.1 (by rw [st6_len]; omega) info3s ?_
           intro w5 hP5 hM5
           rw [HE.out.2.1] at hM5
           have H5 := Lib.hid (And.intro hM5 (And.intro ((hP5.other _ (by omega)).trans H4.out.2.1) (H4.out.2.2.trans (hP5.below (Nat.le_refl _)))))
           clear hP5 hM5))
      go_roundg gn
      case measure => omega
      case rel => exact ⟨k + 1, by omega, by go_num, H5.out⟩

end Go.Proofs.Ytboffligjgjgjaa
