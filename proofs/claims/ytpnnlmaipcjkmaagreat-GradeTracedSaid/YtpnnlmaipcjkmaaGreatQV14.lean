/-
  What its own tests leave a pole (the program's): the walk.
-/
import Derived.Test.YtpnnlmaipcjkmaaGreatQV7
set_option linter.all false
namespace Go.Proofs.YtpnnlmaipcjkmaaGreat
open Go.RowKit
open R6 (done done_ne done_me upd_ne upd_me)

attribute [local go_sem] gives

section
variable {P : Program} {ops : Array Oper} {rest : List Oper} {op : Oper} {a : Act} {w : World} {Q : Exit → Act → World → Prop}
theorem wpList_store1 (ty : TypeId) (x y : Operand) (hgd : op.guard = none) (ho : op.op = .store ty x y) (hd : op.dst = none) {b o : Nat} (hx : a.eval x = .pointer (some ⟨b, o, none⟩)) {z : Int} (hy : a.eval y = .int .i64 z)
    {L : List Value} {t : TypeId} (hb : w.heap[b]? = some (.cells L.toArray t (0, 0))) (hfit : o < L.length) (hty : (P.info? ty).map (·.size) = some 1)
    (h : ∀ w', Put w w' b → w'.heap[b]? = some (.cells (L.set o (.int .i64 z)).toArray t (0, 0)) → wpList P ops Q rest a w') : wpList P ops Q (op :: rest) a w := by
  refine wpList_plain hgd fun K hK => ?_
  have hrun := run_store_one (P := P) (v := .int .i64 z) hb hfit rfl rfl hty
  unfold Oper.wp execOp
  simp only [ho, hx, hy, Sem.run_bind, Sem.run_pure, hrun, Result.andThen_ok]
  refine hK _ _ ?_
  rw [hd]
  refine h _ (put_setCells b [.int .i64 z] o w) ?_
  have := heap_setCell_same w b o _ _ (.int .i64 z) hb
  rwa [List.setIfInBounds_toArray] at this
end

theorem flat1 (z : Int × Int) : [z].flatMap sp2 = sp2 z := by simp

set_option maxRecDepth 100000 in
set_option maxHeartbeats 8000000 in
theorem grBoth_any (s o : Nat → Int × Int) (w : World) :
    Calls Tryz.prog 97 #[.agg (st6 s).toArray, .agg (st6 o).toArray] w fun e w' => e = .returned (.agg (st6 fun k => cut1 (s k) (o k)).toArray) ∧ Below w.heap.size w w' := by
  obtain ⟨nf, hnf⟩ : ∃ nf : Nat → Int × Int, nf = fun k => cut1 (s k) (o k) := ⟨_, rfl⟩
  rw [← hnf]
  obtain ⟨w1, hw1⟩ : ∃ w1, ((w.alloc (.cells (st6 s).toArray 128)).alloc (.cells (st6 o).toArray 128)).alloc (.cells #[.int .i64 0, .int .i64 0, .int .i64 0, .int .i64 0, .int .i64 0, .int .i64 0] 128) = w1 := ⟨_, rfl⟩
  have hb1 : Below w.heap.size w w1 := by rw [← hw1]; exact (grow2 _ _ _).alloc (by simp; omega) _
  have hm1 : w1.heap[w.heap.size]? = some (.cells (st6 s).toArray 128 (0, 0)) := by rw [← hw1]; exact alloc3_at0 _ _ _ _
  have hm2 : w1.heap[w.heap.size + 1]? = some (.cells (st6 o).toArray 128 (0, 0)) := by rw [← hw1]; exact alloc3_at1 _ _ _ _
  have hm3 : w1.heap[w.heap.size + 1 + 1]? = some (.cells [Value.int .i64 0, .int .i64 0, .int .i64 0, .int .i64 0, .int .i64 0, .int .i64 0].toArray 128 (0, 0)) := by rw [← hw1]; exact alloc3_at2 _ _ _ _
  rw [← mixF_zero s nf] at hm1
  have H1 := Lib.hid (And.intro hm1 (And.intro hm2 (And.intro hm3 hb1)))
  have HN := Lib.hid hnf
  clear hb1 hm1 hm2 hm3 hnf
  go_enter Tryz.func97, Tryz.ntmps97
  go_wp2
  go_loopg [6] 3 (fun gn s6 wx => ∃ k : Nat, k + gn = 3 ∧ s6 = .int .i64 k ∧ Hid (wx.heap[w.heap.size]? = some (.cells (st6 (mixF s nf k)).toArray 128 (0, 0)) ∧ wx.heap[w.heap.size + 1]? = some (.cells (st6 o).toArray 128 (0, 0)) ∧ wx.heap[w.heap.size + 1 + 1]? = some (.cells [Value.int .i64 0, .int .i64 0, .int .i64 0, .int .i64 0, .int .i64 0, .int .i64 0].toArray 128 (0, 0)) ∧ Below w.heap.size w wx))
  case atStart => exact ⟨0, by omega, rfl, H1.out⟩
  case round =>
    obtain ⟨k, hkg, rfl, hM⟩ := hrel
    cases gk with
    | zero =>
      have hM' := hM.out
      obtain rfl : k = 3 := by omega
      rw [mixF_all] at hM'
      have HM := Lib.hid hM'
      clear hM'
      go_wp2_with (first
        | (show wpList _ _ _ (Oper.mk (some 20) _ _ _ _ _ :: _) _ _
           refine wpList_load_blk 128 (.tmp 2) rfl rfl rfl HM.out.1 (st6 nf) at0 rowStress ?_)
        | (show wpList _ _ _ (Oper.mk none (Op.store _ (Operand.tmp 4) (Operand.tmp 20)) _ _ _ _ :: _) _ _
           refine wpList_store_blk 128 (.tmp 4) (.tmp 20) rfl rfl rfl rfl rfl HM.out.2.2.1 (Nat.le_of_ble_eq_true rfl) (st6_one _) rowStress ?_
           intro w3 hP3 hM3
           rw [splice_whole (by rfl)] at hM3
           have H3 := Lib.hid (And.intro (HM.out.2.2.2.trans (hP3.below (by omega))) hM3)
           clear hP3 hM3))
      refine bodyPost_ret (v := .agg (st6 nf).toArray) (results_cell1 Tryz.results97 rfl H3.out.2 rowStress) rfl ⟨rfl, H3.out.1⟩
    | succ gn =>
      have hk : k < 3 := by omega
      have hkz : (k : Int) < 3 := by omega
      have hk0 : (0 : Int) ≤ k := by omega
      have hmix := mixF_at s nf k
      have hnk : nf k = cut1 (s k) (o k) := by rw [HN.out]
      have hset := mixF_set s nf k
      have hats := st6_at (mixF s nf k) hk
      have hato := st6_at o hk
      rw [hmix] at hats
      have hsp := st6_set (mixF s nf k) hk (nf k)
      rw [hset] at hsp
      generalize s k = sk at hats hnk
      generalize o k = ok at hato hnk
      obtain ⟨o1, o2⟩ := ok
      obtain ⟨s1, s2⟩ := sk
      rw [hnk] at hsp
      obtain ⟨X, hX⟩ : ∃ X, X = st6 (mixF s nf k) := ⟨_, rfl⟩
      have hXl : X.length = 6 := by rw [hX]; rfl
      obtain ⟨Y, hY⟩ : ∃ Y, Y = st6 (mixF s nf (k + 1)) := ⟨_, rfl⟩
      have hM' := hM.out
      rw [← hX] at hats hM' hsp
      rw [← hY] at hsp
      have HF := Lib.hid (And.intro hats (And.intro hato (And.intro hsp (And.intro hXl hY))))
      have HM := Lib.hid hM'
      clear hats hato hsp hXl hX hY hM' hmix hset hnk hM
      go_wp2
      refine R6.wp_walk (C := BothC w w.heap.size 0 X Y [(w.heap.size + 1, .cells (st6 o).toArray 128), (w.heap.size + 1 + 1, .cells [Value.int .i64 0, .int .i64 0, .int .i64 0, .int .i64 0, .int .i64 0, .int .i64 0].toArray 128)] 7 10 16 (o1, o2)) 21 (by kernel_rfl) (by kernel_rfl) rfl
        ⟨HM.out.2.2.2.drew, fun _ => HM.out.1, (fun e => by cases e), lt_of_heap HM.out.1, ⟨HM.out.2.1, HM.out.2.2.1, trivial⟩, (fun e => by cases e)⟩ ?_
      simp only []
      repeat (first
        | (refine' R6.WalkR.det (fun _ => rfl) (fun D ρ W hK hC => ?_) ?_
           rotate_left
           · skip
             have HC := Lib.hid hC
             clear hC hK
             go_simp
             first
               | with_reducible exact ⟨rfl, HC.out.move (by decide)⟩
               | fail
           simp only [Act.put, List.setIfInBounds_toArray, List.set_cons_succ, List.set_cons_zero]))
      refine' R6.WalkR.det (fun _ => rfl) (fun D ρ W hK hC => ?_) ?_
      rotate_left
      · exact gives_load_blk 50 (.tmp 11) rfl rfl (hC.hX (hK.post 10 (by decide +kernel))) [.int .i64 s1, .int .i64 s2] HF.out.1 rowSpan5 ⟨rfl, hC.move (by decide)⟩
      simp only [Act.put, List.setIfInBounds_toArray, List.set_cons_succ, List.set_cons_zero]
      repeat (first
        | (refine' R6.WalkR.det (fun _ => rfl) (fun D ρ W hK hC => ?_) ?_
           rotate_left
           · skip
             have HC := Lib.hid hC
             clear hC hK
             go_simp
             first
               | with_reducible exact ⟨rfl, HC.out.move (by decide)⟩
               | fail
           simp only [Act.put, List.setIfInBounds_toArray, List.set_cons_succ, List.set_cons_zero]))
      refine' R6.WalkR.det (fun _ => rfl) (fun D ρ W hK hC => ?_) ?_
      rotate_left
      · exact gives_load_blk 50 (.tmp 14) rfl rfl hC.box.1 [.int .i64 o1, .int .i64 o2] HF.out.2.1 rowSpan5 ⟨rfl, hC.move (by decide)⟩
      simp only [Act.put, List.setIfInBounds_toArray, List.set_cons_succ, List.set_cons_zero]
      refine' R6.WalkR.nd (fun _ => rfl) rfl (fun D ρ W hK hC => ?_) ?_
      · have HC := Lib.hid hC
        clear hC hK
        go_simp
        exact HC.out.made rfl rfl
      simp only [Act.put, List.setIfInBounds_toArray, List.set_cons_succ, List.set_cons_zero]
      refine' R6.WalkR.det (fun _ => rfl) (fun D ρ W hK hC => ?_) ?_
      rotate_left
      · obtain ⟨b, hne, hv, hm⟩ := hC.new (hK.pre 7 (needs_edgeM (by decide +kernel)))
        have hvv := vals_new hm (lt_of_heap hm)
        rw [← flat1] at hvv
        have HC := Lib.hid hC
        have HV := Lib.hid hvv
        clear hC hK hm hvv hne
        go_simp
        go_at_call 140
        refine (grCut_any (s1, s2) (some ⟨b, 0, none⟩) 1 [(o1, o2)] _ W (Nat.le_refl _) HV.out (by simp)).mono ?_
        rintro e W1 ⟨rfl, hB1⟩
        exact ⟨_, rfl, rfl, (HC.out.next hB1).move (by decide)⟩
      simp only [Act.put, List.setIfInBounds_toArray, List.set_cons_succ, List.set_cons_zero]
      repeat (first
        | (refine' R6.WalkR.det (fun _ => rfl) (fun D ρ W hK hC => ?_) ?_
           rotate_left
           · skip
             have HC := Lib.hid hC
             clear hC hK
             go_simp
             first
               | with_reducible exact ⟨rfl, HC.out.move (by decide)⟩
               | fail
           simp only [Act.put, List.setIfInBounds_toArray, List.set_cons_succ, List.set_cons_zero]))
      refine' R6.WalkR.det (c := undef) (fun _ => rfl) (fun D ρ W hK hC => ?_) ?_
      · refine gives_store_blk 50 (.tmp 18) (.tmp 17) (cs := sp2 (cut1 (s1, s2) (o1, o2))) rfl rfl rfl (hC.hX hK.me) (by rw [HF.out.2.2.2.1]; show k * 2 + 2 ≤ 6; omega) (sp2_one _) rowSpan5 ?_
        intro W' hP hM'
        rw [HF.out.2.2.1] at hM'
        have hg1 := hC.box.1
        have hg2 := hC.box.2.1
        refine ⟨rfl, ⟨hC.bel.trans (hP.below (Nat.le_refl _)), (fun e => by rw [done_me] at e; cases e), fun _ => hM', by rw [hP.size]; exact hC.lt, ⟨(hP.other _ (by omega)).trans hg1, (hP.other _ (by omega)).trans hg2, trivial⟩, fun e => ?_⟩⟩
        rw [done_ne (by decide)] at e
        obtain ⟨b, h0, h1, h2⟩ := hC.new e
        exact ⟨b, h0, by rw [upd_none]; exact h1, (hP.other b h0).trans h2⟩
      simp only [Act.put, List.setIfInBounds_toArray, List.set_cons_succ, List.set_cons_zero]
      refine R6.WalkR.nil (fun D ρ W hD hC => ?_)
      have h1 := hC.hY (hD 10 (by omega))
      rw [HF.out.2.2.2.2] at h1
      have HB := Lib.hid (And.intro h1 (And.intro hC.box.1 (And.intro hC.box.2.1 hC.bel)))
      clear hC hD h1
      go_wp2
      go_roundg gn
      case measure => omega
      case rel => exact ⟨k + 1, by omega, by go_num, HB.out⟩

def smallF (f : Nat → Int × Int) : Prop := ∀ k, k < 3 → (-2000000000 ≤ (f k).1 ∧ (f k).1 ≤ 2000000000) ∧ (-2000000000 ≤ (f k).2 ∧ (f k).2 ≤ 2000000000)

theorem st6_at0 (f : Nat → Int × Int) {k : Nat} (hk : k < 3) : (st6 f).toArray[k * 2]? = some (.int .i64 (f k).1) := by simpa using st6_at f hk 0 _ rfl
theorem st6_at1 (f : Nat → Int × Int) {k : Nat} (hk : k < 3) : (st6 f).toArray[k * 2 + 1]? = some (.int .i64 (f k).2) := st6_at f hk 1 _ rfl
theorem st6_set0 (f : Nat → Int × Int) {k : Nat} (hk : k < 3) (x : Int) : (st6 f).set (k * 2) (.int .i64 x) = st6 (updF f k (x, (f k).2)) := by
  have h3 : k = 0 ∨ k = 1 ∨ k = 2 := by omega
  rcases h3 with rfl | rfl | rfl <;> rfl
theorem st6_set1 (f : Nat → Int × Int) {k : Nat} (hk : k < 3) (x : Int) : (st6 f).set (k * 2 + 1) (.int .i64 x) = st6 (updF f k ((f k).1, x)) := by
  have h3 : k = 0 ∨ k = 1 ∨ k = 2 := by omega
  rcases h3 with rfl | rfl | rfl <;> rfl

set_option maxRecDepth 100000 in
set_option maxHeartbeats 8000000 in
theorem grWider_any (s : Nat → Int × Int) (v : Int) (hs : smallF s) (hv : 0 ≤ v ∧ v ≤ 200000) (w : World) :
    Calls Tryz.prog 98 #[.agg (st6 s).toArray, .int .i64 v] w fun e w' => e = .returned (.agg (st6 fun k => wid1 v (s k)).toArray) ∧ Below w.heap.size w w' := by
  obtain ⟨nf, hnf⟩ : ∃ nf : Nat → Int × Int, nf = fun k => wid1 v (s k) := ⟨_, rfl⟩
  rw [← hnf]
  obtain ⟨v0, v1⟩ := hv
  obtain ⟨w1, hw1⟩ : ∃ w1, (w.alloc (.cells (st6 s).toArray 128)).alloc (.cells #[.int .i64 0, .int .i64 0, .int .i64 0, .int .i64 0, .int .i64 0, .int .i64 0] 128) = w1 := ⟨_, rfl⟩
  have hb1 : Below w.heap.size w w1 := by rw [← hw1]; exact grow2 _ _ _
  have hm1 : w1.heap[w.heap.size]? = some (.cells (st6 s).toArray 128 (0, 0)) := by rw [← hw1]; exact alloc2_at0 _ _ _
  have hm3 : w1.heap[w.heap.size + 1]? = some (.cells [Value.int .i64 0, .int .i64 0, .int .i64 0, .int .i64 0, .int .i64 0, .int .i64 0].toArray 128 (0, 0)) := by rw [← hw1]; exact alloc2_at1 _ _ _
  rw [← mixF_zero s nf] at hm1
  have H1 := Lib.hid (And.intro hm1 (And.intro hm3 hb1))
  have HN := Lib.hid (And.intro hnf hs)
  clear hb1 hm1 hm3 hnf hs
  go_enter Tryz.func98, Tryz.ntmps98
  go_wp2
  go_loopg [6] 3 (fun gn s6 wx => ∃ k : Nat, k + gn = 3 ∧ s6 = .int .i64 k ∧ Hid (wx.heap[w.heap.size]? = some (.cells (st6 (mixF s nf k)).toArray 128 (0, 0)) ∧ wx.heap[w.heap.size + 1]? = some (.cells [Value.int .i64 0, .int .i64 0, .int .i64 0, .int .i64 0, .int .i64 0, .int .i64 0].toArray 128 (0, 0)) ∧ Below w.heap.size w wx))
  case atStart => exact ⟨0, by omega, rfl, H1.out⟩
  case round =>
    obtain ⟨k, hkg, rfl, hM⟩ := hrel
    cases gk with
    | zero =>
      have hM' := hM.out
      obtain rfl : k = 3 := by omega
      rw [mixF_all] at hM'
      have HM := Lib.hid hM'
      clear hM'
      go_wp2_with (first
        | (show wpList _ _ _ (Oper.mk (some 26) _ _ _ _ _ :: _) _ _
           refine wpList_load_blk 128 (.tmp 2) rfl rfl rfl HM.out.1 (st6 nf) at0 rowStress ?_)
        | (show wpList _ _ _ (Oper.mk none (Op.store _ (Operand.tmp 4) (Operand.tmp 26)) _ _ _ _ :: _) _ _
           refine wpList_store_blk 128 (.tmp 4) (.tmp 26) rfl rfl rfl rfl rfl HM.out.2.1 (Nat.le_of_ble_eq_true rfl) (st6_one _) rowStress ?_
           intro w3 hP3 hM3
           rw [splice_whole (by rfl)] at hM3
           have H3 := Lib.hid (And.intro (HM.out.2.2.trans (hP3.below (by omega))) hM3)
           clear hP3 hM3))
      refine bodyPost_ret (v := .agg (st6 nf).toArray) (results_cell1 Tryz.results98 rfl H3.out.2 rowStress) rfl ⟨rfl, H3.out.1⟩
    | succ gn =>
      have hk : k < 3 := by omega
      have hkz : (k : Int) < 3 := by omega
      have hk0 : (0 : Int) ≤ k := by omega
      have hmix := mixF_at s nf k
      have hnk : nf k = ((s k).1 - v, (s k).2 + v) := by rw [HN.out.1]; rfl
      obtain ⟨⟨b0, b1⟩, ⟨b2, b3⟩⟩ := HN.out.2 k hk
      have hc0 := (cell_of_row wr w.heap.size (k * 2) _ _ _ hM.out.1).trans (st6_at0 _ hk)
      rw [hmix] at hc0
      have e1 := st6_set0 (mixF s nf k) hk ((s k).1 - v)
      have e2 := st6_set1 (updF (mixF s nf k) k ((s k).1 - v, (s k).2)) hk ((s k).2 + v)
      have e3 : st6 (updF (updF (mixF s nf k) k ((s k).1 - v, (s k).2)) k ((updF (mixF s nf k) k ((s k).1 - v, (s k).2) k).1, (s k).2 + v)) = st6 (mixF s nf (k + 1)) := by
        rw [← mixF_set s nf k]
        refine st6_congr fun i _ => ?_
        unfold updF
        by_cases hi : i = k
        · subst hi; simp [hnk]
        · simp [hi]
      have ea := st6_at1 (updF (mixF s nf k) k ((s k).1 - v, (s k).2)) hk
      rw [show (updF (mixF s nf k) k ((s k).1 - v, (s k).2) k) = ((s k).1 - v, (s k).2) by simp [updF]] at ea e2 e3
      rw [hmix] at e1
      rw [e3] at e2
      generalize s k = sk at *
      obtain ⟨s1, s2⟩ := sk
      simp only at hc0 e1 e2 ea b0 b1 b2 b3
      have HE := Lib.hid (And.intro e1 (And.intro e2 ea))
      clear e1 e2 e3 ea hmix hnk
      go_wp2_with (first
        | (show wpList _ _ _ (Oper.mk none (Op.store _ (Operand.tmp 16) (Operand.tmp 14)) _ _ _ _ :: _) _ _
           refine wpList_store1 3 (.tmp 16) (.tmp 14) rfl rfl rfl rfl rfl hM.out.1 (by rw [st6_len]; omega) info3s ?_
           intro w4 hP4 hM4
           rw [HE.out.1] at hM4
           have hc1 := (cell_of_row w4 w.heap.size (k * 2 + 1) _ _ _ hM4).trans HE.out.2.2
           have H4 := Lib.hid (And.intro hM4 (And.intro ((hP4.other _ (by omega)).trans hM.out.2.1) (hM.out.2.2.trans (hP4.below (Nat.le_refl _)))))
           clear hP4 hM4 hc0)
        | (show wpList _ _ _ (Oper.mk none (Op.store _ (Operand.tmp 24) (Operand.tmp 22)) _ _ _ _ :: _) _ _
           refine wpList_store1 3 (.tmp 24) (.tmp 22) rfl rfl rfl rfl rfl H4.out.1 (by rw [st6_len]; omega) info3s ?_
           intro w5 hP5 hM5
           rw [HE.out.2.1] at hM5
           have H5 := Lib.hid (And.intro hM5 (And.intro ((hP5.other _ (by omega)).trans H4.out.2.1) (H4.out.2.2.trans (hP5.below (Nat.le_refl _)))))
           clear hP5 hM5))
      go_roundg gn
      case measure => omega
      case rel => exact ⟨k + 1, by omega, by go_num, H5.out⟩

end Go.Proofs.YtpnnlmaipcjkmaaGreat

namespace Go.Proofs.YtpnnlmaipcjkmaaGreat
open Go.RowKit
open R6 (done done_ne done_me upd_ne upd_me)

attribute [local go_sem] gives

structure StM (w0 : World) (b2 : Nat) (ty : TypeId) (X Y : List Value) (K : List (Nat × Obj)) (ks : Nat) (D : Nat → Bool) (σ : Nat → Value) (W : World) : Prop where
  bel : Below w0.heap.size w0 W
  hX : D ks = false → W.heap[b2]? = some (.cells X.toArray ty (0, 0))
  hY : D ks = true → W.heap[b2]? = some (.cells Y.toArray ty (0, 0))
  lt : b2 < W.heap.size
  box : keptK K W
def stK (ks k : Nat) : Bool := !(k == ks)
theorem keptK.put {W W' : World} {b : Nat} (hP : Put W W' b) : ∀ {K : List (Nat × Obj)}, (∀ e ∈ K, e.1 ≠ b) → keptK K W → keptK K W'
  | [], _, _ => trivial
  | _ :: _, hne, h => ⟨(hP.other _ (hne _ (List.mem_cons_self ..))).trans h.1, keptK.put hP (fun e he => hne e (List.mem_cons_of_mem _ he)) h.2⟩
section
variable {w0 W W' : World} {b2 : Nat} {ty : TypeId} {X Y : List Value} {K : List (Nat × Obj)} {ks : Nat} {D : Nat → Bool} {σ σ' : Nat → Value}
theorem StM.move {k : Nat} (h : StM w0 b2 ty X Y K ks D σ W) (hk : stK ks k = true) : StM w0 b2 ty X Y K ks (done D k) σ' W := by
  simp only [stK, Bool.not_eq_true', beq_eq_false_iff_ne, ne_eq] at hk
  have e2 := done_ne (D := D) (k := k) (j := ks) (by omega)
  exact ⟨h.bel, by rw [e2]; exact h.hX, by rw [e2]; exact h.hY, h.lt, h.box⟩
theorem StM.next (h : StM w0 b2 ty X Y K ks D σ W) (hg : Grows W W') : StM w0 b2 ty X Y K ks D σ W' :=
  ⟨h.bel.trans (hg.mono h.bel.size), fun e => (hg.block _ h.lt).trans (h.hX e), fun e => (hg.block _ h.lt).trans (h.hY e), Nat.lt_of_lt_of_le h.lt hg.size, h.box.next hg⟩
theorem StM.put (h : StM w0 b2 ty X Y K ks D σ W) (hP : Put W W' b2) (hM : W'.heap[b2]? = some (.cells Y.toArray ty (0, 0))) (hn : w0.heap.size ≤ b2) (hK : ∀ e ∈ K, e.1 ≠ b2) : StM w0 b2 ty X Y K ks (done D ks) σ' W' :=
  ⟨h.bel.trans (hP.below hn), (fun e => by rw [done_me] at e; cases e), fun _ => hM, by rw [hP.size]; exact h.lt, h.box.put hP hK⟩
end

theorem grAtLeast_any (n : Int) (w : World) : Calls Tryz.prog 170 #[.int .i64 n] w fun e w' => e = .returned (.agg (sp2 (n, 200000)).toArray) ∧ Below w.heap.size w w' := by
  go_enter Tryz.func170, Tryz.ntmps170
  go_wp2
  refine bodyPost_ret (v := .agg #[.int .i64 n, .int .i64 200000]) (by simp [results, Tryz.results170, go_sem]) rfl ⟨rfl, ?_⟩
  exact grow1 _ _
theorem grBelow_any (n : Int) (h1 : 1 ≤ n) (h2 : n ≤ 1000000000) (w : World) : Calls Tryz.prog 171 #[.int .i64 n] w fun e w' => e = .returned (.agg (sp2 (1, n - 1)).toArray) ∧ Below w.heap.size w w' := by
  obtain ⟨w1, hw1⟩ : ∃ w1, w.alloc (.cells #[.int .i64 0, .int .i64 0] 50) = w1 := ⟨_, rfl⟩
  have hb1 : Below w.heap.size w w1 := by rw [← hw1]; exact grow1 _ _
  have hm1 : w1.heap[w.heap.size]? = some (.cells [Value.int .i64 0, .int .i64 0].toArray 50 (0, 0)) := by rw [← hw1]; exact alloc_at0 _ _
  have H1 := Lib.hid (And.intro hb1 hm1)
  clear hb1 hm1
  go_enter Tryz.func171, Tryz.ntmps171
  go_wp2_with (first
    | (go_at_call 101
       refine (grFromOne_any _ _).mono ?_
       rintro e w2 ⟨rfl, hB2⟩
       have H2 := Lib.hid (And.intro (H1.out.1.trans (hB2.mono H1.out.1.size)) ((hB2.block _ (lt_of_heap H1.out.2)).trans H1.out.2))
       clear hB2)
    | (show wpList _ _ _ (Oper.mk none (Op.store _ (Operand.tmp 2) (Operand.tmp 5)) _ _ _ _ :: _) _ _
       refine wpList_store_blk 50 (.tmp 2) (.tmp 5) rfl rfl rfl rfl (cs := sp2 (1, n - 1)) rfl H2.out.2 (Nat.le_of_ble_eq_true rfl) (sp2_one _) rowSpan5 ?_
       intro w3 hP3 hM3
       rw [splice_whole (by rfl)] at hM3
       have H3 := Lib.hid (And.intro (H2.out.1.trans (hP3.below (Nat.le_refl _))) hM3)
       clear hP3 hM3))
  refine bodyPost_ret (v := .agg (sp2 (1, n - 1)).toArray) (results_cell1 Tryz.results171 rfl H3.out.2 rowSpan5) rfl ⟨rfl, H3.out.1⟩

def fnT (t : Ts) : Value := if t.held = true then .func (.func 170) #[] #[] else .func (.func 171) #[] #[]
def trl (t : Ts) : List Value := tcl t ++ [fnT t]

theorem rowTrial : RowTy Tryz.prog 221 6 := ⟨⟨_, Tryz.underlying221, rfl⟩, by kernel_rfl⟩

set_option maxRecDepth 100000 in
theorem grTrialOf_any (t : Ts) (w : World) : Calls Tryz.prog 138 #[.agg (tcl t).toArray] w fun e w' => e = .returned (.agg (trl t).toArray) ∧ Below w.heap.size w w' := by
  unfold trl fnT tcl
  obtain ⟨i, p, s, f, h⟩ := t
  cases h
  · simp only [Bool.false_eq_true, if_false]
    go_enter Tryz.func138, Tryz.ntmps138
    go_wp2_with
      (show wpList _ _ _ (Oper.mk none (Op.store _ (Operand.tmp 2) (Operand.tmp 8)) _ _ _ _ :: _) _ _
       refine wpList_store_blk 221 (.tmp 2) (.tmp 8) rfl rfl rfl rfl (cs := [.int .i64 i, .int .i64 p, .int .i64 s, .int .i64 f, .bool false, .func (.func 171) #[] #[]]) rfl (alloc2_at1 w _ _) (Nat.le_of_ble_eq_true rfl) (by intro v hv; simp only [List.mem_cons, List.not_mem_nil, or_false] at hv; rcases hv with rfl | rfl | rfl | rfl | rfl | rfl <;> rfl) rowTrial ?_
       intro w3 hP3 hM3
       rw [splice_whole (by rfl)] at hM3
       have H3 := Lib.hid (And.intro ((grow2 w _ _).trans (hP3.below (by omega))) hM3)
       clear hP3 hM3)
    exact bodyPost_ret (results_cell1 Tryz.results138 rfl H3.out.2 rowTrial) rfl ⟨rfl, H3.out.1⟩
  · simp only [if_true]
    go_enter Tryz.func138, Tryz.ntmps138
    go_wp2_with
      (show wpList _ _ _ (Oper.mk none (Op.store _ (Operand.tmp 2) (Operand.tmp 6)) _ _ _ _ :: _) _ _
       refine wpList_store_blk 221 (.tmp 2) (.tmp 6) rfl rfl rfl rfl (cs := [.int .i64 i, .int .i64 p, .int .i64 s, .int .i64 f, .bool true, .func (.func 170) #[] #[]]) rfl (alloc2_at1 w _ _) (Nat.le_of_ble_eq_true rfl) (by intro v hv; simp only [List.mem_cons, List.not_mem_nil, or_false] at hv; rcases hv with rfl | rfl | rfl | rfl | rfl | rfl <;> rfl) rowTrial ?_
       intro w3 hP3 hM3
       rw [splice_whole (by rfl)] at hM3
       have H3 := Lib.hid (And.intro ((grow2 w _ _).trans (hP3.below (by omega))) hM3)
       clear hP3 hM3)
    exact bodyPost_ret (results_cell1 Tryz.results138 rfl H3.out.2 rowTrial) rfl ⟨rfl, H3.out.1⟩


set_option maxRecDepth 100000 in
set_option maxHeartbeats 4000000 in
theorem grSays_any (t : Ts) (a : Int) (a0 : 0 < a) (a1 : a ≤ 60000) (f0 : 1 ≤ t.force) (f1 : t.force ≤ 1000000) (w : World) :
    Calls Tryz.prog 139 #[.agg (trl t).toArray, .int .i64 a] w fun e w' => e = .returned (.agg (sp2 (says a t)).toArray) ∧ Below w.heap.size w w' := by
  have hq : (t.force * 1000 + a - 1).tdiv a = needN a t.force := by
    rw [Int.tdiv_eq_ediv_of_nonneg (by omega)]
    unfold needN
    rw [Int.mul_comm]
  have hn := needN_bnd a0 f0 f1
  have v1 : IntKind.i64.wrap (t.force * 1000) = t.force * 1000 := IntWalk.i64_in _ (by omega)
  have v2 : IntKind.i64.wrap (t.force * 1000 + a) = t.force * 1000 + a := IntWalk.i64_in _ (by omega)
  have v3 : IntKind.i64.wrap (t.force * 1000 + a - 1) = t.force * 1000 + a - 1 := IntWalk.i64_in _ (by omega)
  have v4 : IntKind.i64.wrap ((t.force * 1000 + a - 1).tdiv a) = needN a t.force := by rw [hq]; exact IntWalk.i64_in _ (by omega)
  have v5 : ¬ a = 0 := by omega
  have v6 : (a == 0) = false := by simp; omega
  have HV := Lib.hid (And.intro v1 (And.intro v2 (And.intro v3 (And.intro v4 (And.intro v5 v6)))))
  have hcall : ∀ W, Calls Tryz.prog (if t.held = true then 170 else 171) #[.int .i64 (needN a t.force)] W fun e w' => e = .returned (.agg (sp2 (says a t)).toArray) ∧ Below W.heap.size W w' := fun W => by
    unfold says
    cases t.held
    · exact grBelow_any _ hn.1 hn.2 W
    · exact grAtLeast_any _ W
  obtain ⟨w1, hw1⟩ : ∃ w1, (w.alloc (.cells (trl t).toArray 221)).alloc (.cells #[.int .i64 0, .int .i64 0] 50) = w1 := ⟨_, rfl⟩
  have hb1 : Below w.heap.size w w1 := by rw [← hw1]; exact grow2 _ _ _
  have hm1 : w1.heap[w.heap.size]? = some (.cells (trl t).toArray 221 (0, 0)) := by rw [← hw1]; exact alloc2_at0 _ _ _
  have hm2 : w1.heap[w.heap.size + 1]? = some (.cells [Value.int .i64 0, .int .i64 0].toArray 50 (0, 0)) := by rw [← hw1]; exact alloc2_at1 _ _ _
  have H1 := Lib.hid (And.intro hb1 (And.intro hm1 hm2))
  generalize says a t = z at hcall ⊢
  obtain ⟨z1, z2⟩ := z
  have hfn : (trl t).toArray[5]? = some (fnT t) := rfl
  have hfc : (trl t).toArray[3]? = some (.int .i64 t.force) := rfl
  have HT := Lib.hid (And.intro hfn hfc)
  unfold fnT at HT
  generalize needN a t.force = q at HV hcall
  clear hq hn v1 v2 v3 v4 v5 v6 hb1 hm1 hm2 hfn hfc
  cases hh : t.held
  all_goals
    rw [hh] at hcall HT
    simp only [Bool.false_eq_true, if_false, if_true] at hcall HT
    have HCL := Lib.hid hcall
    clear hcall
    go_enter Tryz.func139, Tryz.ntmps139
    go_wp2
    refine R6.wp_walk (C := StM w (w.heap.size + 1) 50 [.int .i64 0, .int .i64 0] (sp2 (z1, z2)) [(w.heap.size, .cells (trl t).toArray 221)] 12) 17 (by kernel_rfl) (by kernel_rfl) rfl
      ⟨H1.out.1.drew, fun _ => H1.out.2.2, (fun e => by cases e), lt_of_heap H1.out.2.2, ⟨H1.out.2.1, trivial⟩⟩ ?_
    simp only []
    repeat (first
      | (refine' R6.WalkR.det (fun _ => rfl) (fun D ρ W hK hC => ?_) ?_
         rotate_left
         · have f5 := (cell_of_row W w.heap.size 5 _ _ _ hC.box.1).trans HT.out.1
           have f3 := (cell_of_row W w.heap.size 3 _ _ _ hC.box.1).trans HT.out.2
           obtain ⟨v1, v2, v3, v4, v5, v6⟩ := HV.out
           have HC := Lib.hid hC
           clear hC hK
           go_simp
           first
             | with_reducible exact ⟨rfl, HC.out.move (by decide)⟩
             | (go_at_call 171; refine (HCL.out W).mono ?_; rintro e W1 ⟨rfl, hB1⟩; exact ⟨_, rfl, rfl, (HC.out.next hB1).move (by decide)⟩)
             | (go_at_call 170; refine (HCL.out W).mono ?_; rintro e W1 ⟨rfl, hB1⟩; exact ⟨_, rfl, rfl, (HC.out.next hB1).move (by decide)⟩)
         simp only [Act.put, List.setIfInBounds_toArray, List.set_cons_succ, List.set_cons_zero]))
    refine' R6.WalkR.det (c := undef) (fun _ => rfl) (fun D ρ W hK hC => ?_) ?_
    · refine gives_store_blk 50 (.tmp 4) (.tmp 16) (cs := sp2 (z1, z2)) rfl rfl rfl (hC.hX hK.me) (Nat.le_of_ble_eq_true rfl) (sp2_one _) rowSpan5 ?_
      intro W' hP hM'
      rw [splice_whole (by rfl)] at hM'
      exact ⟨rfl, hC.put hP hM' (by omega) (fun e he => by simp only [List.mem_singleton] at he; subst he; simp)⟩
    simp only [Act.put, List.setIfInBounds_toArray, List.set_cons_succ, List.set_cons_zero]
    refine R6.WalkR.nil (fun D ρ W hD hC => ?_)
    have HB := Lib.hid (And.intro (hC.hY (hD 12 (by omega))) hC.bel)
    clear hC hD
    go_wp2
    refine bodyPost_ret (v := .agg (sp2 (z1, z2)).toArray) (results_cell1 Tryz.results139 rfl HB.out.1 rowSpan5) rfl ⟨rfl, HB.out.2⟩

theorem bears_bnd (s a : Int) (s0 : 0 ≤ s) (s1 : s ≤ 200000) (a0 : 0 < a) (a1 : a ≤ 60000) : 0 ≤ s * a ∧ s * a ≤ 12000000000 := by
  constructor
  · exact Int.mul_nonneg s0 (by omega)
  · have h1 : s * a ≤ s * 60000 := Int.mul_le_mul_of_nonneg_left a1 s0
    omega

theorem grStr1_any (s a : Int) (s0 : 0 ≤ s) (s1 : s ≤ 200000) (a0 : 0 < a) (a1 : a ≤ 60000) (b : Nat) (w : World) (hb : w.heap[b]? = some (.cells #[.int .i64 a] 3 (0, 0))) :
    Calls Tryz.prog 100 #[.int .i64 s, .pointer (some ⟨b, 0, none⟩)] w fun e w' => e = .returned (.int .i64 (min (s * a / 1000) 1000000)) ∧ w = w' := by
  have hc : w.cell? ⟨b, 0, none⟩ = some (.int .i64 a) := cell_of_row w b 0 _ _ _ hb
  obtain ⟨h0, h1⟩ := bears_bnd s a s0 s1 a0 a1
  have hq : (s * a).tdiv 1000 = s * a / 1000 := Int.tdiv_eq_ediv_of_nonneg h0
  rw [← hq]
  have v1 : 0 ≤ (s * a).tdiv 1000 := by rw [hq]; omega
  have v2 : (s * a).tdiv 1000 ≤ 12000000 := by rw [hq]; omega
  clear hq hb
  go_enter Tryz.func100, Tryz.ntmps100
  go_wp2
  go_ret
  exact ⟨rfl, rfl⟩

set_option maxRecDepth 100000 in
set_option maxHeartbeats 4000000 in
theorem grStrengths_any (s : Int × Int) (a : Int) (s0 : 0 ≤ s.1 ∧ s.1 ≤ 200000) (s1 : 0 ≤ s.2 ∧ s.2 ≤ 200000) (a0 : 0 < a) (a1 : a ≤ 60000) (w : World) :
    Calls Tryz.prog 58 #[.agg (sp2 s).toArray, .int .i64 a] w fun e w' => e = .returned (.agg (sp2 (min (s.1 * a / 1000) 1000000, min (s.2 * a / 1000) 1000000)).toArray) ∧ Below w.heap.size w w' := by
  obtain ⟨x, y⟩ := s
  simp only at s0 s1 ⊢
  have hf := fun (b : Nat) (W : World) (hW : W.heap[b]? = some (.cells #[.int .i64 a] 3 (0, 0))) => grStr1_any x a s0.1 s0.2 a0 a1 b W hW
  have hg := fun (b : Nat) (W : World) (hW : W.heap[b]? = some (.cells #[.int .i64 a] 3 (0, 0))) => grStr1_any y a s1.1 s1.2 a0 a1 b W hW
  generalize min (x * a / 1000) 1000000 = p at hf ⊢
  generalize min (y * a / 1000) 1000000 = q at hg ⊢
  have HF := Lib.hid hf
  have HG := Lib.hid hg
  obtain ⟨w1, hw1⟩ : ∃ w1, ((w.alloc (.cells (sp2 (x, y)).toArray 50)).alloc (.cells #[.int .i64 a] 3)).alloc (.cells #[.int .i64 0, .int .i64 0] 50) = w1 := ⟨_, rfl⟩
  have hb1 : Below w.heap.size w w1 := by rw [← hw1]; exact (grow2 _ _ _).alloc (by simp; omega) _
  have hm1 : w1.heap[w.heap.size]? = some (.cells (sp2 (x, y)).toArray 50 (0, 0)) := by rw [← hw1]; exact alloc3_at0 _ _ _ _
  have hm2 : w1.heap[w.heap.size + 1]? = some (.cells #[.int .i64 a] 3 (0, 0)) := by rw [← hw1]; exact alloc3_at1 _ _ _ _
  have hm3 : w1.heap[w.heap.size + 1 + 1]? = some (.cells [Value.int .i64 0, .int .i64 0].toArray 50 (0, 0)) := by rw [← hw1]; exact alloc3_at2 _ _ _ _
  have H1 := Lib.hid (And.intro hb1 (And.intro hm1 (And.intro hm2 hm3)))
  clear hb1 hm1 hm2 hm3 s0 s1 a0 a1 hf hg
  go_enter Tryz.func58, Tryz.ntmps58
  go_wp2
  refine R6.wp_walk (C := StM w (w.heap.size + 1 + 1) 50 [.int .i64 0, .int .i64 0] (sp2 (p, q)) [(w.heap.size, .cells (sp2 (x, y)).toArray 50), (w.heap.size + 1, .cells #[.int .i64 a] 3)] 9) 16 (by kernel_rfl) (by kernel_rfl) rfl
    ⟨H1.out.1.drew, fun _ => H1.out.2.2.2, (fun e => by cases e), lt_of_heap H1.out.2.2.2, ⟨H1.out.2.1, H1.out.2.2.1, trivial⟩⟩ ?_
  simp only []
  repeat (first
    | (refine' R6.WalkR.det (fun _ => rfl) (fun D ρ W hK hC => ?_) ?_
       rotate_left
       · have f0 : W.cell? ⟨w.heap.size, 0, none⟩ = some (.int .i64 x) := cell_of_row W _ 0 _ _ _ hC.box.1
         have f1 : W.cell? ⟨w.heap.size, 1, none⟩ = some (.int .i64 y) := cell_of_row W _ 1 _ _ _ hC.box.1
         have HC := Lib.hid hC
         clear hC hK
         go_simp
         first
           | with_reducible exact ⟨rfl, HC.out.move (by decide)⟩
           | (go_at_call 100; (with_reducible show Calls _ _ #[.int _ x, _] _ _); refine (HF.out _ W HC.out.box.2.1).mono ?_; rintro e W1 ⟨rfl, rfl⟩; exact ⟨_, rfl, rfl, HC.out.move (by decide)⟩)
           | (go_at_call 100; (with_reducible show Calls _ _ #[.int _ y, _] _ _); refine (HG.out _ W HC.out.box.2.1).mono ?_; rintro e W1 ⟨rfl, rfl⟩; exact ⟨_, rfl, rfl, HC.out.move (by decide)⟩)
       simp only [Act.put, List.setIfInBounds_toArray, List.set_cons_succ, List.set_cons_zero]))
  refine' R6.WalkR.det (c := undef) (fun _ => rfl) (fun D ρ W hK hC => ?_) ?_
  · refine gives_store_blk 50 (.tmp 4) (.tmp 15) (cs := sp2 (p, q)) rfl rfl rfl (hC.hX hK.me) (Nat.le_of_ble_eq_true rfl) (sp2_one _) rowSpan5 ?_
    intro W' hP hM'
    rw [splice_whole (by rfl)] at hM'
    exact ⟨rfl, hC.put hP hM' (by omega) (fun e he => by simp only [List.mem_cons, List.not_mem_nil, or_false] at he; rcases he with rfl | rfl <;> (dsimp only; omega))⟩
  simp only [Act.put, List.setIfInBounds_toArray, List.set_cons_succ, List.set_cons_zero]
  refine R6.WalkR.nil (fun D ρ W hD hC => ?_)
  have HB := Lib.hid (And.intro (hC.hY (hD 9 (by omega))) hC.bel)
  clear hC hD
  go_wp2
  refine bodyPost_ret (v := .agg (sp2 (p, q)).toArray) (results_cell1 Tryz.results58 rfl HB.out.1 rowSpan5) rfl ⟨rfl, HB.out.2⟩

end Go.Proofs.YtpnnlmaipcjkmaaGreat

namespace Go.Proofs.YtpnnlmaipcjkmaaGreat
open Go.RowKit
open R6 (done done_ne done_me upd_ne upd_me)

attribute [local go_sem] gives

section
variable {P : Program} {ops : Array Oper} {rest : List Oper} {o : Oper} {a : Act} {w : World} {Q : Exit → Act → World → Prop} {R : Value → World → Prop}
theorem gives_app2 (s x : Operand) (t : TypeId)
    (ho : o.op = .call { callee := .builtin .append, args := #[s, x], argTypes := #[t, t] })
    (base : Nat) (e : TypeId) (i : TypeInfo) (z : Value) (size bytes : Nat) (ht : P.underlying t = some (.slice e)) (hi : P.info? e = some i) (hz : i.zero = some z)
    (hsize : i.size = size) (hby : i.bytes = bytes) (hzs : z.cells.size = size) (hsz : 0 < size)
    {v : Value} {n : Nat} {xs : List Value} (hs : a.eval s = v) (hown : w.ownsRow base e size v n xs)
    {B : Nat} {A : Option Addr} {m c : Nat} {vs : List Value} (hx : a.eval x = .slice A m c) (hr : Vals w B A vs) (hl : vs.length = m * size) (h1 : ∀ u ∈ vs, u.oneCell' = true)
    (h63 : n + m ≤ maxLen) (hbytes : (n + m) * bytes ≤ 140737488355328) (hbase : base ≤ w.heap.size)
    (h : ∀ v' w', w'.ownsRow base e size v' (n + m) (xs ++ vs) → w.grownBy w' v.ownBlock → (v'.ownBlock = v.ownBlock ∨ v'.ownBlock = some w.heap.size) → R v' w') : gives P o a w R := by
  obtain ⟨v', w', hrun, h2, h3, h4⟩ := run_app (P := P) w base t o.type e i z size bytes ht hi hz hsize hby hzs hsz v n xs hown B A m c vs hr hl h1 h63 hbytes hbase
  unfold gives execOp
  simp only [ho, resolve, invoke, builtin, Sem.run_bind, Sem.run_pure, Result.andThen_ok, List.map_toArray, List.map_cons, List.map_nil, hs, hx, hrun]
  exact h v' w' h2 h3 h4
theorem own_block {base : Nat} {e : TypeId} {size n : Nat} {v : Value} {xs : List Value} (h : w.ownsRow base e size v n xs) {g : Nat} (hg : v.ownBlock = some g) : base ≤ g ∧ g < w.heap.size := by
  rcases h.2 with ⟨h0, _⟩ | ⟨g', cap', cur, hv, hb, hh, _⟩
  · subst h0; simp [Value.ownBlock] at hg
  · subst hv
    simp only [Value.ownBlock, Option.some.injEq] at hg
    subst hg
    exact ⟨hb, lt_of_heap hh⟩
end

structure Rw3 (W : World) (base : Nat) (v : Nat → Value) (xs : Nat → List (Int × Int)) : Prop where
  own : ∀ i, i < 3 → W.ownsRow base 50 2 (v i) (xs i).length ((xs i).flatMap sp2)
  ne : ∀ i j, i < 3 → j < 3 → i ≠ j → ∀ g, (v i).ownBlock = some g → (v j).ownBlock ≠ some g
theorem Rw3.grows {W W' : World} {base : Nat} {v : Nat → Value} {xs : Nat → List (Int × Int)} (h : Rw3 W base v xs) (hg : Grows W W') : Rw3 W' base v xs := ⟨fun i hi => own_grows (h.own i hi) hg, h.ne⟩
theorem Rw3.same {W W' : World} {base b : Nat} {v : Nat → Value} {xs : Nat → List (Int × Int)} (h : Rw3 W base v xs) (hP : Put W W' b) {cs : Array Value} {t : TypeId} {fr : Nat × Nat} (hb : W.heap[b]? = some (.cells cs t fr)) (ht : t ≠ 50) : Rw3 W' base v xs :=
  ⟨fun i hi => own_same (h.own i hi) fun k cur' fr' hk => hP.other k fun e' => by
    subst e'
    rw [hb] at hk
    simp only [Option.some.injEq, Obj.cells.injEq] at hk
    exact ht hk.2.1, h.ne⟩
def updV (v : Nat → Value) (k : Nat) (x : Value) : Nat → Value := fun i => if i = k then x else v i
def updX (xs : Nat → List (Int × Int)) (k : Nat) (z : Int × Int) : Nat → List (Int × Int) := fun i => if i = k then xs k ++ [z] else xs i
theorem Rw3.app {W W' : World} {base : Nat} {v : Nat → Value} {xs : Nat → List (Int × Int)} (h : Rw3 W base v xs) {k : Nat} (hk : k < 3) {z : Int × Int} {x : Value} (ho : W'.ownsRow base 50 2 x ((xs k).length + 1) ((xs k).flatMap sp2 ++ sp2 z)) (hg : W.grownBy W' (v k).ownBlock)
    (hx : x.ownBlock = (v k).ownBlock ∨ x.ownBlock = some W.heap.size) : Rw3 W' base (updV v k x) (updX xs k z) := by
  have hfar : ∀ j, j < 3 → j ≠ k → ∀ g, (v j).ownBlock = some g → x.ownBlock ≠ some g := fun j hj hjk g hgj e => by
    rcases hx with h1 | h1
    · rw [h1] at e
      exact h.ne j k hj hk hjk g hgj e
    · rw [h1] at e
      have := own_block (h.own j hj) hgj
      simp only [Option.some.injEq] at e
      omega
  refine ⟨fun i hi => ?_, fun i j hi hj hij g => ?_⟩
  · unfold updV updX
    by_cases e : i = k
    · subst e
      simp only [if_true, List.flatMap_append, flat1, List.length_append, List.length_cons, List.length_nil, Nat.zero_add]
      exact ho
    · simp only [if_neg e]
      exact (h.own i hi).kept hg (by
        cases hv : (v i).ownBlock with
        | none => exact .inl rfl
        | some g => exact .inr fun e' => h.ne i k hi hk e g hv e'.symm)
  · unfold updV
    by_cases e1 : i = k
    · subst e1
      simp only [if_true, if_neg (Ne.symm hij)]
      exact fun h1 h2 => hfar j hj (Ne.symm hij) g h2 h1
    · simp only [if_neg e1]
      by_cases e2 : j = k
      · subst e2
        simp only [if_true]
        exact fun h1 => hfar i hi e1 g h1
      · simp only [if_neg e2]
        exact h.ne i j hi hj hij g

def v3 (v : Nat → Value) : List Value := [v 0, v 1, v 2]
theorem v3_at (v : Nat → Value) {k : Nat} (hk : k < 3) : (v3 v).toArray[k]? = some (v k) := by
  have h3 : k = 0 ∨ k = 1 ∨ k = 2 := by omega
  rcases h3 with rfl | rfl | rfl <;> rfl
theorem v3_set (v : Nat → Value) {k : Nat} (hk : k < 3) (x : Value) : (v3 v).set k x = v3 (updV v k x) := by
  have h3 : k = 0 ∨ k = 1 ∨ k = 2 := by omega
  rcases h3 with rfl | rfl | rfl <;> rfl

structure TeC (w0 : World) (base b7 b9 : Nat) (v : Nat → Value) (xs : Nat → List (Int × Int)) (k : Nat) (z : Int × Int) (K : List (Nat × Obj)) (D : Nat → Bool) (σ : Nat → Value) (W : World) : Prop where
  bel : Below w0.heap.size w0 W
  hb : w0.heap.size ≤ base
  sz : base ≤ W.heap.size
  l7 : b7 < base ∧ w0.heap.size ≤ b7
  lk : ∀ e ∈ K, e.1 ≠ b7 ∧ (e.1 < base ∨ e.1 = b9)
  f9 : ∀ i, i < 3 → (v i).ownBlock ≠ some b9
  box : keptK K W
  rows : D 14 = false → Rw3 W base v xs
  rown : D 14 = true → Rw3 W base (updV v k (σ 38)) (updX xs k z) ∧ ∃ A n c, σ 38 = .slice A n c
  new : D 13 = true → D 14 = false → ∃ b, σ 37 = .slice (some ⟨b, 0, none⟩) 1 1 ∧ W.heap[b]? = some (.cells (sp2 z).toArray 50 (0, 0))
  b7o : D 16 = false → W.heap[b7]? = some (.cells (v3 v).toArray 219 (0, 0))
  b7n : D 16 = true → W.heap[b7]? = some (.cells (v3 (updV v k (σ 38))).toArray 219 (0, 0))
def teK (k : Nat) (d : Option Nat) : Bool := !(k == 13 || k == 14 || k == 16 || d == some 37 || d == some 38)
theorem keptK.grown {W W' : World} {row : Option Nat} (hg : W.grownBy W' row) : ∀ {K : List (Nat × Obj)}, (∀ e ∈ K, some e.1 ≠ row) → keptK K W → keptK K W'
  | [], _, _ => trivial
  | _ :: _, hne, h => ⟨(hg.block _ (lt_of_heap h.1) (hne _ (List.mem_cons_self ..))).trans h.1, keptK.grown hg (fun e he => hne e (List.mem_cons_of_mem _ he)) h.2⟩
section
variable {w0 W W' : World} {base b7 b9 : Nat} {v : Nat → Value} {xs : Nat → List (Int × Int)} {k : Nat} {z : Int × Int} {K : List (Nat × Obj)} {D : Nat → Bool} {σ : Nat → Value}
theorem TeC.move {j : Nat} {d : Option Nat} {u : Value} (h : TeC w0 base b7 b9 v xs k z K D σ W) (hk : teK j d = true) : TeC w0 base b7 b9 v xs k z K (done D j) (R4.upd σ d u) W := by
  simp only [teK, Bool.not_eq_true', Bool.or_eq_false_iff, beq_eq_false_iff_ne, ne_eq] at hk
  obtain ⟨⟨⟨⟨h1, h2⟩, h3⟩, d1⟩, d2⟩ := hk
  have e13 := done_ne (D := D) (k := j) (j := 13) (by omega)
  have e14 := done_ne (D := D) (k := j) (j := 14) (by omega)
  have e16 := done_ne (D := D) (k := j) (j := 16) (by omega)
  have u1 := upd_ne (ρ := σ) (v := u) d1
  have u2 := upd_ne (ρ := σ) (v := u) d2
  exact ⟨h.bel, h.hb, h.sz, h.l7, h.lk, h.f9, h.box, by rw [e14]; exact h.rows, by rw [e14, u2]; exact h.rown, by rw [e13, e14, u1]; exact h.new, by rw [e16]; exact h.b7o, by rw [e16, u2]; exact h.b7n⟩
theorem TeC.next (h : TeC w0 base b7 b9 v xs k z K D σ W) (hg : Grows W W') : TeC w0 base b7 b9 v xs k z K D σ W' :=
  ⟨h.bel.trans (hg.mono h.bel.size), h.hb, Nat.le_trans h.sz hg.size, h.l7, h.lk, h.f9, h.box.next hg, fun e => (h.rows e).grows hg, fun e => ⟨(h.rown e).1.grows hg, (h.rown e).2⟩,
   fun e e' => let ⟨b, h1, h2⟩ := h.new e e'; ⟨b, h1, (hg.block _ (lt_of_heap h2)).trans h2⟩,
   fun e => (hg.block _ (by have := h.l7; have := h.sz; omega)).trans (h.b7o e), fun e => (hg.block _ (by have := h.l7; have := h.sz; omega)).trans (h.b7n e)⟩
theorem TeC.made {cs : Array Value} (h : TeC w0 base b7 b9 v xs k z K D σ W) (hc : cs = (sp2 z).toArray) (h14 : D 14 = false) : TeC w0 base b7 b9 v xs k z K (done D 13) (R4.upd σ (some 37) (.slice (some ⟨W.heap.size, 0, none⟩) 1 1)) (W.alloc (.cells cs 50)) := by
  subst hc
  have h' := h.next (grow1 W (.cells (sp2 z).toArray 50))
  have e14 := done_ne (D := D) (k := 13) (j := 14) (by decide)
  have e16 := done_ne (D := D) (k := 13) (j := 16) (by decide)
  have u2 := upd_ne (ρ := σ) (d := some 37) (v := .slice (some ⟨W.heap.size, 0, none⟩) 1 1) (t := 38) (by decide)
  exact ⟨h'.bel, h'.hb, h'.sz, h'.l7, h'.lk, h'.f9, h'.box, by rw [e14]; exact h'.rows, (by rw [e14, h14]; intro e; cases e), fun _ _ => ⟨_, upd_me, alloc_at0 _ _⟩, by rw [e16]; exact h'.b7o, by rw [e16, u2]; exact h'.b7n⟩
theorem TeC.app (h : TeC w0 base b7 b9 v xs k z K D σ W) (hk : k < 3) (h14 : D 14 = false) (h16 : D 16 = false) {x : Value} (ho : W'.ownsRow base 50 2 x ((xs k).length + 1) ((xs k).flatMap sp2 ++ sp2 z)) (hg : W.grownBy W' (v k).ownBlock)
    (hx : x.ownBlock = (v k).ownBlock ∨ x.ownBlock = some W.heap.size) : TeC w0 base b7 b9 v xs k z K (done D 14) (R4.upd σ (some 38) x) W' := by
  have e16 := done_ne (D := D) (k := 14) (j := 16) (by decide)
  have hr := h.rows h14
  have hge : ∀ g, (v k).ownBlock = some g → base ≤ g := fun g e => (own_block (hr.own k hk) e).1
  have hl7 := h.l7
  refine ⟨h.bel.grown hg h.bel.size (fun g e => by have := hge g e; have := h.hb; omega), h.hb, Nat.le_trans h.sz hg.size, hl7, h.lk, h.f9, h.box.grown hg (fun e he e' => ?_), (fun e => by rw [done_me] at e; cases e), fun _ => ?_, (fun _ e => by rw [done_me] at e; cases e), ?_, ?_⟩
  · rcases (h.lk e he).2 with h1 | h1
    · have := hge e.1 e'.symm; omega
    · exact h.f9 k hk (by rw [← e', h1])
  · rw [upd_me]
    obtain ⟨A, c, hs⟩ := own_slice ho
    exact ⟨hr.app hk ho hg hx, A, _, c, hs⟩
  · rw [e16]
    exact fun e => (hg.block _ (by have := h.sz; omega) (fun e' => by have := hge b7 e'.symm; omega)).trans (h.b7o e)
  · rw [e16, h16]; intro e; cases e
theorem TeC.put (h : TeC w0 base b7 b9 v xs k z K D σ W) (h14 : D 14 = true) (h16 : D 16 = false) (hP : Put W W' b7) (hM : W'.heap[b7]? = some (.cells (v3 (updV v k (σ 38))).toArray 219 (0, 0))) : TeC w0 base b7 b9 v xs k z K (done D 16) σ W' := by
  have e14 := done_ne (D := D) (k := 16) (j := 14) (by decide)
  refine ⟨h.bel.trans (hP.below h.l7.2), h.hb, by rw [hP.size]; exact h.sz, h.l7, h.lk, h.f9, h.box.put hP (fun e he => (h.lk e he).1), ?_, ?_, ?_, (fun e => by rw [done_me] at e; cases e), fun _ => hM⟩
  · rw [e14, h14]; intro e; cases e
  · rw [e14]
    exact fun e => ⟨(h.rown e).1.same hP (h.b7o h16) (by decide), (h.rown e).2⟩
  · rw [e14, h14]; intro _ e; cases e
end

end Go.Proofs.YtpnnlmaipcjkmaaGreat

namespace Go.Proofs.YtpnnlmaipcjkmaaGreat
open Go.RowKit
open R6 (done done_ne done_me upd_ne upd_me)

attribute [local go_sem] gives

theorem rowSl3 : RowTy Tryz.prog 219 3 := ⟨⟨_, Tryz.underlying219, rfl⟩, by kernel_rfl⟩
theorem infoSpan5 : (Tryz.prog.info? 50).map (fun i => (i.zero, i.size, i.bytes)) = some (some (.agg #[.int .i64 0, .int .i64 0]), 2, 16) := by kernel_rfl
theorem idxS_0 (a b c : Value) (W : World) : (Instr.index 219 (.agg #[a, b, c]) (.int .i64 0)).run Tryz.prog W = .ok a W := by kernel_rfl
theorem idxS_1 (a b c : Value) (W : World) : (Instr.index 219 (.agg #[a, b, c]) (.int .i64 1)).run Tryz.prog W = .ok b W := by kernel_rfl
theorem idxS_2 (a b c : Value) (W : World) : (Instr.index 219 (.agg #[a, b, c]) (.int .i64 2)).run Tryz.prog W = .ok c W := by kernel_rfl
theorem idxS_any (v : Nat → Value) {k : Nat} (hk : k < 3) (W : World) : (Instr.index 219 (.agg (v3 v).toArray) (.int .i64 (k : Int))).run Tryz.prog W = .ok (v k) W := by
  have h3 : k = 0 ∨ k = 1 ∨ k = 2 := by omega
  rcases h3 with rfl | rfl | rfl
  · exact idxS_0 _ _ _ W
  · exact idxS_1 _ _ _ W
  · exact idxS_2 _ _ _ W

def okT (t : Ts) : Prop := (0 ≤ t.sec ∧ t.sec ≤ 2) ∧ (1 ≤ t.force ∧ t.force ≤ 1000000)
def okG (g : Gd) : Prop := ∀ k, k < 3 → 1 ≤ (st0 g k).1 ∧ (st0 g k).2 ≤ 200000
theorem saidL_step (p : Pol) (k : Nat) (ts : List Ts) (m : Nat) (hm : m < ts.length) : saidL p k (ts.take (m + 1)) = if ts[m].pole = p.id ∧ ts[m].sec = (k : Int) then saidL p k (ts.take m) ++ [says (ar p k) ts[m]] else saidL p k (ts.take m) := by
  unfold saidL
  rw [List.take_add_one, List.getElem?_eq_getElem hm, List.filter_append, List.map_append]
  by_cases h : ts[m].pole = p.id ∧ ts[m].sec = (k : Int)
  · rw [if_pos h]
    simp [h]
  · rw [if_neg h]
    have : (decide (ts[m].pole = p.id) && decide (ts[m].sec = (k : Int))) = false := by simpa using h
    simp [this]
def z6 : List Value := [.int .i64 0, .int .i64 0, .int .i64 0, .int .i64 0, .int .i64 0, .int .i64 0]
def K3 (n : Nat) (p : Pol) (g : Gd) : List (Nat × Obj) := [(n, .cells (pcl p).toArray 56), (n + 1, .cells (gcl g).toArray 53), (n + 1 + 1, .cells z6.toArray 128)]
def K4 (n : Nat) (p : Pol) (g : Gd) (b9 : Nat) (y : Ts) : List (Nat × Obj) := [(n, .cells (pcl p).toArray 56), (n + 1, .cells (gcl g).toArray 53), (n + 1 + 1, .cells z6.toArray 128), (b9, .cells (tcl y).toArray 58)]
theorem saidL_len (p : Pol) (k : Nat) (ts : List Ts) : (saidL p k ts).length ≤ ts.length := by
  unfold saidL
  rw [List.length_map]
  exact List.length_filter_le _ _

set_option maxRecDepth 100000 in
set_option maxHeartbeats 16000000 in
theorem grTested_any (p : Pol) (g : Gd) (ts : List Ts) (AT : Option Addr) (ct : Nat) (B : Nat) (w : World) (hB : B ≤ w.heap.size) (hz : Vals w B AT (ts.flatMap tcl)) (hl : ts.length ≤ 100000) (hs : okSecs p = true) (ht : ∀ t ∈ ts, okT t) (hg : okG g) :
    Calls Tryz.prog 96 #[.agg (pcl p).toArray, .agg (gcl g).toArray, .slice AT ts.length ct] w fun e w' => e = .returned (.agg (st6 fun k => own p g ts k).toArray) ∧ Below w.heap.size w w' := by
  obtain ⟨i0, hi, hz0, hz1, hz2⟩ := info_parts infoSpan5
  have HI := Lib.hid (And.intro hi (And.intro hz0 (And.intro hz1 hz2)))
  clear hi hz0 hz1 hz2
  obtain ⟨nf, hnf⟩ : ∃ nf : Nat → Int × Int, nf = fun k => own p g ts k := ⟨_, rfl⟩
  rw [← hnf]
  obtain ⟨w1, hw1⟩ : ∃ w1, (((w.alloc (.cells (pcl p).toArray 56)).alloc (.cells (gcl g).toArray 53)).alloc (.cells #[.int .i64 0, .int .i64 0, .int .i64 0, .int .i64 0, .int .i64 0, .int .i64 0] 128)).alloc (.cells #[.slice none 0 0, .slice none 0 0, .slice none 0 0] 219) = w1 := ⟨_, rfl⟩
  have hs1 : w1.heap.size = w.heap.size + 4 := by rw [← hw1]; simp
  have hb1 : Below w.heap.size w w1 := by rw [← hw1]; exact ((grow2 _ _ _).alloc (by simp; omega) _).alloc (by simp; omega) _
  have hk1 : keptK (K3 w.heap.size p g) w1 := by
    rw [← hw1]
    exact ⟨(Below.heap_alloc _ _ _ (by simp only [World.size_alloc]; omega)).trans (alloc3_at0 _ _ _ _), (Below.heap_alloc _ _ _ (by simp only [World.size_alloc]; omega)).trans (alloc3_at1 _ _ _ _), (Below.heap_alloc _ _ _ (by simp only [World.size_alloc]; omega)).trans (alloc3_at2 _ _ _ _), trivial⟩
  have hm7 : w1.heap[w.heap.size + 1 + 1 + 1]? = some (.cells (v3 fun _ => .slice none 0 0).toArray 219 (0, 0)) := by
    rw [← hw1]
    have := alloc_at0 (((w.alloc (.cells (pcl p).toArray 56)).alloc (.cells (gcl g).toArray 53)).alloc (.cells #[.int .i64 0, .int .i64 0, .int .i64 0, .int .i64 0, .int .i64 0, .int .i64 0] 128)) (.cells #[.slice none 0 0, .slice none 0 0, .slice none 0 0] 219)
    simp only [World.size_alloc] at this
    exact this
  have hr1 : Rw3 w1 (w.heap.size + 4) (fun _ => .slice none 0 0) (fun i => saidL p i (ts.take 0)) := ⟨fun i _ => ⟨by simp [saidL], .inl ⟨rfl, by simp [saidL]⟩⟩, fun i j _ _ _ gg e => by simp [Value.ownBlock] at e⟩
  have H1 := Lib.hid (And.intro hk1 (And.intro hb1 (And.intro hm7 (And.intro hr1 (show w.heap.size + 4 ≤ w1.heap.size by omega)))))
  have HN := Lib.hid (And.intro hnf hg)
  have HZ := Lib.hid (And.intro hz (And.intro hB ht))
  clear hk1 hb1 hm7 hr1 hnf hg hz ht hs1
  go_enter Tryz.func96, Tryz.ntmps96
  go_wp2
  go_loopg [15] ts.length (fun gn s15 wx => ∃ (m : Nat) (v : Nat → Value), m + gn = ts.length ∧ s15 = .int .i64 m ∧ Hid (keptK (K3 w.heap.size p g) wx ∧ Below w.heap.size w wx ∧ wx.heap[w.heap.size + 1 + 1 + 1]? = some (.cells (v3 v).toArray 219 (0, 0)) ∧ Rw3 wx (w.heap.size + 4) v (fun i => saidL p i (ts.take m)) ∧ w.heap.size + 4 ≤ wx.heap.size))
  case atStart => exact ⟨0, _, by omega, rfl, H1.out⟩
  case round =>
    obtain ⟨m, v, hmg, rfl, hM⟩ := hrel
    cases gk with
    | zero =>
      have hM' := hM.out
      obtain rfl : m = ts.length := by omega
      rw [List.take_length] at hM'
      obtain ⟨⟨-, q2, q3, -⟩, hbw, hb7, hr, hsz⟩ := hM'
      have hq2 : ∀ j v, (st6 (st0 g))[j]? = some v → (gcl g).toArray[2 + j]? = some v := fun j v hv => by
        have e : st6 (st0 g) = (gcl g).drop 2 := rfl
        rw [e, List.getElem?_drop] at hv
        rw [List.getElem?_toArray]
        exact hv
      have HM := Lib.hid (And.intro q2 (And.intro q3 (And.intro hbw (And.intro hb7 (And.intro hr (And.intro hsz hq2))))))
      clear q2 q3 hbw hb7 hr hsz hq2 hM
      go_wp2_with (first
        | (show wpList _ _ _ (Oper.mk (some 42) _ _ _ _ _ :: _) _ _
           refine wpList_load_blk 51 (.tmp 41) rfl rfl rfl HM.out.1 (st6 (st0 g)) HM.out.2.2.2.2.2.2 rowSpans3 ?_)
        | (show wpList _ _ _ (Oper.mk none (Op.store _ (Operand.tmp 10) (Operand.tmp 42)) _ _ _ _ :: _) _ _
           refine wpList_store_blk 128 (.tmp 10) (.tmp 42) rfl rfl rfl rfl rfl (alloc_at0 wr _) (Nat.le_of_ble_eq_true rfl) (st6_one _) rowStress ?_
           intro w5 hP5 hM5
           rw [splice_whole (by rfl), ← mixF_zero (st0 g) nf] at hM5
           have hb5 : Below wr.heap.size wr w5 := (grow1 wr _).trans (hP5.below (Nat.le_refl _))
           have H5 := Lib.hid (And.intro hM5 (And.intro ((hb5.block _ (lt_of_heap HM.out.2.1)).trans HM.out.2.1) (And.intro (HM.out.2.2.1.trans (hb5.mono HM.out.2.2.1.size)) (And.intro (HM.out.2.2.2.2.1.grows hb5) ((hb5.block _ (lt_of_heap HM.out.2.2.2.1)).trans HM.out.2.2.2.1)))))
           clear hP5 hM5 hb5)
        | (show wpList _ _ _ (Oper.mk (some 43) _ _ _ _ _ :: _) _ _
           refine wpList_load_blk 219 (.tmp 7) rfl rfl rfl H5.out.2.2.2.2 (v3 v) at0 rowSl3 ?_))
      have hwsz : w.heap.size + 1 + 1 < wr.heap.size := by have := HM.out.2.2.2.2.2.1; omega
      obtain ⟨wo, rfl⟩ : ∃ wo : World, wo = wr := ⟨_, rfl⟩
      go_loopg [44] 3 (fun gn s44 wx => ∃ k : Nat, k + gn = 3 ∧ s44 = .int .i64 k ∧ Hid (wx.heap[wo.heap.size]? = some (.cells (st6 (mixF (st0 g) nf k)).toArray 128 (0, 0)) ∧ wx.heap[w.heap.size + 1 + 1]? = some (.cells z6.toArray 128 (0, 0)) ∧ Below w.heap.size w wx ∧ Rw3 wx (w.heap.size + 4) v (fun i => saidL p i ts)))
      case atStart => exact ⟨0, by omega, rfl, H5.out.1, H5.out.2.1, H5.out.2.2.1, H5.out.2.2.2.1⟩
      case round =>
        obtain ⟨k, hkg, rfl, hJ⟩ := hrel
        cases gk with
        | zero =>
          have hJ' := hJ.out
          obtain rfl : k = 3 := by omega
          rw [mixF_all] at hJ'
          have HJ := Lib.hid hJ'
          clear hJ'
          go_wp2_with (first
            | (show wpList _ _ _ (Oper.mk (some 56) _ _ _ _ _ :: _) _ _
               refine wpList_load_blk 128 (.tmp 10) rfl rfl rfl HJ.out.1 (st6 nf) at0 rowStress ?_)
            | (show wpList _ _ _ (Oper.mk none (Op.store _ (Operand.tmp 6) (Operand.tmp 56)) _ _ _ _ :: _) _ _
               refine wpList_store_blk 128 (.tmp 6) (.tmp 56) rfl rfl rfl rfl rfl HJ.out.2.1 (Nat.le_of_ble_eq_true rfl) (st6_one _) rowStress ?_
               intro w7 hP7 hM7
               rw [splice_whole (by rfl)] at hM7
               have H7 := Lib.hid (And.intro hM7 (HJ.out.2.2.1.trans (hP7.below (by omega))))
               clear hP7 hM7))
          exact bodyPost_ret (results_cell1 Tryz.results96 rfl H7.out.1 rowStress) rfl ⟨rfl, H7.out.2⟩
        | succ gn =>
          have hk : k < 3 := by omega
          have hkz : (k : Int) < 3 := by omega
          have hk0 : (0 : Int) ≤ k := by omega
          have hown := hJ.out.2.2.2.own k hk
          obtain ⟨A, cc, hvk⟩ := own_slice hown
          rw [hvk] at hown
          have hidx := fun W => idxS_any v hk W
          rw [hvk] at hidx
          have hats := st6_at (mixF (st0 g) nf k) hk
          rw [mixF_at] at hats
          have hsp := st6_set (mixF (st0 g) nf k) hk (nf k)
          rw [mixF_set] at hsp
          have hcs : cutL (st0 g k) (saidL p k ts) = nf k := by
            have := HN.out.2 k hk
            rw [HN.out.1, cut_said p k ts _ this.1 this.2]
            rfl
          have hlen := saidL_len p k ts
          have HK := Lib.hid (And.intro hown (And.intro hats (And.intro hsp (And.intro hcs hlen))))
          clear hown hats hsp hcs hlen hvk
          go_wp2_with (first
            | (show wpList _ _ _ (Oper.mk (some 51) _ _ _ _ _ :: _) _ _
               refine wpList_load_blk 50 (.tmp 50) rfl rfl rfl hJ.out.1 (sp2 (st0 g k)) HK.out.2.1 rowSpan5 ?_)
            | (go_at_call 140
               refine (grCut_any (st0 g k) A cc (saidL p k ts) _ wr (Nat.le_refl _) (Vals.own HK.out.1) (by have := HK.out.2.2.2.2; omega)).mono ?_
               rintro e w8 ⟨rfl, hB8⟩
               rw [HK.out.2.2.2.1]
               have H8 := Lib.hid (And.intro ((hB8.block _ (lt_of_heap hJ.out.1)).trans hJ.out.1) (And.intro ((hB8.block _ (lt_of_heap hJ.out.2.1)).trans hJ.out.2.1) (And.intro (hJ.out.2.2.1.trans (hB8.mono hJ.out.2.2.1.size)) (hJ.out.2.2.2.grows hB8))))
               clear hB8)
            | (show wpList _ _ _ (Oper.mk none (Op.store _ (Operand.tmp 54) (Operand.tmp 53)) _ _ _ _ :: _) _ _
               refine wpList_store_blk 50 (.tmp 54) (.tmp 53) rfl rfl rfl rfl rfl H8.out.1 (by rw [st6_len]; show k * 2 + 2 ≤ 6; omega) (sp2_one _) rowSpan5 ?_
               intro w9 hP9 hM9
               rw [HK.out.2.2.1] at hM9
               have H9 := Lib.hid (And.intro hM9 (And.intro ((hP9.other _ (by omega)).trans H8.out.2.1) (And.intro (H8.out.2.2.1.trans (hP9.below (by omega))) (H8.out.2.2.2.same hP9 H8.out.1 (by decide)))))
               clear hP9 hM9))
          go_roundg gn
          case measure => omega
          case rel => exact ⟨k + 1, by omega, by go_num, H9.out⟩
    | succ gn =>
      have hm : m < ts.length := by omega
      have hmz : (m : Int) < ts.length := by omega
      obtain ⟨c, off, hA, hcB, hc⟩ := vals_elem tcl_len HZ.out.1 (by decide) hm
      subst hA
      have hc' : ∀ j v, (tcl ts[m])[j]? = some v → wr.cell? ⟨c, off + m * 5 + j, none⟩ = some v := fun j v hv => (hM.out.2.1.cell (p := ⟨c, off + m * 5 + j, none⟩) (by have := HZ.out.2.1; simp; omega)).trans (hc j v hv)
      have hy := HZ.out.2.2 ts[m] (List.getElem_mem hm)
      have hst := fun k => saidL_step p k ts m hm
      generalize ts[m] = y at hc' hy hst
      have HCC := Lib.hid hc'
      have HST := Lib.hid hst
      have HY := Lib.hid hy
      clear hc hc' hst hy
      by_cases he : y.pole = p.id
      · obtain ⟨k, hks⟩ : ∃ k : Nat, y.sec = (k : Int) := ⟨y.sec.toNat, by have := HY.out.1; omega⟩
        have hk : k < 3 := by have := HY.out.1; omega
        have hkz : (k : Int) < 3 := by omega
        have hk0 : (0 : Int) ≤ k := by omega
        have har := ar_pos hs k
        obtain ⟨z, hzz⟩ : ∃ z, z = says (ar p k) y := ⟨_, rfl⟩
        have HX := Lib.hid (And.intro hks (And.intro har (And.intro hzz he)))
        have f9 : ∀ i, i < 3 → (v i).ownBlock ≠ some wr.heap.size := fun i hi e => by
          have := own_block (hM.out.2.2.2.1.own i hi) e
          omega
        have hlen := saidL_len p k (ts.take m)
        rw [List.length_take] at hlen
        have HL := Lib.hid hlen
        have F9 := Lib.hid f9
        clear hks har hzz f9 hlen
        go_wp2_with (first
          | (show wpList _ _ _ (Oper.mk (some 18) _ _ _ _ _ :: _) _ _
             refine wpList_load_at 58 (.tmp 17) rfl rfl rfl (tcl y) HCC.out rowTest ?_)
          | (show wpList _ _ _ (Oper.mk none (Op.store _ (Operand.tmp 9) (Operand.tmp 18)) _ _ _ _ :: _) _ _
             refine wpList_store_blk 58 (.tmp 9) (.tmp 18) rfl rfl rfl rfl rfl (alloc_at0 wr _) (Nat.le_of_ble_eq_true rfl) (fun v hv => tcl_one [y] v (by simpa using hv)) rowTest ?_
             intro w5 hP5 hM5
             rw [splice_whole (by rfl)] at hM5
             have hb5 : Below wr.heap.size wr w5 := (grow1 wr _).trans (hP5.below (Nat.le_refl _))
             have hk5 := hM.out.1.next hb5
             have f1 : w5.cell? ⟨wr.heap.size, 1, none⟩ = some (.int .i64 y.pole) := cell_of_row w5 _ 1 _ _ _ hM5
             have f0 : w5.cell? ⟨w.heap.size, 0, none⟩ = some (.int .i64 p.id) := cell_of_row w5 _ 0 _ _ _ hk5.1
             have H5 := Lib.hid (And.intro hb5 (And.intro hk5 hM5))
             clear hP5 hM5 hb5 hk5))
        clear f0 f1 he
        refine R6.wp_walk (C := TeC w (w.heap.size + 4) (w.heap.size + 1 + 1 + 1) wr.heap.size v (fun i => saidL p i (ts.take m)) k z (K4 w.heap.size p g wr.heap.size y)) 57 (by kernel_rfl) (by kernel_rfl) rfl ?start ?_
        case start =>
          obtain ⟨q1, q2, q3, -⟩ := H5.out.2.1
          refine ⟨(hM.out.2.1.trans (H5.out.1.mono hM.out.2.1.size)).drew, by omega, Nat.le_trans hM.out.2.2.2.2 H5.out.1.size, by omega, ?_, F9.out, ⟨q1, q2, q3, H5.out.2.2, trivial⟩, fun _ => hM.out.2.2.2.1.grows H5.out.1.drew, (fun e => by cases e), (fun e => by cases e), fun _ => (H5.out.1.block _ (lt_of_heap hM.out.2.2.1)).trans hM.out.2.2.1, (fun e => by cases e)⟩
          intro e he
          have := hM.out.2.2.2.2
          simp only [K4, List.mem_cons, List.not_mem_nil, or_false] at he
          rcases he with rfl | rfl | rfl | rfl <;> (dsimp only; omega)
        simp only []
        repeat (first
          | (refine' R6.WalkR.det (fun _ => rfl) (fun D ρ W hK hC => ?_) ?_
             rotate_left
             · have f2 : W.cell? ⟨wr.heap.size, 2, none⟩ = some (.int .i64 (k : Int)) := by rw [← HX.out.1]; exact cell_of_row W _ 2 _ _ _ hC.box.2.2.2.1
               have f7 := (cell_of_row W _ k _ _ _ (hC.b7o (hK.post 16 (by decide +kernel)))).trans (v3_at v hk)
               have HC := Lib.hid hC
               clear hC hK
               go_simp
               first
                 | with_reducible exact ⟨rfl, HC.out.move (by decide)⟩
                 | fail
             simp only [Act.put, List.setIfInBounds_toArray, List.set_cons_succ, List.set_cons_zero]))
        refine' R6.WalkR.det (fun _ => rfl) (fun D ρ W hK hC => ?_) ?_
        rotate_left
        · exact gives_load_blk 58 (.tmp 9) rfl rfl hC.box.2.2.2.1 (tcl y) at0 rowTest ⟨rfl, hC.move (by decide)⟩
        simp only [Act.put, List.setIfInBounds_toArray, List.set_cons_succ, List.set_cons_zero]
        repeat (first
          | (refine' R6.WalkR.det (fun _ => rfl) (fun D ρ W hK hC => ?_) ?_
             rotate_left
             · skip
               have HC := Lib.hid hC
               clear hC hK
               go_simp
               first
                 | with_reducible exact ⟨rfl, HC.out.move (by decide)⟩
                 | (go_at_call 138; refine (grTrialOf_any y W).mono ?_; rintro e W1 ⟨rfl, hB1⟩; exact ⟨_, rfl, rfl, (HC.out.next hB1).move (by decide)⟩)
             simp only [Act.put, List.setIfInBounds_toArray, List.set_cons_succ, List.set_cons_zero]))
        refine' R6.WalkR.det (fun _ => rfl) (fun D ρ W hK hC => ?_) ?_
        rotate_left
        · exact gives_load_blk 56 (.tmp 3) rfl rfl hC.box.1 (pcl p) at0 rowPole ⟨rfl, hC.move (by decide)⟩
        simp only [Act.put, List.setIfInBounds_toArray, List.set_cons_succ, List.set_cons_zero]
        repeat (first
          | (refine' R6.WalkR.det (fun _ => rfl) (fun D ρ W hK hC => ?_) ?_
             rotate_left
             · have f2 : W.cell? ⟨wr.heap.size, 2, none⟩ = some (.int .i64 (k : Int)) := by rw [← HX.out.1]; exact cell_of_row W _ 2 _ _ _ hC.box.2.2.2.1
               have HC := Lib.hid hC
               clear hC hK
               go_simp
               first
                 | with_reducible exact ⟨rfl, HC.out.move (by decide)⟩
                 | (go_at_call 59; refine (grArea_any p k hk hs W).mono ?_; rintro e W1 ⟨rfl, hB1⟩; exact ⟨_, rfl, rfl, (HC.out.next hB1).move (by decide)⟩)
                 | (go_at_call 139; refine (grSays_any y (ar p k) HX.out.2.1.1 HX.out.2.1.2 HY.out.2.1 HY.out.2.2 W).mono ?_; rintro e W1 ⟨rfl, hB1⟩; rw [← HX.out.2.2.1]; exact ⟨_, rfl, rfl, (HC.out.next hB1).move (by decide)⟩)
             simp only [Act.put, List.setIfInBounds_toArray, List.set_cons_succ, List.set_cons_zero]))
        obtain ⟨z1, z2⟩ := z
        refine' R6.WalkR.nd (fun _ => rfl) rfl (fun D ρ W hK hC => ?_) ?_
        · have HC := Lib.hid hC
          have h14 := hK.post 14 (by decide +kernel)
          clear hC hK
          unfold sp2
          go_simp
          exact HC.out.made rfl h14
        simp only [Act.put, List.setIfInBounds_toArray, List.set_cons_succ, List.set_cons_zero]
        refine' R6.WalkR.nd (fun _ => rfl) rfl (fun D ρ W hK hC => ?_) ?_
        · have h14 := hK.me
          have h16 := hK.post 16 (by decide +kernel)
          obtain ⟨b, hv, hm⟩ := hC.new (hK.pre 13 (by decide +kernel)) h14
          have hr := hC.rows h14
          have hvv := vals_new hm (lt_of_heap hm)
          refine gives_app2 (.tmp 29) (.tmp 37) 218 rfl (w.heap.size + 4) 50 i0 _ 2 16 Tryz.underlying218 HI.out.1 HI.out.2.1 HI.out.2.2.1 HI.out.2.2.2 rfl (by decide) rfl (hr.own k hk) hv hvv rfl (sp2_one _) (by have := HL.out; simp only [maxLen]; omega) (by have := HL.out; omega) hC.sz ?_
          intro v' W' ho hgr hx
          exact hC.app hk h14 h16 ho hgr hx
        simp only [Act.put, List.setIfInBounds_toArray, List.set_cons_succ, List.set_cons_zero]
        repeat (first
          | (refine' R6.WalkR.det (fun _ => rfl) (fun D ρ W hK hC => ?_) ?_
             rotate_left
             · skip
               have HC := Lib.hid hC
               clear hC hK
               go_simp
               first
                 | with_reducible exact ⟨rfl, HC.out.move (by decide)⟩
                 | fail
             simp only [Act.put, List.setIfInBounds_toArray, List.set_cons_succ, List.set_cons_zero]))
        refine' R6.WalkR.det (c := undef) (fun _ => rfl) (fun D ρ W hK hC => ?_) ?_
        · have h14 := hK.pre 14 (by decide +kernel)
          obtain ⟨hr, A, n, cc, hsl⟩ := hC.rown h14
          refine gives_store_val 218 (.tmp 39) (.tmp 38) rfl rfl (v := .slice A n cc) hsl rfl rfl (hC.b7o hK.me) (by show k < 3; exact hk) (by kernel_rfl) ?_
          intro W' hP hM'
          rw [v3_set v hk, ← hsl] at hM'
          exact ⟨rfl, by rw [upd_none]; exact hC.put h14 hK.me hP hM'⟩
        simp only [Act.put, List.setIfInBounds_toArray, List.set_cons_succ, List.set_cons_zero]
        refine R6.WalkR.nil (fun D ρ W hD hC => ?_)
        obtain ⟨q1, q2, q3, -⟩ := hC.box
        have HB := Lib.hid (And.intro (show keptK (K3 w.heap.size p g) W from ⟨q1, q2, q3, trivial⟩) (And.intro hC.bel (And.intro (hC.b7n (hD 16 (by omega))) (And.intro (hC.rown (hD 14 (by omega))).1 hC.sz))))
        clear hC hD q1 q2 q3
        go_wp2
        go_roundg gn
        case measure => omega
        case rel =>
          refine ⟨m + 1, _, by omega, by go_num, HB.out.1, HB.out.2.1, HB.out.2.2.1, ?_, HB.out.2.2.2.2⟩
          have e : (fun i => saidL p i (ts.take (m + 1))) = updX (fun i => saidL p i (ts.take m)) k (z1, z2) := by
            funext i
            unfold updX
            rw [HST.out i, HX.out.1]
            by_cases hi : i = k
            · subst hi
              rw [if_pos ⟨HX.out.2.2.2, rfl⟩, if_pos rfl, ← HX.out.2.2.1]
            · rw [if_neg (fun h => hi (by have := h.2; omega)), if_neg hi]
          rw [e]
          exact HB.out.2.2.2.1
      · go_wp2_with (first
          | (show wpList _ _ _ (Oper.mk (some 18) _ _ _ _ _ :: _) _ _
             refine wpList_load_at 58 (.tmp 17) rfl rfl rfl (tcl y) HCC.out rowTest ?_)
          | (show wpList _ _ _ (Oper.mk none (Op.store _ (Operand.tmp 9) (Operand.tmp 18)) _ _ _ _ :: _) _ _
             refine wpList_store_blk 58 (.tmp 9) (.tmp 18) rfl rfl rfl rfl rfl (alloc_at0 wr _) (Nat.le_of_ble_eq_true rfl) (fun v hv => tcl_one [y] v (by simpa using hv)) rowTest ?_
             intro w5 hP5 hM5
             rw [splice_whole (by rfl)] at hM5
             have hb5 : Below wr.heap.size wr w5 := (grow1 wr _).trans (hP5.below (Nat.le_refl _))
             have hk5 := hM.out.1.next hb5
             have f1 : w5.cell? ⟨wr.heap.size, 1, none⟩ = some (.int .i64 y.pole) := cell_of_row w5 _ 1 _ _ _ hM5
             have f0 : w5.cell? ⟨w.heap.size, 0, none⟩ = some (.int .i64 p.id) := cell_of_row w5 _ 0 _ _ _ hk5.1
             have H5 := Lib.hid (And.intro hb5 hk5)
             clear hP5 hM5 hb5 hk5))
        go_roundg gn
        case measure => omega
        case rel =>
          refine ⟨m + 1, v, by omega, by go_num, H5.out.2, hM.out.2.1.trans (H5.out.1.mono hM.out.2.1.size), (H5.out.1.block _ (lt_of_heap hM.out.2.2.1)).trans hM.out.2.2.1, ?_, Nat.le_trans hM.out.2.2.2.2 H5.out.1.size⟩
          have e : (fun i => saidL p i (ts.take (m + 1))) = fun i => saidL p i (ts.take m) := by
            funext i
            rw [HST.out i, if_neg (fun h => he h.1)]
          rw [e]
          exact hM.out.2.2.2.1.grows H5.out.1

end Go.Proofs.YtpnnlmaipcjkmaaGreat
