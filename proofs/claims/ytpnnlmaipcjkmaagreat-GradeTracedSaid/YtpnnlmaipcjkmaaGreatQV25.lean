/-
  What the books of groves tell of poles (the program's traced).
-/
import Derived.Test.YtpnnlmaipcjkmaaGreatQV19
import Derived.Test.YtpnnlmaipcjkmaaGreatQV24
set_option linter.all false
namespace Go.Proofs.YtpnnlmaipcjkmaaGreat
open Go.RowKit Go.Maps
open R6 (done done_ne done_me upd_ne upd_me)

attribute [local go_sem] gives

def TracePost (w : World) (L : List Int) (e : Ending) (w' : World) : Prop := ∃ A c, e = .returned (.slice A L.length c) ∧ OwnU w' w.heap.size (.slice A L.length c) L ∧ Below w.heap.size w w'
theorem gives_estore {P : Program} {op : Oper} {a : Act} {w : World} {R : Value → World → Prop} {t : TypeId} (m s x : Operand) (ho : op.op = .entryStore t m s x) {vm vs vx : Value} (hm : a.eval m = vm) (hs : a.eval s = vs) (hx : a.eval x = vx) {w' : World} (hr : (Instr.entryStore t vm vs vx).run P w = .ok () w') (h : R undef w') : gives P op a w R := by
  unfold gives execOp
  simp only [ho, hm, hs, hx, Sem.run_bind, hr, Result.andThen_ok]
  exact h
structure TrM (w : World) (F : Og → Int) (n : Nat) (W : World) : Prop where
  bel : Below w.heap.size w W
  map : OwnO W w.heap.size n F
  lt : w.heap.size < W.heap.size
theorem TrM.below {w W W' : World} {F : Og → Int} {n : Nat} (h : TrM w F n W) {b : Nat} (hb : Below b W W') (hlt : w.heap.size < b) : TrM w F n W' :=
  ⟨h.bel.trans (below_low5 hb (by omega)), h.map.block (hb.block _ hlt), Nat.lt_of_lt_of_le h.lt hb.size⟩
theorem TrM.grows {w W W' : World} {F : Og → Int} {n : Nat} (h : TrM w F n W) (hb : Grows W W') : TrM w F n W' := h.below hb h.lt

set_option maxRecDepth 100000 in
set_option maxHeartbeats 16000000 in
theorem gtTraced_any (l : List Gv) (ps : List Pol) (AP : Option Addr) (cp : Nat) (AG : Option Addr) (cg : Nat) (B : Nat) (w : World) (hB : B ≤ w.heap.size) (hz : Vals w B AP (ps.flatMap pcl)) (hg : GvsAt w B l AG) (hl : l.length ≤ 1000000) (hp : ps.length ≤ 1000) (hpo : ∀ p ∈ ps, ogOk (orgP p)) :
    Calls Tryz.prog 45 #[.slice AP ps.length cp, .slice AG l.length cg] w (TracePost w (traceL l ps)) := by
  obtain ⟨i0, hi, hz0, hz1, hz2⟩ := info_parts infoU8
  have hmu := fun W => run_make_u8 (P := Tryz.prog) 34 5 i0 Tryz.underlying34 hi hz0 hz1 hz2 ps.length (by omega) W
  have hcu := fun (o : Og) (W : World) (hW : Below w.heap.size w W) => gtCulms_any l o AG cg B W (Nat.le_trans hB hW.size) (hg.below (hW.mono hB)) hl
  have hpe := fun (j : Nat) (hj : j < ps.length) => vals_elem pcl_len hz (by decide) hj
  obtain ⟨w1, hw1⟩ : ∃ w1, w.alloc (.map #[] 0) = w1 := ⟨_, rfl⟩
  have g1 : Below w.heap.size w w1 := by rw [← hw1]; exact grow1 _ _
  have hs1 : w1.heap.size = w.heap.size + 1 := by rw [← hw1]; simp
  have m1 : w1.heap[w.heap.size]? = some (.map #[] 0) := by rw [← hw1]; exact alloc_at0 _ _
  have hmk : ∀ (t : TypeId), (Instr.makeMap t none).run Tryz.prog w = .ok (.map (some w.heap.size)) w1 := fun t => by
    have := @run_makeMap Tryz.prog
    rw [← hw1]
    simp [this]
  have hT0 : TrM w (cntF []) 0 w1 := ⟨g1, by rw [cntF_zero]; exact OwnO.made m1, by omega⟩
  have HT0 := Lib.hid hT0
  have HPE := Lib.hid hpe
  have HCU := Lib.hid hcu
  have HPO := Lib.hid hpo
  have HMU := Lib.hid hmu
  clear hmu hcu hpe hz hg hl hpo g1 hs1 m1 hT0 hw1 hi hz0 hz1 hz2
  unfold TracePost
  go_enter Tryz.func45, Tryz.ntmps45
  go_wp2
  clear hmk
  go_loopg [16] ps.length (fun gn s16 wx => ∃ m : Nat, m + gn = ps.length ∧ s16 = .int .i64 m ∧ Hid (TrM w (cntF (ps.take m)) m wx))
  case atStart => exact ⟨0, by omega, rfl, HT0.out⟩
  case round =>
    obtain ⟨m, hmg, rfl, hT⟩ := hrel
    cases gk with
    | succ gn =>
      have hm : m < ps.length := by omega
      have hmz : (m : Int) < ps.length := by omega
      obtain ⟨c, off, hA, hcB, hc⟩ := HPE.out m hm
      subst hA
      have hc' : ∀ j v, (pcl ps[m])[j]? = some v → wr.cell? ⟨c, off + m * 12 + j, none⟩ = some v := fun j v hv => (hT.out.bel.cell (p := ⟨c, off + m * 12 + j, none⟩) (by simp; omega)).trans (hc j v hv)
      have hst := cntF_step ps m hm
      have hok := HPO.out _ (List.getElem_mem hm)
      have hcl : cntF (ps.take m) (orgP ps[m]) ≤ 1000 ∧ 0 ≤ cntF (ps.take m) (orgP ps[m]) := by
        have := cntO_le (ps.take m) (orgP ps[m])
        unfold cntF
        simp only [List.length_take] at this
        omega
      generalize ps[m] = y at hc' hst hok hcl
      have hT' := hT.out
      generalize cntF (ps.take m) = F at hT' hst hcl
      have HT := Lib.hid hT'
      have HST := Lib.hid hst
      have HCC := Lib.hid hc'
      have HOK := Lib.hid hok
      clear hc hc' hst hok hT hT'
      have hor := fun W => gtOrigin_any y W
      generalize orgP y = o at hor HST HOK hcl
      have HOR := Lib.hid hor
      obtain ⟨x, hx⟩ : ∃ x, F o = x := ⟨_, rfl⟩
      rw [hx] at hcl HST
      have hwr : IntKind.i64.wrap (x + 1) = x + 1 := IntWalk.i64_in _ (by omega)
      have HX := Lib.hid hx
      have HWR := Lib.hid hwr
      clear hor hx hwr
      go_wp2_with (first
        | (show wpList _ _ _ (Oper.mk (some 19) _ _ _ _ _ :: _) _ _
           refine wpList_load_at 56 (.tmp 18) rfl rfl rfl (pcl y) HCC.out rowPole ?_)
        | (show wpList _ _ _ (Oper.mk none (Op.store _ (Operand.tmp 7) (Operand.tmp 19)) _ _ _ _ :: _) _ _
           refine wpList_store_blk 56 (.tmp 7) (.tmp 19) (cs := pcl y) rfl rfl rfl rfl rfl (alloc_at0 wr _) (Nat.le_of_ble_eq_true rfl) (fun v hv => pcl_one [y] v (by simpa using hv)) rowPole ?_
           intro w5 hP5 hM5
           rw [splice_whole (by rfl)] at hM5
           have H5 := Lib.hid (And.intro (HT.out.grows ((grow1 wr _).trans (hP5.below (Nat.le_refl _)))) hM5)
           clear hP5 hM5))
      refine R6.wp_walk (C := EnC w5 w.heap.size m F o (x + 1) [(wr.heap.size, .cells (pcl y).toArray 56)]) 63 (by kernel_rfl) (by kernel_rfl) rfl
        ⟨fun _ => ⟨(Below.refl _ _).drew, ⟨H5.out.2, trivial⟩⟩, (fun e => by cases e), (fun e => by cases e)⟩ ?_
      simp only []
      refine' R6.WalkR.det (fun _ => rfl) (fun D ρ W hK hC => ?_) ?_
      rotate_left
      · have HC := Lib.hid hC
        clear hC hK
        go_simp
        with_reducible exact ⟨rfl, HC.out.move (by decide)⟩
      simp only [Act.put, List.setIfInBounds_toArray, List.set_cons_succ, List.set_cons_zero]
      refine' R6.WalkR.det (fun _ => rfl) (fun D ρ W hK hC => ?_) ?_
      rotate_left
      · exact gives_load_blk 56 (.tmp 7) rfl rfl (hC.pre (hK.post 5 (by decide +kernel))).2.1 (pcl y) at0 rowPole ⟨rfl, hC.move (by decide)⟩
      simp only [Act.put, List.setIfInBounds_toArray, List.set_cons_succ, List.set_cons_zero]
      refine' R6.WalkR.det (fun _ => rfl) (fun D ρ W hK hC => ?_) ?_
      rotate_left
      · have h5 := hK.post 5 (by decide +kernel)
        have h7 := hK.post 7 (by decide +kernel)
        have HC := Lib.hid (And.intro hC (And.intro h5 h7))
        clear hC hK h5 h7
        go_simp
        go_at_call 79
        refine (HOR.out W).mono ?_
        rintro e W1 ⟨rfl, hB1⟩
        exact ⟨_, rfl, rfl, HC.out.1.next HC.out.2.1 HC.out.2.2 hB1 (by decide)⟩
      simp only [Act.put, List.setIfInBounds_toArray, List.set_cons_succ, List.set_cons_zero]
      refine' R6.WalkR.det (fun _ => rfl) (fun D ρ W hK hC => ?_) ?_
      rotate_left
      · obtain ⟨mm, hO⟩ := hC.look (hK.post 7 (by decide +kernel)) H5.out.1.map
        refine gives_lookO (.tmp 20) (.tmp 22) rfl rfl hO HOK.out rfl ?_
        rw [HX.out]
        exact ⟨rfl, hC.move (by decide)⟩
      simp only [Act.put, List.setIfInBounds_toArray, List.set_cons_succ, List.set_cons_zero]
      refine' R6.WalkR.det (fun _ => rfl) (fun D ρ W hK hC => ?_) ?_
      rotate_left
      · have hw := HWR.out
        have HC := Lib.hid hC
        clear hC hK
        go_simp
        with_reducible exact ⟨rfl, HC.out.move (by decide)⟩
      simp only [Act.put, List.setIfInBounds_toArray, List.set_cons_succ, List.set_cons_zero]
      refine' R6.WalkR.nd (fun _ => rfl) rfl (fun D ρ W hK hC => ?_) ?_
      · have h5 := hK.me
        have hb := (hC.pre h5).1
        have hO : OwnO W w.heap.size m F := H5.out.1.map.block (hb.block _ H5.out.1.lt)
        refine gives_entry (.tmp 20) (.tmp 22) rfl rfl hO (by simp only [maxLen]; omega) HOK.out rfl (x + 1) ?_
        intro v0 st W1 W2 hE
        exact hC.entry h5 (hK.post 6 (by decide +kernel)) (hK.post 7 (by decide +kernel)) hE
      simp only [Act.put, List.setIfInBounds_toArray, List.set_cons_succ, List.set_cons_zero]
      refine' R6.WalkR.nd (fun _ => rfl) rfl (fun D ρ W hK hC => ?_) ?_
      · have h5 := hK.pre 5 (by decide +kernel)
        have h7 := hK.post 7 (by decide +kernel)
        obtain ⟨W0, v0, st, W', hb, hE, hv, -⟩ := hC.mid h5 h7
        have HC := Lib.hid (hC.ext h7 hb hE hv)
        have hv' : _ = Value.tuple #[v0, goInt st] := hv
        clear hC hK hv h5 h7 hE
        go_simp
        exact HC.out
      simp only [Act.put, List.setIfInBounds_toArray, List.set_cons_succ, List.set_cons_zero]
      refine' R6.WalkR.det (c := undef) (fun _ => rfl) (fun D ρ W hK hC => ?_) ?_
      · have h5 := hK.pre 5 (by decide +kernel)
        obtain ⟨W0, v0, st, W', hb, hE, -, hv⟩ := hC.mid h5 hK.me
        have hv := hv (hK.pre 6 (by decide +kernel))
        have hs := hE.store
        have hf := EnC.fin (K := [(wr.heap.size, .cells (pcl y).toArray 56)]) (σ := ρ) h5 hb hE
        refine gives_estore (.tmp 20) (.tmp 26) (.tmp 24) rfl rfl hv rfl hs ⟨rfl, hf⟩
      simp only [Act.put, List.setIfInBounds_toArray, List.set_cons_succ, List.set_cons_zero]
      refine R6.WalkR.nil (fun D ρ W9 hD hC => ?_)
      obtain ⟨W0, hb, hgr, hO⟩ := hC.post (hD 7 (by omega))
      have h9 : TrM w (cntF (ps.take (m + 1))) (m + 1) W9 := ⟨(H5.out.1.bel.trans (below_low5 hb (Nat.le_of_lt H5.out.1.lt))).grown hgr (Nat.le_trans H5.out.1.bel.size hb.size) (fun q e => by cases e; exact Nat.le_refl _), by rw [HST.out]; exact hO, Nat.lt_of_lt_of_le H5.out.1.lt (Nat.le_trans hb.size hgr.size)⟩
      have H9 := Lib.hid h9
      clear hC hD hb hgr hO h9
      go_wp2
      go_roundg gn
      case measure => omega
      case rel => exact ⟨m + 1, by omega, by go_num, H9.out⟩
    | zero =>
      obtain rfl : m = ps.length := by omega
      have hT1 := hT.out
      rw [List.take_length] at hT1
      obtain ⟨Z, hZ⟩ : ∃ Z, Z = traceL l ps := ⟨_, rfl⟩
      have hZl : Z.length = ps.length := by rw [hZ]; simp [traceL]
      obtain ⟨w7, hw7⟩ : ∃ w7, wr.alloc (.cells (u8s (List.replicate ps.length 0)).toArray 5) = w7 := ⟨_, rfl⟩
      have hb7 : Below wr.heap.size wr w7 := by rw [← hw7]; exact grow1 _ _
      have hm7 : w7.heap[wr.heap.size]? = some (.cells (u8s (List.replicate ps.length 0)).toArray 5 (0, 0)) := by rw [← hw7]; exact alloc_at0 _ _
      have hmk' := HMU.out wr
      rw [hw7] at hmk'
      rw [← hZl, ← fillL_zero] at hm7
      have H7 := Lib.hid (And.intro (hT1.grows hb7) hm7)
      have HZ := Lib.hid (And.intro hZ hZl)
      have HNW := Lib.hid (show w.heap.size < wr.heap.size from hT1.lt)
      clear hb7 hm7 hZ hZl hT hT1 hmg
      go_wp2
      clear hmk' hw7
      obtain ⟨wo, rfl⟩ : ∃ wo : World, wo = wr := ⟨_, rfl⟩
      go_loopg [33] ps.length (fun gh s33 wx => ∃ j : Nat, j + gh = ps.length ∧ s33 = .int .i64 j ∧ Hid (TrM w (cntF ps) ps.length wx ∧ wo.heap.size < wx.heap.size) ∧ Hid (wx.heap[wo.heap.size]? = some (.cells (u8s (fillL Z j)).toArray 5 (0, 0))))
      case atStart => exact ⟨0, by omega, rfl, ⟨H7.out.1, lt_of_heap H7.out.2⟩, H7.out.2⟩
      case round =>
        obtain ⟨j, hjg, rfl, hTj, hM⟩ := hrel
        cases gk with
        | zero =>
          obtain rfl : j = ps.length := by omega
          go_wp2
          go_ret
          have hMe := hM.out
          rw [← HZ.out.2, fillL_all] at hMe
          have hZe := HZ.out.1
          subst hZe
          refine ⟨some ⟨wo.heap.size, 0, none⟩, ps.length, by rw [HZ.out.2]; rfl, ?_, hTj.out.1.bel⟩
          refine ⟨by simp [u8s], .inr ⟨wo.heap.size, ps.length, (u8s (traceL l ps)).toArray, by rw [HZ.out.2], Nat.le_of_lt HNW.out, hMe, by rw [HZ.out.2]; exact Nat.le_refl _, by simp only [maxLen]; omega, by simp [u8s, HZ.out.2], by rw [List.toList_toArray, Nat.mul_one, List.take_of_length_le (by rw [u8s_len]; exact Nat.le_refl _)]⟩⟩
        | succ gh =>
          have hj : j < ps.length := by omega
          have hjz : (j : Int) < ps.length := by omega
          have hset : (u8s (fillL Z j)).set j (.int .u8 (knT l ps ps[j])) = u8s (fillL Z (j + 1)) := by
            have e : knT l ps ps[j] = Z[j]'(by rw [HZ.out.2]; exact hj) := by
              have := HZ.out.1
              subst this
              simp [traceL]
            rw [e, u8s_set, fillL_set]
          have hfl : (u8s (fillL Z j)).length = ps.length := by rw [u8s_len, fillL_len Z (by rw [HZ.out.2]; omega), HZ.out.2]
          obtain ⟨c, off, hA, hcB, hc⟩ := HPE.out j hj
          subst hA
          have hc' : ∀ i v, (pcl ps[j])[i]? = some v → wr.cell? ⟨c, off + j * 12 + i, none⟩ = some v := fun i v hv => (hTj.out.1.bel.cell (p := ⟨c, off + j * 12 + i, none⟩) (by simp; omega)).trans (hc i v hv)
          have hok := HPO.out _ (List.getElem_mem hj)
          have hF : cntF ps (orgP ps[j]) = (cntO ps (orgP ps[j]) : Int) := rfl
          have hkn : knT l ps ps[j] = if culmsL l (orgP ps[j]) = 0 then 0 else if culmsL l (orgP ps[j]) < (cntO ps (orgP ps[j]) : Int) then 1 else 2 := rfl
          rw [hkn, ← hF] at hset
          generalize ps[j] = y at hc' hok hset
          have hor := fun W => gtOrigin_any y W
          generalize orgP y = o at hor hok hset
          have hcu := HCU.out o
          generalize culmsL l o = k at hcu hset
          have hT := hTj.out.1
          have hlo := hTj.out.2
          obtain ⟨F, hFe⟩ : ∃ F, cntF ps = F := ⟨_, rfl⟩
          rw [hFe] at hT hset
          have HFE := Lib.hid hFe
          clear hFe
          obtain ⟨x, hx⟩ : ∃ x, F o = x := ⟨_, rfl⟩
          rw [hx] at hset
          have HX := Lib.hid hx
          have HCC := Lib.hid hc'
          have HOK := Lib.hid hok
          have HOR := Lib.hid hor
          have HCK := Lib.hid hcu
          have HFL := Lib.hid hfl
          have HM := Lib.hid hM.out
          have HT := Lib.hid hT
          clear hc hc' hok hor hcu hfl hM hT hTj hF hkn hx
          by_cases hk0 : k = 0
          · subst hk0
            rw [if_pos rfl] at hset
            have HSET := Lib.hid hset
            clear hset
            go_wp2_with (first
              | (show wpList _ _ _ (Oper.mk none (Op.store _ (Operand.tmp 51) _) _ _ _ _ :: _) _ _
                 refine wpList_store_v5 5 (.tmp 51) (.const (.int .u8 0)) (v := .int .u8 0) rfl rfl rfl rfl rfl rfl rfl ((H8.out.1.block _ (lt_of_heap HM.out)).trans HM.out) (by rw [HFL.out]; omega) sizeU8 ?_
                 intro w9 hP9 hM9
                 rw [HSET.out] at hM9
                 have hT9 := (HT.out.grows H8.out.1).below (hP9.below (Nat.le_refl _)) HNW.out
                 have H9 := Lib.hid (And.intro hT9 hM9)
                 clear hP9 hM9 hT9)
              | (show wpList _ _ _ (Oper.mk (some 56) _ _ _ _ _ :: _) _ _
                 refine wpList_lookO (.tmp 54) (.tmp 55) rfl rfl rfl (HT.out.grows H8.out.1).map HOK.out rfl ?_
                 rw [HX.out])
              | (show wpList _ _ _ (Oper.mk (some 55) _ _ _ _ _ :: _) _ _
                 refine wpList_load_blk 162 (.tmp 11) rfl rfl rfl H8.out.2 (ogl o) at0 rowOrigin ?_)
              | (go_at_call 80
                 refine (HCK.out w7 (HT.out.bel.trans (H7.out.1.mono HT.out.bel.size))).mono ?_
                 rintro e w8 ⟨rfl, hB8⟩
                 have H8 := Lib.hid (And.intro (H7.out.1.trans (hB8.mono H7.out.1.size)) ((hB8.block _ (lt_of_heap H7.out.2)).trans H7.out.2))
                 clear hB8)
              | (show wpList _ _ _ (Oper.mk (some 40) _ _ _ _ _ :: _) _ _
                 refine wpList_load_blk 162 (.tmp 11) rfl rfl rfl H7.out.2 (ogl o) at0 rowOrigin ?_)
              | (show wpList _ _ _ (Oper.mk none (Op.store _ (Operand.tmp 11) (Operand.tmp 39)) _ _ _ _ :: _) _ _
                 have hm : (w6.alloc (.cells #[.int .i64 0, .int .i64 0, .int .i64 0] 162)).heap[w6.heap.size]? = some (.cells [Value.int .i64 0, .int .i64 0, .int .i64 0].toArray 162 (0, 0)) := alloc_at0 _ _
                 refine wpList_store_blk 162 (.tmp 11) (.tmp 39) (cs := ogl o) rfl rfl rfl rfl rfl hm (Nat.le_of_ble_eq_true rfl) (by intro v hv; simp only [ogl, List.mem_cons, List.not_mem_nil, or_false] at hv; rcases hv with rfl | rfl | rfl <;> rfl) rowOrigin ?_
                 intro w7 hP hM
                 rw [splice_whole (by rfl)] at hM
                 have hb := (grow1 w6 _).trans (hP.below (Nat.le_refl _))
                 have H7 := Lib.hid (And.intro (H6.out.trans (hb.mono H6.out.size)) hM)
                 clear hP hM hm hb)
              | (go_at_call 79
                 refine (HOR.out w5).mono ?_
                 rintro e w6 ⟨rfl, hB6⟩
                 have H6 := Lib.hid (H5.out.1.trans (hB6.mono H5.out.1.size))
                 clear hB6)
              | (show wpList _ _ _ (Oper.mk (some 38) _ _ _ _ _ :: _) _ _
                 refine wpList_load_blk 56 (.tmp 10) rfl rfl rfl H5.out.2 (pcl y) at0 rowPole ?_)
              | (show wpList _ _ _ (Oper.mk none (Op.store _ (Operand.tmp 10) (Operand.tmp 37)) _ _ _ _ :: _) _ _
                 refine wpList_store_blk 56 (.tmp 10) (.tmp 37) (cs := pcl y) rfl rfl rfl rfl rfl (alloc_at0 wr _) (Nat.le_of_ble_eq_true rfl) (fun v hv => pcl_one [y] v (by simpa using hv)) rowPole ?_
                 intro w5 hP5 hM5
                 rw [splice_whole (by rfl)] at hM5
                 have H5 := Lib.hid (And.intro ((grow1 wr _).trans (hP5.below (Nat.le_refl _))) hM5)
                 clear hP5 hM5)
              | (show wpList _ _ _ (Oper.mk (some 37) _ _ _ _ _ :: _) _ _
                 refine wpList_load_at 56 (.tmp 36) rfl rfl rfl (pcl y) HCC.out rowPole ?_))
            go_roundg gh
            case measure => omega
            case rel => exact ⟨j + 1, by omega, by go_num, ⟨by rw [HFE.out]; exact H9.out.1, lt_of_heap H9.out.2⟩, H9.out.2⟩
          · by_cases hkx : k < x
            · rw [if_neg hk0, if_pos hkx] at hset
              have HSET := Lib.hid hset
              clear hset
              go_wp2_with (first
                | (show wpList _ _ _ (Oper.mk none (Op.store _ (Operand.tmp 60) _) _ _ _ _ :: _) _ _
                   refine wpList_store_v5 5 (.tmp 60) (.const (.int .u8 1)) (v := .int .u8 1) rfl rfl rfl rfl rfl rfl rfl ((H8.out.1.block _ (lt_of_heap HM.out)).trans HM.out) (by rw [HFL.out]; omega) sizeU8 ?_
                   intro w9 hP9 hM9
                   rw [HSET.out] at hM9
                   have hT9 := (HT.out.grows H8.out.1).below (hP9.below (Nat.le_refl _)) HNW.out
                   have H9 := Lib.hid (And.intro hT9 hM9)
                   clear hP9 hM9 hT9)
                | (show wpList _ _ _ (Oper.mk (some 56) _ _ _ _ _ :: _) _ _
                   refine wpList_lookO (.tmp 54) (.tmp 55) rfl rfl rfl (HT.out.grows H8.out.1).map HOK.out rfl ?_
                   rw [HX.out])
                | (show wpList _ _ _ (Oper.mk (some 55) _ _ _ _ _ :: _) _ _
                   refine wpList_load_blk 162 (.tmp 11) rfl rfl rfl H8.out.2 (ogl o) at0 rowOrigin ?_)
                | (go_at_call 80
                   refine (HCK.out w7 (HT.out.bel.trans (H7.out.1.mono HT.out.bel.size))).mono ?_
                   rintro e w8 ⟨rfl, hB8⟩
                   have H8 := Lib.hid (And.intro (H7.out.1.trans (hB8.mono H7.out.1.size)) ((hB8.block _ (lt_of_heap H7.out.2)).trans H7.out.2))
                   clear hB8)
                | (show wpList _ _ _ (Oper.mk (some 40) _ _ _ _ _ :: _) _ _
                   refine wpList_load_blk 162 (.tmp 11) rfl rfl rfl H7.out.2 (ogl o) at0 rowOrigin ?_)
                | (show wpList _ _ _ (Oper.mk none (Op.store _ (Operand.tmp 11) (Operand.tmp 39)) _ _ _ _ :: _) _ _
                   have hm : (w6.alloc (.cells #[.int .i64 0, .int .i64 0, .int .i64 0] 162)).heap[w6.heap.size]? = some (.cells [Value.int .i64 0, .int .i64 0, .int .i64 0].toArray 162 (0, 0)) := alloc_at0 _ _
                   refine wpList_store_blk 162 (.tmp 11) (.tmp 39) (cs := ogl o) rfl rfl rfl rfl rfl hm (Nat.le_of_ble_eq_true rfl) (by intro v hv; simp only [ogl, List.mem_cons, List.not_mem_nil, or_false] at hv; rcases hv with rfl | rfl | rfl <;> rfl) rowOrigin ?_
                   intro w7 hP hM
                   rw [splice_whole (by rfl)] at hM
                   have hb := (grow1 w6 _).trans (hP.below (Nat.le_refl _))
                   have H7 := Lib.hid (And.intro (H6.out.trans (hb.mono H6.out.size)) hM)
                   clear hP hM hm hb)
                | (go_at_call 79
                   refine (HOR.out w5).mono ?_
                   rintro e w6 ⟨rfl, hB6⟩
                   have H6 := Lib.hid (H5.out.1.trans (hB6.mono H5.out.1.size))
                   clear hB6)
                | (show wpList _ _ _ (Oper.mk (some 38) _ _ _ _ _ :: _) _ _
                   refine wpList_load_blk 56 (.tmp 10) rfl rfl rfl H5.out.2 (pcl y) at0 rowPole ?_)
                | (show wpList _ _ _ (Oper.mk none (Op.store _ (Operand.tmp 10) (Operand.tmp 37)) _ _ _ _ :: _) _ _
                   refine wpList_store_blk 56 (.tmp 10) (.tmp 37) (cs := pcl y) rfl rfl rfl rfl rfl (alloc_at0 wr _) (Nat.le_of_ble_eq_true rfl) (fun v hv => pcl_one [y] v (by simpa using hv)) rowPole ?_
                   intro w5 hP5 hM5
                   rw [splice_whole (by rfl)] at hM5
                   have H5 := Lib.hid (And.intro ((grow1 wr _).trans (hP5.below (Nat.le_refl _))) hM5)
                   clear hP5 hM5)
                | (show wpList _ _ _ (Oper.mk (some 37) _ _ _ _ _ :: _) _ _
                   refine wpList_load_at 56 (.tmp 36) rfl rfl rfl (pcl y) HCC.out rowPole ?_))
              go_roundg gh
              case measure => omega
              case rel => exact ⟨j + 1, by omega, by go_num, ⟨by rw [HFE.out]; exact H9.out.1, lt_of_heap H9.out.2⟩, H9.out.2⟩
            · rw [if_neg hk0, if_neg hkx] at hset
              have HSET := Lib.hid hset
              clear hset
              go_wp2_with (first
                | (show wpList _ _ _ (Oper.mk none (Op.store _ (Operand.tmp 45) _) _ _ _ _ :: _) _ _
                   refine wpList_store_v5 5 (.tmp 45) (.const (.int .u8 2)) (v := .int .u8 2) rfl rfl rfl rfl rfl rfl rfl ((H8.out.1.block _ (lt_of_heap HM.out)).trans HM.out) (by rw [HFL.out]; omega) sizeU8 ?_
                   intro w9 hP9 hM9
                   rw [HSET.out] at hM9
                   have hT9 := (HT.out.grows H8.out.1).below (hP9.below (Nat.le_refl _)) HNW.out
                   have H9 := Lib.hid (And.intro hT9 hM9)
                   clear hP9 hM9 hT9)
                | (show wpList _ _ _ (Oper.mk (some 56) _ _ _ _ _ :: _) _ _
                   refine wpList_lookO (.tmp 54) (.tmp 55) rfl rfl rfl (HT.out.grows H8.out.1).map HOK.out rfl ?_
                   rw [HX.out])
                | (show wpList _ _ _ (Oper.mk (some 55) _ _ _ _ _ :: _) _ _
                   refine wpList_load_blk 162 (.tmp 11) rfl rfl rfl H8.out.2 (ogl o) at0 rowOrigin ?_)
                | (go_at_call 80
                   refine (HCK.out w7 (HT.out.bel.trans (H7.out.1.mono HT.out.bel.size))).mono ?_
                   rintro e w8 ⟨rfl, hB8⟩
                   have H8 := Lib.hid (And.intro (H7.out.1.trans (hB8.mono H7.out.1.size)) ((hB8.block _ (lt_of_heap H7.out.2)).trans H7.out.2))
                   clear hB8)
                | (show wpList _ _ _ (Oper.mk (some 40) _ _ _ _ _ :: _) _ _
                   refine wpList_load_blk 162 (.tmp 11) rfl rfl rfl H7.out.2 (ogl o) at0 rowOrigin ?_)
                | (show wpList _ _ _ (Oper.mk none (Op.store _ (Operand.tmp 11) (Operand.tmp 39)) _ _ _ _ :: _) _ _
                   have hm : (w6.alloc (.cells #[.int .i64 0, .int .i64 0, .int .i64 0] 162)).heap[w6.heap.size]? = some (.cells [Value.int .i64 0, .int .i64 0, .int .i64 0].toArray 162 (0, 0)) := alloc_at0 _ _
                   refine wpList_store_blk 162 (.tmp 11) (.tmp 39) (cs := ogl o) rfl rfl rfl rfl rfl hm (Nat.le_of_ble_eq_true rfl) (by intro v hv; simp only [ogl, List.mem_cons, List.not_mem_nil, or_false] at hv; rcases hv with rfl | rfl | rfl <;> rfl) rowOrigin ?_
                   intro w7 hP hM
                   rw [splice_whole (by rfl)] at hM
                   have hb := (grow1 w6 _).trans (hP.below (Nat.le_refl _))
                   have H7 := Lib.hid (And.intro (H6.out.trans (hb.mono H6.out.size)) hM)
                   clear hP hM hm hb)
                | (go_at_call 79
                   refine (HOR.out w5).mono ?_
                   rintro e w6 ⟨rfl, hB6⟩
                   have H6 := Lib.hid (H5.out.1.trans (hB6.mono H5.out.1.size))
                   clear hB6)
                | (show wpList _ _ _ (Oper.mk (some 38) _ _ _ _ _ :: _) _ _
                   refine wpList_load_blk 56 (.tmp 10) rfl rfl rfl H5.out.2 (pcl y) at0 rowPole ?_)
                | (show wpList _ _ _ (Oper.mk none (Op.store _ (Operand.tmp 10) (Operand.tmp 37)) _ _ _ _ :: _) _ _
                   refine wpList_store_blk 56 (.tmp 10) (.tmp 37) (cs := pcl y) rfl rfl rfl rfl rfl (alloc_at0 wr _) (Nat.le_of_ble_eq_true rfl) (fun v hv => pcl_one [y] v (by simpa using hv)) rowPole ?_
                   intro w5 hP5 hM5
                   rw [splice_whole (by rfl)] at hM5
                   have H5 := Lib.hid (And.intro ((grow1 wr _).trans (hP5.below (Nat.le_refl _))) hM5)
                   clear hP5 hM5)
                | (show wpList _ _ _ (Oper.mk (some 37) _ _ _ _ _ :: _) _ _
                   refine wpList_load_at 56 (.tmp 36) rfl rfl rfl (pcl y) HCC.out rowPole ?_))
              go_roundg gh
              case measure => omega
              case rel => exact ⟨j + 1, by omega, by go_num, ⟨by rw [HFE.out]; exact H9.out.1, lt_of_heap H9.out.2⟩, H9.out.2⟩

end Go.Proofs.YtpnnlmaipcjkmaaGreat
