/-
  A pole's grade (the reference's).
-/
import Derived.Test.YtboffligjgjgjaaGrW
import Derived.Test.YtboffligjgjgjaaGrWa
import Derived.BigGuardPart
namespace Go.Proofs.Ytboffligjgjgjaa
open Go.RowKit Go.BigFrame
open R6 (done done_ne done_me upd_ne upd_me)

attribute [local go_sem] gives

set_option maxRecDepth 100000 in
set_option maxHeartbeats 8000000 in
theorem rfGrade_any (ps : List Pol) (ts : List Ts) (gs : List Gd) (vary : Int) (id : Int) (AP : Option Addr) (cp : Nat) (AT : Option Addr) (ct : Nat) (AG : Option Addr) (cg : Nat) (B : Nat) (w : World) (hB : B ≤ w.heap.size) (hz : ShAt w B ps ts AP AT) (hg : GdAt w B gs AG) :
    Calls Try.prog 8 #[.agg #[.slice AP ps.length cp, .slice AT ts.length ct], .agg #[.slice AG gs.length cg, .int .i64 vary], .int .i64 id] w fun e w' => e = .returned (.tuple #[.int .i64 (sGrade gs vary ps ts id).1, .int .i64 (sGrade gs vary ps ts id).2]) ∧ Below w.heap.size w w' := by
  have hchk := fun (W : World) (hW : Below w.heap.size w W) => rfCheck_any ps ts gs vary AP cp AT ct AG cg B W (Nat.le_trans hB hW.size) (hz.below (hW.mono hB)) (hg.below (hW.mono hB))
  have hat := fun (W : World) (hW : Below w.heap.size w W) => rfAt_any ps id AP cp AT ts.length ct B W (Nat.le_trans hB hW.size) (hz.p.below (hW.mono hB)) hz.lp
  obtain ⟨w1, hw1⟩ : ∃ w1, ((w.alloc (.cells #[.slice AP ps.length cp, .slice AT ts.length ct] 25)).alloc (.cells #[.slice AG gs.length cg, .int .i64 vary] 28)) = w1 := ⟨_, rfl⟩
  have hb1 : Below w.heap.size w w1 := by rw [← hw1]; exact grow2 _ _ _
  have m1 : w1.heap[w.heap.size]? = some (.cells [.slice AP ps.length cp, .slice AT ts.length ct].toArray 25 (0, 0)) := by rw [← hw1]; exact alloc2_at0 _ _ _
  have m2 : w1.heap[w.heap.size + 1]? = some (.cells [.slice AG gs.length cg, .int .i64 vary].toArray 28 (0, 0)) := by rw [← hw1]; exact alloc2_at1 _ _ _
  have m3 : True := trivial
  have hof := fun (q : Pol) (hq : yrs q) (W : World) (hW : Below w.heap.size w W) => rfOf_any gs vary q AG cg B W (Nat.le_trans hB hW.size) (hg.below (hW.mono hB)) hq
  have hpe := fun (j : Nat) (hj : j < ps.length) => vals_elem pcl_len hz.p (by decide) hj
  have hlp := hz.lp
  unfold sGrade
  have hcc := gChk_range gs vary ps ts
  have hco := gChk_ok (gs := gs) (vary := vary) (ps := ps) (ts := ts)
  generalize gChk gs vary ps ts = ck at hchk hcc hco ⊢
  have H1 := Lib.hid (And.intro hb1 (And.intro m1 (And.intro m2 m3)))
  have HC1 := Lib.hid hchk
  clear hb1 m1 m2 m3 hchk hz hg
  by_cases hck : ck = 0
  rotate_left
  · rw [if_neg hck]
    have hce : (ck == 0) = false := by simpa using hck
    have hcn : (ck != 0) = true := by simpa using hck
    go_enter Try.func8, Try.ntmps8
    go_wp2_with (first
      | (show wpList _ _ _ (Oper.mk (some 10) _ _ _ _ _ :: _) _ _
         refine wpList_load_blk 25 (.tmp 3) rfl rfl rfl H1.out.2.1 [.slice AP ps.length cp, .slice AT ts.length ct] at0 rowSheet5 ?_)
      | (show wpList _ _ _ (Oper.mk (some 11) _ _ _ _ _ :: _) _ _
         refine wpList_load_blk 28 (.tmp 4) rfl rfl rfl H1.out.2.2.1 [.slice AG gs.length cg, .int .i64 vary] at0 rowGrading5 ?_)
      | (go_at_call 14
         refine (HC1.out w1 H1.out.1).mono ?_
         rintro e w2 ⟨rfl, hB2⟩
         have H2 := Lib.hid (And.intro (H1.out.1.trans (hB2.mono H1.out.1.size)) (And.intro ((hB2.block _ (lt_of_heap H1.out.2.1)).trans H1.out.2.1) (And.intro ((hB2.block _ (lt_of_heap H1.out.2.2.1)).trans H1.out.2.2.1) trivial)))
         clear hB2))
    go_ret2
    exact ⟨rfl, H2.out.1⟩
  subst hck
  rw [if_pos rfl]
  obtain ⟨-, hosh⟩ := hco rfl
  have hpo := (okSheet_parts hosh).2.2.1
  clear hco hosh hcc
  rcases at_cases ps id with ⟨a1, a2⟩ | ⟨i, a1, a2, hi, a4⟩
  · rw [a2] at hat
    rw [a1, if_neg (by decide)]
    have HA := Lib.hid hat
    clear hat a1 a2 hof hpe hpo
    go_enter Try.func8, Try.ntmps8
    go_wp2_with (first
      | (show wpList _ _ _ (Oper.mk (some 16) _ _ _ _ _ :: _) _ _
         refine wpList_load_blk 25 (.tmp 3) rfl rfl rfl H2.out.2.1 [.slice AP ps.length cp, .slice AT ts.length ct] at0 rowSheet5 ?_)
      | (go_at_call 20
         refine (HA.out w2 H2.out.1).mono ?_
         rintro e w3 ⟨rfl, hB3⟩
         have H3 := Lib.hid (And.intro (H2.out.1.trans (hB3.mono H2.out.1.size)) (And.intro ((hB3.block _ (lt_of_heap H2.out.2.1)).trans H2.out.2.1) (And.intro ((hB3.block _ (lt_of_heap H2.out.2.2.1)).trans H2.out.2.2.1) trivial)))
         clear hB3)
      | (show wpList _ _ _ (Oper.mk (some 10) _ _ _ _ _ :: _) _ _
         refine wpList_load_blk 25 (.tmp 3) rfl rfl rfl H1.out.2.1 [.slice AP ps.length cp, .slice AT ts.length ct] at0 rowSheet5 ?_)
      | (show wpList _ _ _ (Oper.mk (some 11) _ _ _ _ _ :: _) _ _
         refine wpList_load_blk 28 (.tmp 4) rfl rfl rfl H1.out.2.2.1 [.slice AG gs.length cg, .int .i64 vary] at0 rowGrading5 ?_)
      | (go_at_call 14
         refine (HC1.out w1 H1.out.1).mono ?_
         rintro e w2 ⟨rfl, hB2⟩
         have H2 := Lib.hid (And.intro (H1.out.1.trans (hB2.mono H1.out.1.size)) (And.intro ((hB2.block _ (lt_of_heap H1.out.2.1)).trans H1.out.2.1) (And.intro ((hB2.block _ (lt_of_heap H1.out.2.2.1)).trans H1.out.2.2.1) trivial)))
         clear hB2))
    go_ret2
    exact ⟨rfl, H3.out.1⟩
  · rw [a2] at hat
    rw [a1, if_pos rfl]
    have hyr := okPol_yrs5 (hpo _ (List.getElem_mem hi)).2
    obtain ⟨cP, oP, hAP, hcPB, hcP⟩ := hpe i hi
    subst hAP
    rw [a4] at hcP hyr
    have hofp := hof _ hyr
    generalize fndP ps id = p at hcP hofp ⊢
    generalize gOf gs p = np at hofp ⊢
    have hiz : (i : Int) < ps.length := by omega
    have HA := Lib.hid (And.intro hat (And.intro hcP hofp))
    clear hat a1 a2 a4 hof hofp hpe hpo hcP hyr
    go_enter Try.func8, Try.ntmps8
    go_wp2_with (first
      | (show wpList _ _ _ (Oper.mk (some 16) _ _ _ _ _ :: _) _ _
         refine wpList_load_blk 25 (.tmp 3) rfl rfl rfl H2.out.2.1 [.slice (some ⟨cP, oP, none⟩) ps.length cp, .slice AT ts.length ct] at0 rowSheet5 ?_)
      | (go_at_call 20
         refine (HA.out.1 w2 H2.out.1).mono ?_
         rintro e w3 ⟨rfl, hB3⟩
         have H3 := Lib.hid (And.intro (H2.out.1.trans (hB3.mono H2.out.1.size)) (And.intro ((hB3.block _ (lt_of_heap H2.out.2.1)).trans H2.out.2.1) (And.intro ((hB3.block _ (lt_of_heap H2.out.2.2.1)).trans H2.out.2.2.1) trivial)))
         clear hB3)
      | (show wpList _ _ _ (Oper.mk (some 10) _ _ _ _ _ :: _) _ _
         refine wpList_load_blk 25 (.tmp 3) rfl rfl rfl H1.out.2.1 [.slice (some ⟨cP, oP, none⟩) ps.length cp, .slice AT ts.length ct] at0 rowSheet5 ?_)
      | (show wpList _ _ _ (Oper.mk (some 11) _ _ _ _ _ :: _) _ _
         refine wpList_load_blk 28 (.tmp 4) rfl rfl rfl H1.out.2.2.1 [.slice AG gs.length cg, .int .i64 vary] at0 rowGrading5 ?_)
      | (go_at_call 14
         refine (HC1.out w1 H1.out.1).mono ?_
         rintro e w2 ⟨rfl, hB2⟩
         have H2 := Lib.hid (And.intro (H1.out.1.trans (hB2.mono H1.out.1.size)) (And.intro ((hB2.block _ (lt_of_heap H1.out.2.1)).trans H1.out.2.1) (And.intro ((hB2.block _ (lt_of_heap H1.out.2.2.1)).trans H1.out.2.2.1) trivial)))
         clear hB2))
    refine R6.wp_walk (C := fun _ _ W => Below w3.heap.size w3 W) 28 (by kernel_rfl) (by kernel_rfl) rfl (Below.refl _ _).drew ?_
    simp only []
    refine' R6.WalkR.det (fun _ => rfl) (fun D ρ W hK hC => ?_) ?_
    rotate_left
    · exact gives_load_blk 28 (.tmp 4) rfl rfl ((hC.block _ (lt_of_heap H3.out.2.2.1)).trans H3.out.2.2.1) [.slice AG gs.length cg, .int .i64 vary] at0 rowGrading5 ⟨rfl, hC⟩
    simp only [Act.put, List.setIfInBounds_toArray, List.set_cons_succ, List.set_cons_zero]
    repeat (first
      | (refine' R6.WalkR.det (fun _ => rfl) (fun D ρ W hK hC => ?_) ?_
         rotate_left
         · have f1 : W.cell? ⟨w.heap.size, 0, none⟩ = some (.slice (some ⟨cP, oP, none⟩) ps.length cp) := cell_of_row W _ 0 _ _ _ ((hC.block _ (lt_of_heap H3.out.2.1)).trans H3.out.2.1)
           have HC := Lib.hid hC
           clear hC hK
           go_simp
           with_reducible exact ⟨rfl, HC.out⟩
         simp only [Act.put, List.setIfInBounds_toArray, List.set_cons_succ, List.set_cons_zero]))
    refine' R6.WalkR.det (fun _ => rfl) (fun D ρ W hK hC => ?_) ?_
    rotate_left
    · exact gives_load_at 58 (.tmp 25) rfl rfl _ (pcl_at (j := i) (H3.out.1.trans (hC.mono H3.out.1.size)) (Nat.lt_of_lt_of_le hcPB hB) HA.out.2.1) rowPole ⟨rfl, hC⟩
    simp only [Act.put, List.setIfInBounds_toArray, List.set_cons_succ, List.set_cons_zero]
    refine' R6.WalkR.det (fun _ => rfl) (fun D ρ W hK hC => ?_) ?_
    rotate_left
    · have HC := Lib.hid hC
      clear hC hK
      go_simp
      go_at_call 21
      refine (HA.out.2.2 W (H3.out.1.trans (HC.out.mono H3.out.1.size))).mono ?_
      rintro e W1 ⟨rfl, hB1⟩
      exact ⟨_, rfl, rfl, HC.out.trans (hB1.mono HC.out.size)⟩
    simp only [Act.put, List.setIfInBounds_toArray, List.set_cons_succ, List.set_cons_zero]
    repeat (first
      | (refine' R6.WalkR.det (fun _ => rfl) (fun D ρ W hK hC => ?_) ?_
         rotate_left
         · skip
           have HC := Lib.hid hC
           clear hC hK
           go_simp
           with_reducible exact ⟨rfl, HC.out⟩
         simp only [Act.put, List.setIfInBounds_toArray, List.set_cons_succ, List.set_cons_zero]))
    refine R6.WalkR.nil (fun D ρ W6 hD hC => ?_)
    have H6 := Lib.hid (H3.out.1.trans (hC.mono H3.out.1.size))
    clear hC hD
    go_wp2
    go_ret2
    exact ⟨rfl, H6.out⟩

set_option maxRecDepth 100000 in
set_option maxHeartbeats 16000000 in
theorem rfStrength_any (ps : List Pol) (ts : List Ts) (gs : List Gd) (vary : Int) (id : Int) (sec : Int) (AP : Option Addr) (cp : Nat) (AT : Option Addr) (ct : Nat) (AG : Option Addr) (cg : Nat) (B : Nat) (w : World) (hB : B ≤ w.heap.size) (hz : ShAt w B ps ts AP AT) (hg : GdAt w B gs AG) :
    Calls Try.prog 10 #[.agg #[.slice AP ps.length cp, .slice AT ts.length ct], .agg #[.slice AG gs.length cg, .int .i64 vary], .int .i64 id, .int .i64 sec] w fun e w' => e = .returned (.tuple #[.agg (sp2 (sStr gs vary ps ts id sec).1).toArray, .int .i64 (sStr gs vary ps ts id sec).2]) ∧ Below w.heap.size w w' := by
  have hchk := fun (W : World) (hW : Below w.heap.size w W) => rfCheck_any ps ts gs vary AP cp AT ct AG cg B W (Nat.le_trans hB hW.size) (hz.below (hW.mono hB)) (hg.below (hW.mono hB))
  have hat := fun (W : World) (hW : Below w.heap.size w W) => rfAt_any ps id AP cp AT ts.length ct B W (Nat.le_trans hB hW.size) (hz.p.below (hW.mono hB)) hz.lp
  obtain ⟨w1, hw1⟩ : ∃ w1, (((w.alloc (.cells #[.slice AP ps.length cp, .slice AT ts.length ct] 25)).alloc (.cells #[.slice AG gs.length cg, .int .i64 vary] 28)).alloc (.cells #[.int .i64 0, .int .i64 0] 38)) = w1 := ⟨_, rfl⟩
  have hb1 : Below w.heap.size w w1 := by rw [← hw1]; exact (grow2 _ _ _).alloc (by simp; omega) _
  have m1 : w1.heap[w.heap.size]? = some (.cells [.slice AP ps.length cp, .slice AT ts.length ct].toArray 25 (0, 0)) := by rw [← hw1]; exact alloc3_at0 _ _ _ _
  have m2 : w1.heap[w.heap.size + 1]? = some (.cells [.slice AG gs.length cg, .int .i64 vary].toArray 28 (0, 0)) := by rw [← hw1]; exact alloc3_at1 _ _ _ _
  have m3 : w1.heap[w.heap.size + 1 + 1]? = some (.cells [Value.int .i64 0, .int .i64 0].toArray 38 (0, 0)) := by rw [← hw1]; exact alloc3_at2 _ _ _ _
  have hof := fun (q : Pol) (hq : yrs q) (W : World) (hW : Below w.heap.size w W) => rfOf_any gs vary q AG cg B W (Nat.le_trans hB hW.size) (hg.below (hW.mono hB)) hq
  have hpe := fun (j : Nat) (hj : j < ps.length) => vals_elem pcl_len hz.p (by decide) hj
  have hlp := hz.lp
  have htr := fun (hv : 0 ≤ vary ∧ vary ≤ 200000) (hpo : ∀ p ∈ ps, okPol p = true) (ht : ∀ t ∈ ts, okT t) (hok : ∀ g ∈ gs, okG2 g) (W : World) (hW : Below w.heap.size w W) => rfTrue_any gs vary ps ts AP cp AT ts.length ct AG cg AT ct B W (Nat.le_trans hB hW.size) (hz.p.below (hW.mono hB)) (hg.below (hW.mono hB)) (hz.t.below (hW.mono hB)) hz.lt hz.lp hv hpo ht hok
  have hspn := fun (i k : Nat) (hi : i < ps.length) (hk : k < 3) (hg1 : 1 ≤ gOf gs ps[i]) (hv : 0 ≤ vary ∧ vary ≤ 200000) (hpo : ∀ p ∈ ps, okPol p = true) (ht : ∀ t ∈ ts, okT t) (hok : ∀ g ∈ gs, okG2 g) (W : World) (hW : Below w.heap.size w W) => rfSpan_any gs vary ps ts AP cp AT ts.length ct AG cg AT ct i k B W (Nat.le_trans hB hW.size) (hz.p.below (hW.mono hB)) (hg.below (hW.mono hB)) (hz.t.below (hW.mono hB)) hz.lt hz.lp hv hpo ht hok hi hk hg1
  unfold sStr
  have hcc := gChk_range gs vary ps ts
  have hco := gChk_ok (gs := gs) (vary := vary) (ps := ps) (ts := ts)
  generalize gChk gs vary ps ts = ck at hchk hcc hco ⊢
  have H1 := Lib.hid (And.intro hb1 (And.intro m1 (And.intro m2 m3)))
  have HC1 := Lib.hid hchk
  clear hb1 m1 m2 m3 hchk hz hg
  by_cases hck : ck = 0
  rotate_left
  · rw [if_neg hck]
    have hce : (ck == 0) = false := by simpa using hck
    have hcn : (ck != 0) = true := by simpa using hck
    go_enter Try.func10, Try.ntmps10
    go_wp2_with (first
      | (show wpList _ _ _ (Oper.mk none (Op.store _ (Operand.tmp 8) (Operand.tmp 18)) _ _ _ _ :: _) _ _
         refine wpList_store_blk 38 (.tmp 8) (.tmp 18) rfl rfl rfl rfl (cs := [.int .i64 0, .int .i64 0]) rfl H2.out.2.2.2 (Nat.le_of_ble_eq_true rfl) (sp2_one (0, 0)) rowSpan5 ?_
         intro w9 hP9 hM9
         rw [splice_whole (by rfl)] at hM9
         have H9 := Lib.hid (And.intro (H2.out.1.trans (hP9.below (by omega))) hM9)
         clear hP9 hM9)
      | (show wpList _ _ _ (Oper.mk (some 13) _ _ _ _ _ :: _) _ _
         refine wpList_load_blk 25 (.tmp 4) rfl rfl rfl H1.out.2.1 [.slice AP ps.length cp, .slice AT ts.length ct] at0 rowSheet5 ?_)
      | (show wpList _ _ _ (Oper.mk (some 14) _ _ _ _ _ :: _) _ _
         refine wpList_load_blk 28 (.tmp 5) rfl rfl rfl H1.out.2.2.1 [.slice AG gs.length cg, .int .i64 vary] at0 rowGrading5 ?_)
      | (go_at_call 14
         refine (HC1.out w1 H1.out.1).mono ?_
         rintro e w2 ⟨rfl, hB2⟩
         have H2 := Lib.hid (And.intro (H1.out.1.trans (hB2.mono H1.out.1.size)) (And.intro ((hB2.block _ (lt_of_heap H1.out.2.1)).trans H1.out.2.1) (And.intro ((hB2.block _ (lt_of_heap H1.out.2.2.1)).trans H1.out.2.2.1) ((hB2.block _ (lt_of_heap H1.out.2.2.2)).trans H1.out.2.2.2))))
         clear hB2))
    refine bodyPost_ret (v := .tuple #[.agg [Value.int .i64 0, .int .i64 0].toArray, .int .i64 ck]) (results_cell_tmp (cs := [.int .i64 0, .int .i64 0]) Try.results10 rfl H9.out.2 rowSpan5 rfl) rfl ⟨rfl, H9.out.1⟩
  subst hck
  rw [if_pos rfl]
  obtain ⟨hogr, hosh⟩ := hco rfl
  have hpo := (okSheet_parts hosh).2.2.1
  have htt := (okSheet_parts hosh).2.2.2
  obtain ⟨-, hvv, hok⟩ := okGrading_parts hogr
  have hpo2 : ∀ p ∈ ps, okPol p = true := fun p hp => (hpo p hp).2
  have htr := htr hvv hpo2 htt hok
  have hsm := fun (p : Pol) (k : Nat) (h : truth gs vary ps ts = true) (hp : p ∈ ps) (hk : k < 3) (hg1 : 1 ≤ gOf gs p) => span_small hvv.1 h hp hk (hpo2 p hp) hg1 htt hok
  clear hco hosh hcc hogr hpo
  rcases at_cases ps id with ⟨a1, a2⟩ | ⟨i, a1, a2, hi, a4⟩
  · rw [a2] at hat
    rw [a1, if_neg (by decide)]
    have HA := Lib.hid hat
    clear hat a1 a2 hof hpe hpo2 htr hspn hsm hvv htt hok
    go_enter Try.func10, Try.ntmps10
    go_wp2_with (first
      | (show wpList _ _ _ (Oper.mk none (Op.store _ (Operand.tmp 8) (Operand.tmp 25)) _ _ _ _ :: _) _ _
         refine wpList_store_blk 38 (.tmp 8) (.tmp 25) rfl rfl rfl rfl (cs := [.int .i64 0, .int .i64 0]) rfl H3.out.2.2.2 (Nat.le_of_ble_eq_true rfl) (sp2_one (0, 0)) rowSpan5 ?_
         intro w9 hP9 hM9
         rw [splice_whole (by rfl)] at hM9
         have H9 := Lib.hid (And.intro (H3.out.1.trans (hP9.below (by omega))) hM9)
         clear hP9 hM9)
      | (show wpList _ _ _ (Oper.mk (some 20) _ _ _ _ _ :: _) _ _
         refine wpList_load_blk 25 (.tmp 4) rfl rfl rfl H2.out.2.1 [.slice AP ps.length cp, .slice AT ts.length ct] at0 rowSheet5 ?_)
      | (go_at_call 20
         refine (HA.out w2 H2.out.1).mono ?_
         rintro e w3 ⟨rfl, hB3⟩
         have H3 := Lib.hid (And.intro (H2.out.1.trans (hB3.mono H2.out.1.size)) (And.intro ((hB3.block _ (lt_of_heap H2.out.2.1)).trans H2.out.2.1) (And.intro ((hB3.block _ (lt_of_heap H2.out.2.2.1)).trans H2.out.2.2.1) ((hB3.block _ (lt_of_heap H2.out.2.2.2)).trans H2.out.2.2.2))))
         clear hB3)
      | (show wpList _ _ _ (Oper.mk (some 13) _ _ _ _ _ :: _) _ _
         refine wpList_load_blk 25 (.tmp 4) rfl rfl rfl H1.out.2.1 [.slice AP ps.length cp, .slice AT ts.length ct] at0 rowSheet5 ?_)
      | (show wpList _ _ _ (Oper.mk (some 14) _ _ _ _ _ :: _) _ _
         refine wpList_load_blk 28 (.tmp 5) rfl rfl rfl H1.out.2.2.1 [.slice AG gs.length cg, .int .i64 vary] at0 rowGrading5 ?_)
      | (go_at_call 14
         refine (HC1.out w1 H1.out.1).mono ?_
         rintro e w2 ⟨rfl, hB2⟩
         have H2 := Lib.hid (And.intro (H1.out.1.trans (hB2.mono H1.out.1.size)) (And.intro ((hB2.block _ (lt_of_heap H1.out.2.1)).trans H1.out.2.1) (And.intro ((hB2.block _ (lt_of_heap H1.out.2.2.1)).trans H1.out.2.2.1) ((hB2.block _ (lt_of_heap H1.out.2.2.2)).trans H1.out.2.2.2))))
         clear hB2))
    refine bodyPost_ret (v := .tuple #[.agg [Value.int .i64 0, .int .i64 0].toArray, .int .i64 6]) (results_cell_tmp (cs := [.int .i64 0, .int .i64 0]) Try.results10 rfl H9.out.2 rowSpan5 rfl) rfl ⟨rfl, H9.out.1⟩
  rw [a2] at hat
  rw [a1, if_pos rfl]
  have HA := Lib.hid hat
  clear a1 a2 hat
  cases hsc : inR sec 0 2
  · rw [if_neg (by decide)]
    have HSC := Lib.hid hsc
    clear hsc hof hpe hpo2 htr hspn hsm hvv htt hok a4
    go_enter Try.func10, Try.ntmps10
    go_wp2_with (first
      | (show wpList _ _ _ (Oper.mk none (Op.store _ (Operand.tmp 8) (Operand.tmp 29)) _ _ _ _ :: _) _ _
         refine wpList_store_blk 38 (.tmp 8) (.tmp 29) rfl rfl rfl rfl (cs := [.int .i64 0, .int .i64 0]) rfl H3.out.2.2.2 (Nat.le_of_ble_eq_true rfl) (sp2_one (0, 0)) rowSpan5 ?_
         intro w9 hP9 hM9
         rw [splice_whole (by rfl)] at hM9
         have H9 := Lib.hid (And.intro (H3.out.1.trans (hP9.below (by omega))) hM9)
         clear hP9 hM9)
      | (go_at_call 26; refine (rfWithin_any _ _ _ _).mono ?_; rintro e _ ⟨rfl, rfl⟩; rw [HSC.out])
      | (show wpList _ _ _ (Oper.mk (some 20) _ _ _ _ _ :: _) _ _
         refine wpList_load_blk 25 (.tmp 4) rfl rfl rfl H2.out.2.1 [.slice AP ps.length cp, .slice AT ts.length ct] at0 rowSheet5 ?_)
      | (go_at_call 20
         refine (HA.out w2 H2.out.1).mono ?_
         rintro e w3 ⟨rfl, hB3⟩
         have H3 := Lib.hid (And.intro (H2.out.1.trans (hB3.mono H2.out.1.size)) (And.intro ((hB3.block _ (lt_of_heap H2.out.2.1)).trans H2.out.2.1) (And.intro ((hB3.block _ (lt_of_heap H2.out.2.2.1)).trans H2.out.2.2.1) ((hB3.block _ (lt_of_heap H2.out.2.2.2)).trans H2.out.2.2.2))))
         clear hB3)
      | (show wpList _ _ _ (Oper.mk (some 13) _ _ _ _ _ :: _) _ _
         refine wpList_load_blk 25 (.tmp 4) rfl rfl rfl H1.out.2.1 [.slice AP ps.length cp, .slice AT ts.length ct] at0 rowSheet5 ?_)
      | (show wpList _ _ _ (Oper.mk (some 14) _ _ _ _ _ :: _) _ _
         refine wpList_load_blk 28 (.tmp 5) rfl rfl rfl H1.out.2.2.1 [.slice AG gs.length cg, .int .i64 vary] at0 rowGrading5 ?_)
      | (go_at_call 14
         refine (HC1.out w1 H1.out.1).mono ?_
         rintro e w2 ⟨rfl, hB2⟩
         have H2 := Lib.hid (And.intro (H1.out.1.trans (hB2.mono H1.out.1.size)) (And.intro ((hB2.block _ (lt_of_heap H1.out.2.1)).trans H1.out.2.1) (And.intro ((hB2.block _ (lt_of_heap H1.out.2.2.1)).trans H1.out.2.2.1) ((hB2.block _ (lt_of_heap H1.out.2.2.2)).trans H1.out.2.2.2))))
         clear hB2))
    refine bodyPost_ret (v := .tuple #[.agg [Value.int .i64 0, .int .i64 0].toArray, .int .i64 2]) (results_cell_tmp (cs := [.int .i64 0, .int .i64 0]) Try.results10 rfl H9.out.2 rowSpan5 rfl) rfl ⟨rfl, H9.out.1⟩
  rw [if_pos rfl]
  have hs2 := inR_iff.1 hsc
  obtain ⟨k, rfl⟩ : ∃ k : Nat, sec = k := ⟨sec.toNat, by omega⟩
  have hk : k < 3 := by omega
  have hkz : (k : Int) < 3 := by omega
  rw [Int.toNat_natCast]
  have HSC := Lib.hid hsc
  clear hsc hs2
  have hyr := okPol_yrs5 (hpo2 _ (List.getElem_mem hi))
  have hsec := okPol_secs5 (hpo2 _ (List.getElem_mem hi))
  have hmi := List.getElem_mem hi
  have hspn := fun h1 => hspn i k hi hk h1 hvv hpo2 htt hok
  obtain ⟨cP, oP, hAP, hcPB, hcP⟩ := hpe i hi
  subst hAP
  rw [a4] at hcP hyr hsec hmi hspn
  have hofp := hof _ hyr
  have hsm := fun ht hg1 => hsm _ k ht hmi hk hg1
  have hbe := fun (s : Int) (s0 : 0 ≤ s) (s1 : s ≤ 200000) (W : World) => rfBears_any (fndP ps id) k s hk hsec s0 s1 W
  generalize fndP ps id = p at hcP hofp hsm hspn hbe ⊢
  have hiz : (i : Int) < ps.length := by omega
  have HP := Lib.hid (And.intro hcP (And.intro hofp (And.intro htr (And.intro hspn (And.intro hsm hbe)))))
  clear a4 hof hofp hpe hpo2 hcP hyr hsec hmi htr hspn hsm hbe hvv htt hok
  by_cases h0 : gOf gs p = 0
  · rw [if_pos h0]
    rw [h0] at HP
    have HNP := Lib.hid (And.intro (show (((0 : Nat) : Int) == 0) = true from rfl) (show ((0 : Nat) : Int) = 0 from rfl))
    clear h0
    go_enter Try.func10, Try.ntmps10
    go_wp2_with (first
      | (go_at_call 26; refine (rfWithin_any _ _ _ _).mono ?_; rintro e _ ⟨rfl, rfl⟩; rw [HSC.out])
      | (show wpList _ _ _ (Oper.mk (some 20) _ _ _ _ _ :: _) _ _
         refine wpList_load_blk 25 (.tmp 4) rfl rfl rfl H2.out.2.1 [.slice (some ⟨cP, oP, none⟩) ps.length cp, .slice AT ts.length ct] at0 rowSheet5 ?_)
      | (go_at_call 20
         refine (HA.out w2 H2.out.1).mono ?_
         rintro e w3 ⟨rfl, hB3⟩
         have H3 := Lib.hid (And.intro (H2.out.1.trans (hB3.mono H2.out.1.size)) (And.intro ((hB3.block _ (lt_of_heap H2.out.2.1)).trans H2.out.2.1) (And.intro ((hB3.block _ (lt_of_heap H2.out.2.2.1)).trans H2.out.2.2.1) ((hB3.block _ (lt_of_heap H2.out.2.2.2)).trans H2.out.2.2.2))))
         clear hB3)
      | (show wpList _ _ _ (Oper.mk (some 13) _ _ _ _ _ :: _) _ _
         refine wpList_load_blk 25 (.tmp 4) rfl rfl rfl H1.out.2.1 [.slice (some ⟨cP, oP, none⟩) ps.length cp, .slice AT ts.length ct] at0 rowSheet5 ?_)
      | (show wpList _ _ _ (Oper.mk (some 14) _ _ _ _ _ :: _) _ _
         refine wpList_load_blk 28 (.tmp 5) rfl rfl rfl H1.out.2.2.1 [.slice AG gs.length cg, .int .i64 vary] at0 rowGrading5 ?_)
      | (go_at_call 14
         refine (HC1.out w1 H1.out.1).mono ?_
         rintro e w2 ⟨rfl, hB2⟩
         have H2 := Lib.hid (And.intro (H1.out.1.trans (hB2.mono H1.out.1.size)) (And.intro ((hB2.block _ (lt_of_heap H1.out.2.1)).trans H1.out.2.1) (And.intro ((hB2.block _ (lt_of_heap H1.out.2.2.1)).trans H1.out.2.2.1) ((hB2.block _ (lt_of_heap H1.out.2.2.2)).trans H1.out.2.2.2))))
         clear hB2))
    refine R6.wp_walk (C := fun _ _ W => Below w3.heap.size w3 W) 72 (by kernel_rfl) (by kernel_rfl) rfl (Below.refl _ _).drew ?_
    simp only []
    refine' R6.WalkR.det (fun _ => rfl) (fun D ρ W hK hC => ?_) ?_
    rotate_left
    · exact gives_load_blk 28 (.tmp 5) rfl rfl ((hC.block _ (lt_of_heap H3.out.2.2.1)).trans H3.out.2.2.1) [.slice AG gs.length cg, .int .i64 vary] at0 rowGrading5 ⟨rfl, hC⟩
    simp only [Act.put, List.setIfInBounds_toArray, List.set_cons_succ, List.set_cons_zero]
    repeat (first
      | (refine' R6.WalkR.det (fun _ => rfl) (fun D ρ W hK hC => ?_) ?_
         rotate_left
         · have f1 : W.cell? ⟨w.heap.size, 0, none⟩ = some (.slice (some ⟨cP, oP, none⟩) ps.length cp) := cell_of_row W _ 0 _ _ _ ((hC.block _ (lt_of_heap H3.out.2.1)).trans H3.out.2.1)
           have HC := Lib.hid hC
           clear hC hK
           go_simp
           with_reducible exact ⟨rfl, HC.out⟩
         simp only [Act.put, List.setIfInBounds_toArray, List.set_cons_succ, List.set_cons_zero]))
    refine' R6.WalkR.det (fun _ => rfl) (fun D ρ W hK hC => ?_) ?_
    rotate_left
    · exact gives_load_at 58 (.tmp 34) rfl rfl _ (pcl_at (j := i) (H3.out.1.trans (hC.mono H3.out.1.size)) (Nat.lt_of_lt_of_le hcPB hB) HP.out.1) rowPole ⟨rfl, hC⟩
    simp only [Act.put, List.setIfInBounds_toArray, List.set_cons_succ, List.set_cons_zero]
    refine' R6.WalkR.det (fun _ => rfl) (fun D ρ W hK hC => ?_) ?_
    rotate_left
    · have HC := Lib.hid hC
      clear hC hK
      go_simp
      go_at_call 21
      refine (HP.out.2.1 W (H3.out.1.trans (HC.out.mono H3.out.1.size))).mono ?_
      rintro e W1 ⟨rfl, hB1⟩
      exact ⟨_, rfl, rfl, HC.out.trans (hB1.mono HC.out.size)⟩
    simp only [Act.put, List.setIfInBounds_toArray, List.set_cons_succ, List.set_cons_zero]
    repeat (first
      | (refine' R6.WalkR.det (fun _ => rfl) (fun D ρ W hK hC => ?_) ?_
         rotate_left
         · obtain ⟨n1, n2⟩ := HNP.out
           have HC := Lib.hid hC
           clear hC hK
           go_simp
           with_reducible exact ⟨rfl, HC.out⟩
         simp only [Act.put, List.setIfInBounds_toArray, List.set_cons_succ, List.set_cons_zero]))
    refine R6.WalkR.nil (fun D ρ W4 hD hC => ?_)
    have H4 := Lib.hid (And.intro (H3.out.1.trans (hC.mono H3.out.1.size)) (And.intro ((hC.block _ (lt_of_heap H3.out.2.1)).trans H3.out.2.1) (And.intro ((hC.block _ (lt_of_heap H3.out.2.2.1)).trans H3.out.2.2.1) ((hC.block _ (lt_of_heap H3.out.2.2.2)).trans H3.out.2.2.2))))
    clear hC hD
    go_wp2_with (first
      | (show wpList _ _ _ (Oper.mk none (Op.store _ (Operand.tmp 8) (Operand.tmp 38)) _ _ _ _ :: _) _ _
         refine wpList_store_blk 38 (.tmp 8) (.tmp 38) rfl rfl rfl rfl (cs := [.int .i64 0, .int .i64 0]) rfl H4.out.2.2.2 (Nat.le_of_ble_eq_true rfl) (sp2_one (0, 0)) rowSpan5 ?_
         intro w9 hP9 hM9
         rw [splice_whole (by rfl)] at hM9
         have H9 := Lib.hid (And.intro (H4.out.1.trans (hP9.below (by omega))) hM9)
         clear hP9 hM9))
    refine bodyPost_ret (v := .tuple #[.agg [Value.int .i64 0, .int .i64 0].toArray, .int .i64 8]) (results_cell_tmp (cs := [.int .i64 0, .int .i64 0]) Try.results10 rfl H9.out.2 rowSpan5 rfl) rfl ⟨rfl, H9.out.1⟩
  rw [if_neg h0]
  have hsm := fun ht => HP.out.2.2.2.2.1 ht (by omega)
  have hspn := HP.out.2.2.2.1 (by omega)
  have htr := HP.out.2.2.1
  have hbe := HP.out.2.2.2.2.2
  have hof := HP.out.2.1
  have hcP := HP.out.1
  clear HP
  generalize gOf gs p = np at hof h0
  have HP := Lib.hid (And.intro hcP (And.intro hof (And.intro htr (And.intro hspn hbe))))
  clear hcP hof htr hspn hbe
  have HNP := Lib.hid (And.intro (show ((np : Int) == 0) = false by simp; omega) (show ¬ (np : Int) = 0 by omega))
  clear h0
  cases htv : truth gs vary ps ts
  · rw [if_neg (by decide)]
    rw [htv] at HP
    clear htv hsm
    go_enter Try.func10, Try.ntmps10
    go_wp2_with (first
      | (go_at_call 26; refine (rfWithin_any _ _ _ _).mono ?_; rintro e _ ⟨rfl, rfl⟩; rw [HSC.out])
      | (show wpList _ _ _ (Oper.mk (some 20) _ _ _ _ _ :: _) _ _
         refine wpList_load_blk 25 (.tmp 4) rfl rfl rfl H2.out.2.1 [.slice (some ⟨cP, oP, none⟩) ps.length cp, .slice AT ts.length ct] at0 rowSheet5 ?_)
      | (go_at_call 20
         refine (HA.out w2 H2.out.1).mono ?_
         rintro e w3 ⟨rfl, hB3⟩
         have H3 := Lib.hid (And.intro (H2.out.1.trans (hB3.mono H2.out.1.size)) (And.intro ((hB3.block _ (lt_of_heap H2.out.2.1)).trans H2.out.2.1) (And.intro ((hB3.block _ (lt_of_heap H2.out.2.2.1)).trans H2.out.2.2.1) ((hB3.block _ (lt_of_heap H2.out.2.2.2)).trans H2.out.2.2.2))))
         clear hB3)
      | (show wpList _ _ _ (Oper.mk (some 13) _ _ _ _ _ :: _) _ _
         refine wpList_load_blk 25 (.tmp 4) rfl rfl rfl H1.out.2.1 [.slice (some ⟨cP, oP, none⟩) ps.length cp, .slice AT ts.length ct] at0 rowSheet5 ?_)
      | (show wpList _ _ _ (Oper.mk (some 14) _ _ _ _ _ :: _) _ _
         refine wpList_load_blk 28 (.tmp 5) rfl rfl rfl H1.out.2.2.1 [.slice AG gs.length cg, .int .i64 vary] at0 rowGrading5 ?_)
      | (go_at_call 14
         refine (HC1.out w1 H1.out.1).mono ?_
         rintro e w2 ⟨rfl, hB2⟩
         have H2 := Lib.hid (And.intro (H1.out.1.trans (hB2.mono H1.out.1.size)) (And.intro ((hB2.block _ (lt_of_heap H1.out.2.1)).trans H1.out.2.1) (And.intro ((hB2.block _ (lt_of_heap H1.out.2.2.1)).trans H1.out.2.2.1) ((hB2.block _ (lt_of_heap H1.out.2.2.2)).trans H1.out.2.2.2))))
         clear hB2))
    refine R6.wp_walk (C := fun _ _ W => Below w3.heap.size w3 W) 72 (by kernel_rfl) (by kernel_rfl) rfl (Below.refl _ _).drew ?_
    simp only []
    refine' R6.WalkR.det (fun _ => rfl) (fun D ρ W hK hC => ?_) ?_
    rotate_left
    · exact gives_load_blk 28 (.tmp 5) rfl rfl ((hC.block _ (lt_of_heap H3.out.2.2.1)).trans H3.out.2.2.1) [.slice AG gs.length cg, .int .i64 vary] at0 rowGrading5 ⟨rfl, hC⟩
    simp only [Act.put, List.setIfInBounds_toArray, List.set_cons_succ, List.set_cons_zero]
    repeat (first
      | (refine' R6.WalkR.det (fun _ => rfl) (fun D ρ W hK hC => ?_) ?_
         rotate_left
         · have f1 : W.cell? ⟨w.heap.size, 0, none⟩ = some (.slice (some ⟨cP, oP, none⟩) ps.length cp) := cell_of_row W _ 0 _ _ _ ((hC.block _ (lt_of_heap H3.out.2.1)).trans H3.out.2.1)
           have HC := Lib.hid hC
           clear hC hK
           go_simp
           with_reducible exact ⟨rfl, HC.out⟩
         simp only [Act.put, List.setIfInBounds_toArray, List.set_cons_succ, List.set_cons_zero]))
    refine' R6.WalkR.det (fun _ => rfl) (fun D ρ W hK hC => ?_) ?_
    rotate_left
    · exact gives_load_at 58 (.tmp 34) rfl rfl _ (pcl_at (j := i) (H3.out.1.trans (hC.mono H3.out.1.size)) (Nat.lt_of_lt_of_le hcPB hB) HP.out.1) rowPole ⟨rfl, hC⟩
    simp only [Act.put, List.setIfInBounds_toArray, List.set_cons_succ, List.set_cons_zero]
    refine' R6.WalkR.det (fun _ => rfl) (fun D ρ W hK hC => ?_) ?_
    rotate_left
    · have HC := Lib.hid hC
      clear hC hK
      go_simp
      go_at_call 21
      refine (HP.out.2.1 W (H3.out.1.trans (HC.out.mono H3.out.1.size))).mono ?_
      rintro e W1 ⟨rfl, hB1⟩
      exact ⟨_, rfl, rfl, HC.out.trans (hB1.mono HC.out.size)⟩
    simp only [Act.put, List.setIfInBounds_toArray, List.set_cons_succ, List.set_cons_zero]
    repeat (first
      | (refine' R6.WalkR.det (fun _ => rfl) (fun D ρ W hK hC => ?_) ?_
         rotate_left
         · obtain ⟨n1, n2⟩ := HNP.out
           have HC := Lib.hid hC
           clear hC hK
           go_simp
           with_reducible exact ⟨rfl, HC.out⟩
         simp only [Act.put, List.setIfInBounds_toArray, List.set_cons_succ, List.set_cons_zero]))
    refine R6.WalkR.nil (fun D ρ W4 hD hC => ?_)
    have H4 := Lib.hid (And.intro (H3.out.1.trans (hC.mono H3.out.1.size)) (And.intro ((hC.block _ (lt_of_heap H3.out.2.1)).trans H3.out.2.1) (And.intro ((hC.block _ (lt_of_heap H3.out.2.2.1)).trans H3.out.2.2.1) ((hC.block _ (lt_of_heap H3.out.2.2.2)).trans H3.out.2.2.2))))
    clear hC hD
    have f2 : W4.cell? ⟨w.heap.size, 1, none⟩ = some (.slice AT ts.length ct) := cell_of_row W4 _ 1 _ _ _ H4.out.2.1
    go_wp2_with (first
      | (show wpList _ _ _ (Oper.mk none (Op.store _ (Operand.tmp 8) (Operand.tmp 45)) _ _ _ _ :: _) _ _
         refine wpList_store_blk 38 (.tmp 8) (.tmp 45) rfl rfl rfl rfl (cs := [.int .i64 0, .int .i64 0]) rfl H5.out.2.2.2 (Nat.le_of_ble_eq_true rfl) (sp2_one (0, 0)) rowSpan5 ?_
         intro w9 hP9 hM9
         rw [splice_whole (by rfl)] at hM9
         have H9 := Lib.hid (And.intro (H5.out.1.trans (hP9.below (by omega))) hM9)
         clear hP9 hM9)
      | (show wpList _ _ _ (Oper.mk (some 39) _ _ _ _ _ :: _) _ _
         refine wpList_load_blk 25 (.tmp 4) rfl rfl rfl H4.out.2.1 [.slice (some ⟨cP, oP, none⟩) ps.length cp, .slice AT ts.length ct] at0 rowSheet5 ?_)
      | (show wpList _ _ _ (Oper.mk (some 40) _ _ _ _ _ :: _) _ _
         refine wpList_load_blk 28 (.tmp 5) rfl rfl rfl H4.out.2.2.1 [.slice AG gs.length cg, .int .i64 vary] at0 rowGrading5 ?_)
      | (go_at_call 27
         refine (HP.out.2.2.1 W4 H4.out.1).mono ?_
         rintro e w5 ⟨rfl, hB5⟩
         have H5 := Lib.hid (And.intro (H4.out.1.trans (hB5.mono H4.out.1.size)) (And.intro ((hB5.block _ (lt_of_heap H4.out.2.1)).trans H4.out.2.1) (And.intro ((hB5.block _ (lt_of_heap H4.out.2.2.1)).trans H4.out.2.2.1) ((hB5.block _ (lt_of_heap H4.out.2.2.2)).trans H4.out.2.2.2))))
         clear hB5))
    refine bodyPost_ret (v := .tuple #[.agg [Value.int .i64 0, .int .i64 0].toArray, .int .i64 52]) (results_cell_tmp (cs := [.int .i64 0, .int .i64 0]) Try.results10 rfl H9.out.2 rowSpan5 rfl) rfl ⟨rfl, H9.out.1⟩
  rw [if_pos rfl]
  rw [htv] at HP
  have hsm := hsm htv
  clear htv
  generalize spanT gs vary ps ts p k = z at HP hsm ⊢
  obtain ⟨z1, z2⟩ := z
  have hsm' : (1 ≤ z1 ∧ z1 ≤ 200000) ∧ (1 ≤ z2 ∧ z2 ≤ 200000) := hsm
  clear hsm
  show Calls _ _ _ _ fun e w' => e = .returned (.tuple #[.agg (sp2 (bears p k z1, bears p k z2)).toArray, .int .i64 0]) ∧ _
  have hb1 := HP.out.2.2.2.2 z1 (by omega) (by omega)
  have hb2 := HP.out.2.2.2.2 z2 (by omega) (by omega)
  generalize bears p k z1 = y1 at hb1 ⊢
  generalize bears p k z2 = y2 at hb2 ⊢
  have HBE := Lib.hid (And.intro hb1 hb2)
  clear hb1 hb2 hsm'
  go_enter Try.func10, Try.ntmps10
  go_wp2_with (first
    | (go_at_call 26; refine (rfWithin_any _ _ _ _).mono ?_; rintro e _ ⟨rfl, rfl⟩; rw [HSC.out])
    | (show wpList _ _ _ (Oper.mk (some 20) _ _ _ _ _ :: _) _ _
       refine wpList_load_blk 25 (.tmp 4) rfl rfl rfl H2.out.2.1 [.slice (some ⟨cP, oP, none⟩) ps.length cp, .slice AT ts.length ct] at0 rowSheet5 ?_)
    | (go_at_call 20
       refine (HA.out w2 H2.out.1).mono ?_
       rintro e w3 ⟨rfl, hB3⟩
       have H3 := Lib.hid (And.intro (H2.out.1.trans (hB3.mono H2.out.1.size)) (And.intro ((hB3.block _ (lt_of_heap H2.out.2.1)).trans H2.out.2.1) (And.intro ((hB3.block _ (lt_of_heap H2.out.2.2.1)).trans H2.out.2.2.1) ((hB3.block _ (lt_of_heap H2.out.2.2.2)).trans H2.out.2.2.2))))
       clear hB3)
    | (show wpList _ _ _ (Oper.mk (some 13) _ _ _ _ _ :: _) _ _
       refine wpList_load_blk 25 (.tmp 4) rfl rfl rfl H1.out.2.1 [.slice (some ⟨cP, oP, none⟩) ps.length cp, .slice AT ts.length ct] at0 rowSheet5 ?_)
    | (show wpList _ _ _ (Oper.mk (some 14) _ _ _ _ _ :: _) _ _
       refine wpList_load_blk 28 (.tmp 5) rfl rfl rfl H1.out.2.2.1 [.slice AG gs.length cg, .int .i64 vary] at0 rowGrading5 ?_)
    | (go_at_call 14
       refine (HC1.out w1 H1.out.1).mono ?_
       rintro e w2 ⟨rfl, hB2⟩
       have H2 := Lib.hid (And.intro (H1.out.1.trans (hB2.mono H1.out.1.size)) (And.intro ((hB2.block _ (lt_of_heap H1.out.2.1)).trans H1.out.2.1) (And.intro ((hB2.block _ (lt_of_heap H1.out.2.2.1)).trans H1.out.2.2.1) ((hB2.block _ (lt_of_heap H1.out.2.2.2)).trans H1.out.2.2.2))))
       clear hB2))
  refine R6.wp_walk (C := fun _ _ W => Below w3.heap.size w3 W) 72 (by kernel_rfl) (by kernel_rfl) rfl (Below.refl _ _).drew ?_
  simp only []
  refine' R6.WalkR.det (fun _ => rfl) (fun D ρ W hK hC => ?_) ?_
  rotate_left
  · exact gives_load_blk 28 (.tmp 5) rfl rfl ((hC.block _ (lt_of_heap H3.out.2.2.1)).trans H3.out.2.2.1) [.slice AG gs.length cg, .int .i64 vary] at0 rowGrading5 ⟨rfl, hC⟩
  simp only [Act.put, List.setIfInBounds_toArray, List.set_cons_succ, List.set_cons_zero]
  repeat (first
    | (refine' R6.WalkR.det (fun _ => rfl) (fun D ρ W hK hC => ?_) ?_
       rotate_left
       · have f1 : W.cell? ⟨w.heap.size, 0, none⟩ = some (.slice (some ⟨cP, oP, none⟩) ps.length cp) := cell_of_row W _ 0 _ _ _ ((hC.block _ (lt_of_heap H3.out.2.1)).trans H3.out.2.1)
         have HC := Lib.hid hC
         clear hC hK
         go_simp
         with_reducible exact ⟨rfl, HC.out⟩
       simp only [Act.put, List.setIfInBounds_toArray, List.set_cons_succ, List.set_cons_zero]))
  refine' R6.WalkR.det (fun _ => rfl) (fun D ρ W hK hC => ?_) ?_
  rotate_left
  · exact gives_load_at 58 (.tmp 34) rfl rfl _ (pcl_at (j := i) (H3.out.1.trans (hC.mono H3.out.1.size)) (Nat.lt_of_lt_of_le hcPB hB) HP.out.1) rowPole ⟨rfl, hC⟩
  simp only [Act.put, List.setIfInBounds_toArray, List.set_cons_succ, List.set_cons_zero]
  refine' R6.WalkR.det (fun _ => rfl) (fun D ρ W hK hC => ?_) ?_
  rotate_left
  · have HC := Lib.hid hC
    clear hC hK
    go_simp
    go_at_call 21
    refine (HP.out.2.1 W (H3.out.1.trans (HC.out.mono H3.out.1.size))).mono ?_
    rintro e W1 ⟨rfl, hB1⟩
    exact ⟨_, rfl, rfl, HC.out.trans (hB1.mono HC.out.size)⟩
  simp only [Act.put, List.setIfInBounds_toArray, List.set_cons_succ, List.set_cons_zero]
  repeat (first
    | (refine' R6.WalkR.det (fun _ => rfl) (fun D ρ W hK hC => ?_) ?_
       rotate_left
       · obtain ⟨n1, n2⟩ := HNP.out
         have HC := Lib.hid hC
         clear hC hK
         go_simp
         with_reducible exact ⟨rfl, HC.out⟩
       simp only [Act.put, List.setIfInBounds_toArray, List.set_cons_succ, List.set_cons_zero]))
  refine R6.WalkR.nil (fun D ρ W4 hD hC => ?_)
  have H4 := Lib.hid (And.intro (H3.out.1.trans (hC.mono H3.out.1.size)) (And.intro ((hC.block _ (lt_of_heap H3.out.2.1)).trans H3.out.2.1) (And.intro ((hC.block _ (lt_of_heap H3.out.2.2.1)).trans H3.out.2.2.1) ((hC.block _ (lt_of_heap H3.out.2.2.2)).trans H3.out.2.2.2))))
  clear hC hD
  have f2 : W4.cell? ⟨w.heap.size, 1, none⟩ = some (.slice AT ts.length ct) := cell_of_row W4 _ 1 _ _ _ H4.out.2.1
  go_wp2_with (first
    | (go_at_call 28
       refine (HP.out.2.2.2.1 w5 H5.out.1).mono ?_
       rintro e w6 ⟨rfl, hB6⟩
       have H6 := Lib.hid (And.intro (H5.out.1.trans (hB6.mono H5.out.1.size)) (And.intro ((hB6.block _ (lt_of_heap H5.out.2.1)).trans H5.out.2.1) (And.intro ((hB6.block _ (lt_of_heap H5.out.2.2.1)).trans H5.out.2.2.1) ((hB6.block _ (lt_of_heap H5.out.2.2.2)).trans H5.out.2.2.2))))
       clear hB6)
    | (show wpList _ _ _ (Oper.mk none (Op.store _ (Operand.tmp 12) (Operand.tmp 52)) _ _ _ _ :: _) _ _
       refine wpList_store_blk 38 (.tmp 12) (.tmp 52) rfl rfl rfl rfl rfl (alloc_at0 w6 _) (Nat.le_of_ble_eq_true rfl) (sp2_one _) rowSpan5 ?_
       intro w7 hP7 hM7
       rw [splice_whole (by rfl)] at hM7
       have hb7 : Below w6.heap.size w6 w7 := (grow1 w6 _).trans (hP7.below (Nat.le_refl _))
       have H7 := Lib.hid (And.intro (And.intro (H6.out.1.trans (hb7.mono H6.out.1.size)) (And.intro ((hb7.block _ (lt_of_heap H6.out.2.1)).trans H6.out.2.1) (And.intro ((hb7.block _ (lt_of_heap H6.out.2.2.1)).trans H6.out.2.2.1) ((hb7.block _ (lt_of_heap H6.out.2.2.2)).trans H6.out.2.2.2)))) hM7)
       clear hP7 hM7 hb7)
    | (show wpList _ _ _ (Oper.mk (some 46) _ _ _ _ _ :: _) _ _
       refine wpList_load_blk 25 (.tmp 4) rfl rfl rfl H5.out.2.1 [.slice (some ⟨cP, oP, none⟩) ps.length cp, .slice AT ts.length ct] at0 rowSheet5 ?_)
    | (show wpList _ _ _ (Oper.mk (some 47) _ _ _ _ _ :: _) _ _
       refine wpList_load_blk 28 (.tmp 5) rfl rfl rfl H5.out.2.2.1 [.slice AG gs.length cg, .int .i64 vary] at0 rowGrading5 ?_)
    | (show wpList _ _ _ (Oper.mk (some 39) _ _ _ _ _ :: _) _ _
       refine wpList_load_blk 25 (.tmp 4) rfl rfl rfl H4.out.2.1 [.slice (some ⟨cP, oP, none⟩) ps.length cp, .slice AT ts.length ct] at0 rowSheet5 ?_)
    | (show wpList _ _ _ (Oper.mk (some 40) _ _ _ _ _ :: _) _ _
       refine wpList_load_blk 28 (.tmp 5) rfl rfl rfl H4.out.2.2.1 [.slice AG gs.length cg, .int .i64 vary] at0 rowGrading5 ?_)
    | (go_at_call 27
       refine (HP.out.2.2.1 W4 H4.out.1).mono ?_
       rintro e w5 ⟨rfl, hB5⟩
       have H5 := Lib.hid (And.intro (H4.out.1.trans (hB5.mono H4.out.1.size)) (And.intro ((hB5.block _ (lt_of_heap H4.out.2.1)).trans H4.out.2.1) (And.intro ((hB5.block _ (lt_of_heap H4.out.2.2.1)).trans H4.out.2.2.1) ((hB5.block _ (lt_of_heap H4.out.2.2.2)).trans H4.out.2.2.2))))
       have f3 : w5.cell? ⟨w.heap.size, 1, none⟩ = some (.slice AT ts.length ct) := cell_of_row w5 _ 1 _ _ _ H5.out.2.1
       clear hB5))
  refine R6.wp_walk (C := StM w (w.heap.size + 1 + 1) 38 [.int .i64 0, .int .i64 0] (sp2 (y1, y2)) [(w.heap.size, .cells #[.slice (some ⟨cP, oP, none⟩) ps.length cp, .slice AT ts.length ct] 25), (w6.heap.size, .cells (sp2 (z1, z2)).toArray 38)] 19) 72 (by kernel_rfl) (by kernel_rfl) rfl
    ⟨H7.out.1.1.drew, fun _ => H7.out.1.2.2.2, (fun e => by cases e), lt_of_heap H7.out.1.2.2.2, ⟨H7.out.1.2.1, H7.out.2, trivial⟩⟩ ?_
  simp only []
  repeat (first
    | (refine' R6.WalkR.det (fun _ => rfl) (fun D ρ W hK hC => ?_) ?_
       rotate_left
       · have f1 : W.cell? ⟨w.heap.size, 0, none⟩ = some (.slice (some ⟨cP, oP, none⟩) ps.length cp) := cell_of_row W _ 0 _ _ _ hC.box.1
         have f3 : W.cell? ⟨w6.heap.size, 0, none⟩ = some (.int .i64 z1) := cell_of_row W _ 0 _ _ _ hC.box.2.1
         have f4 : W.cell? ⟨w6.heap.size, 1, none⟩ = some (.int .i64 z2) := cell_of_row W _ 1 _ _ _ hC.box.2.1
         have HC := Lib.hid hC
         clear hC hK
         go_simp
         with_reducible exact ⟨rfl, HC.out.move (by decide)⟩
       simp only [Act.put, List.setIfInBounds_toArray, List.set_cons_succ, List.set_cons_zero]))
  refine' R6.WalkR.det (fun _ => rfl) (fun D ρ W hK hC => ?_) ?_
  rotate_left
  · exact gives_load_at 58 (.tmp 56) rfl rfl _ (pcl_at (j := i) hC.bel (Nat.lt_of_lt_of_le hcPB hB) HP.out.1) rowPole ⟨rfl, hC.move (by decide)⟩
  simp only [Act.put, List.setIfInBounds_toArray, List.set_cons_succ, List.set_cons_zero]
  repeat (first
    | (refine' R6.WalkR.det (fun _ => rfl) (fun D ρ W hK hC => ?_) ?_
       rotate_left
       · have f1 : W.cell? ⟨w.heap.size, 0, none⟩ = some (.slice (some ⟨cP, oP, none⟩) ps.length cp) := cell_of_row W _ 0 _ _ _ hC.box.1
         have f3 : W.cell? ⟨w6.heap.size, 0, none⟩ = some (.int .i64 z1) := cell_of_row W _ 0 _ _ _ hC.box.2.1
         have f4 : W.cell? ⟨w6.heap.size, 1, none⟩ = some (.int .i64 z2) := cell_of_row W _ 1 _ _ _ hC.box.2.1
         have HC := Lib.hid hC
         clear hC hK
         go_simp
         with_reducible exact ⟨rfl, HC.out.move (by decide)⟩
       simp only [Act.put, List.setIfInBounds_toArray, List.set_cons_succ, List.set_cons_zero]))
  refine' R6.WalkR.det (fun _ => rfl) (fun D ρ W hK hC => ?_) ?_
  rotate_left
  · have HC := Lib.hid hC
    clear hC hK
    go_simp
    go_at_call 29
    refine (HBE.out.1 W).mono ?_
    rintro e W1 ⟨rfl, hB1⟩
    exact ⟨_, rfl, rfl, (HC.out.next hB1).move (by decide)⟩
  simp only [Act.put, List.setIfInBounds_toArray, List.set_cons_succ, List.set_cons_zero]
  repeat (first
    | (refine' R6.WalkR.det (fun _ => rfl) (fun D ρ W hK hC => ?_) ?_
       rotate_left
       · have f1 : W.cell? ⟨w.heap.size, 0, none⟩ = some (.slice (some ⟨cP, oP, none⟩) ps.length cp) := cell_of_row W _ 0 _ _ _ hC.box.1
         have f3 : W.cell? ⟨w6.heap.size, 0, none⟩ = some (.int .i64 z1) := cell_of_row W _ 0 _ _ _ hC.box.2.1
         have f4 : W.cell? ⟨w6.heap.size, 1, none⟩ = some (.int .i64 z2) := cell_of_row W _ 1 _ _ _ hC.box.2.1
         have HC := Lib.hid hC
         clear hC hK
         go_simp
         with_reducible exact ⟨rfl, HC.out.move (by decide)⟩
       simp only [Act.put, List.setIfInBounds_toArray, List.set_cons_succ, List.set_cons_zero]))
  refine' R6.WalkR.det (fun _ => rfl) (fun D ρ W hK hC => ?_) ?_
  rotate_left
  · exact gives_load_at 58 (.tmp 65) rfl rfl _ (pcl_at (j := i) hC.bel (Nat.lt_of_lt_of_le hcPB hB) HP.out.1) rowPole ⟨rfl, hC.move (by decide)⟩
  simp only [Act.put, List.setIfInBounds_toArray, List.set_cons_succ, List.set_cons_zero]
  repeat (first
    | (refine' R6.WalkR.det (fun _ => rfl) (fun D ρ W hK hC => ?_) ?_
       rotate_left
       · have f1 : W.cell? ⟨w.heap.size, 0, none⟩ = some (.slice (some ⟨cP, oP, none⟩) ps.length cp) := cell_of_row W _ 0 _ _ _ hC.box.1
         have f3 : W.cell? ⟨w6.heap.size, 0, none⟩ = some (.int .i64 z1) := cell_of_row W _ 0 _ _ _ hC.box.2.1
         have f4 : W.cell? ⟨w6.heap.size, 1, none⟩ = some (.int .i64 z2) := cell_of_row W _ 1 _ _ _ hC.box.2.1
         have HC := Lib.hid hC
         clear hC hK
         go_simp
         with_reducible exact ⟨rfl, HC.out.move (by decide)⟩
       simp only [Act.put, List.setIfInBounds_toArray, List.set_cons_succ, List.set_cons_zero]))
  refine' R6.WalkR.det (fun _ => rfl) (fun D ρ W hK hC => ?_) ?_
  rotate_left
  · have HC := Lib.hid hC
    clear hC hK
    go_simp
    go_at_call 29
    refine (HBE.out.2 W).mono ?_
    rintro e W1 ⟨rfl, hB1⟩
    exact ⟨_, rfl, rfl, (HC.out.next hB1).move (by decide)⟩
  simp only [Act.put, List.setIfInBounds_toArray, List.set_cons_succ, List.set_cons_zero]
  repeat (first
    | (refine' R6.WalkR.det (fun _ => rfl) (fun D ρ W hK hC => ?_) ?_
       rotate_left
       · have f1 : W.cell? ⟨w.heap.size, 0, none⟩ = some (.slice (some ⟨cP, oP, none⟩) ps.length cp) := cell_of_row W _ 0 _ _ _ hC.box.1
         have f3 : W.cell? ⟨w6.heap.size, 0, none⟩ = some (.int .i64 z1) := cell_of_row W _ 0 _ _ _ hC.box.2.1
         have f4 : W.cell? ⟨w6.heap.size, 1, none⟩ = some (.int .i64 z2) := cell_of_row W _ 1 _ _ _ hC.box.2.1
         have HC := Lib.hid hC
         clear hC hK
         go_simp
         with_reducible exact ⟨rfl, HC.out.move (by decide)⟩
       simp only [Act.put, List.setIfInBounds_toArray, List.set_cons_succ, List.set_cons_zero]))
  refine' R6.WalkR.det (c := undef) (fun _ => rfl) (fun D ρ W hK hC => ?_) ?_
  · refine gives_store_blk 38 (.tmp 8) (.tmp 71) (cs := sp2 (y1, y2)) rfl rfl rfl (hC.hX hK.me) (Nat.le_of_ble_eq_true rfl) (sp2_one _) rowSpan5 ?_
    intro W' hP hM'
    rw [splice_whole (by rfl)] at hM'
    have hl6 := H6.out.1.size
    have hl7 := lt_of_heap H6.out.2.2.2
    exact ⟨rfl, hC.put hP hM' (by omega) (fun e he => by simp only [List.mem_cons, List.not_mem_nil, or_false] at he; rcases he with rfl | rfl <;> (dsimp only; omega))⟩
  simp only [Act.put, List.setIfInBounds_toArray, List.set_cons_succ, List.set_cons_zero]
  repeat (first
    | (refine' R6.WalkR.det (fun _ => rfl) (fun D ρ W hK hC => ?_) ?_
       rotate_left
       · skip
         have HC := Lib.hid hC
         clear hC hK
         go_simp
         with_reducible exact ⟨rfl, HC.out.move (by decide)⟩
       simp only [Act.put, List.setIfInBounds_toArray, List.set_cons_succ, List.set_cons_zero]))
  refine R6.WalkR.nil (fun D ρ W9 hD hC => ?_)
  have H9 := Lib.hid (And.intro hC.bel (hC.hY (hD 19 (by omega))))
  clear hC hD
  go_wp2
  refine bodyPost_ret (v := .tuple #[.agg (sp2 (y1, y2)).toArray, .int .i64 0]) (results_cell_tmp (cs := sp2 (y1, y2)) Try.results10 rfl H9.out.2 rowSpan5 rfl) rfl ⟨rfl, H9.out.1⟩

end Go.Proofs.Ytboffligjgjgjaa
