/-
  Between which stresses a section of a pole is in all truths (the reference's).
-/
import Derived.Test.YtboffligjgjgjaaGrY
import Derived.Test.YtboffligjgjgjaaGrT
import Derived.BigGuardPart
namespace Go.Proofs.Ytboffligjgjgjaa
open Go.RowKit Go.BigFrame
open R6 (done done_ne done_me upd_ne upd_me)

attribute [local go_sem] gives

/-- What the first j poles leave. -/
def spJ (gs : List Gd) (vary : Int) (ps : List Pol) (ts : List Ts) (p : Pol) (k j : Nat) : Int × Int := ((ps.take j).filter fun q => gOf gs q == gOf gs p).foldl (fun s q => cut1 s (wid1 vary (ownP gs ts k q))) (ownP gs ts k p)
theorem spJ_all (gs : List Gd) (vary : Int) (ps : List Pol) (ts : List Ts) (p : Pol) (k : Nat) : spJ gs vary ps ts p k ps.length = spanT gs vary ps ts p k := by
  unfold spJ spanT peers
  rw [List.take_length]
theorem spJ_step (gs : List Gd) (vary : Int) (ps : List Pol) (ts : List Ts) (p : Pol) (k j : Nat) (hj : j < ps.length) : spJ gs vary ps ts p k (j + 1) = if gOf gs ps[j] = gOf gs p then cut1 (spJ gs vary ps ts p k j) (wid1 vary (ownP gs ts k ps[j])) else spJ gs vary ps ts p k j := by
  unfold spJ
  rw [List.take_add_one, List.getElem?_eq_getElem hj, List.filter_append, List.foldl_append]
  by_cases h : gOf gs ps[j] = gOf gs p
  · rw [if_pos h]
    simp [h]
  · rw [if_neg h]
    have : (gOf gs ps[j] == gOf gs p) = false := by simpa using h
    simp [this]
theorem cutF_le (f : Pol → Int × Int) : ∀ (l : List Pol) (s : Int × Int), s.1 ≤ (l.foldl (fun s q => cut1 s (f q)) s).1 ∧ (l.foldl (fun s q => cut1 s (f q)) s).2 ≤ s.2
  | [], _ => ⟨Int.le_refl _, Int.le_refl _⟩
  | q :: l, s => by
    have := cutF_le f l (cut1 s (f q))
    rw [List.foldl_cons]
    have e : (cut1 s (f q)).1 = max s.1 (f q).1 ∧ (cut1 s (f q)).2 = min s.2 (f q).2 := ⟨rfl, rfl⟩
    rw [e.1, e.2] at this
    omega
theorem spJ_self {gs : List Gd} {vary : Int} {ps : List Pol} {ts : List Ts} {p : Pol} {k j : Nat} (hv : 0 ≤ vary) : cut1 (spJ gs vary ps ts p k j) (wid1 vary (ownP gs ts k p)) = spJ gs vary ps ts p k j := by
  have := cutF_le (fun q => wid1 vary (ownP gs ts k q)) ((ps.take j).filter fun q => gOf gs q == gOf gs p) (ownP gs ts k p)
  unfold spJ
  generalize (((ps.take j).filter fun q => gOf gs q == gOf gs p).foldl (fun s q => cut1 s (wid1 vary (ownP gs ts k q))) (ownP gs ts k p)) = s at this ⊢
  obtain ⟨s1, s2⟩ := s
  generalize ownP gs ts k p = o at this ⊢
  obtain ⟨o1, o2⟩ := o
  simp only [cut1, wid1, Prod.mk.injEq] at this ⊢
  omega
theorem gAt_mem5 {gs : List Gd} {p : Pol} (h : 1 ≤ gOf gs p) : gAt gs p ∈ gs := by
  have hl := gOf_le gs p
  have : gOf gs p - 1 < gs.length := by omega
  simp [gAt, this]
theorem okPol_secs5 {p : Pol} (h : okPol p = true) : okSecs p = true := by
  simp only [okPol, Bool.and_eq_true] at h
  exact h.2.2.2.1
theorem okPol_yrs5 {p : Pol} (h : okPol p = true) : yrs p := by
  simp only [okPol, Bool.and_eq_true, inR_iff, decide_eq_true_eq] at h
  exact ⟨h.2.1.1, h.2.1.2⟩
theorem ownP_small {gs : List Gd} {ts : List Ts} {k : Nat} {p : Pol} (hk : k < 3) (h : okPol p = true) (hg1 : 1 ≤ gOf gs p) (ht : ∀ t ∈ ts, okT t) (hok : ∀ g ∈ gs, okG2 g) : (1 ≤ (ownP gs ts k p).1 ∧ (ownP gs ts k p).1 ≤ 1000000000) ∧ (0 ≤ (ownP gs ts k p).2 ∧ (ownP gs ts k p).2 ≤ 200000) :=
  own_small (okPol_secs5 h) ht (hok _ (gAt_mem5 hg1) k hk).1 (hok _ (gAt_mem5 hg1) k hk).2
theorem pcl_at {w W : World} {n : Nat} {cP oP j : Nat} {q : Pol} (hb : Below n w W) (hn : cP < n) (hc : ∀ m v, (pcl q)[m]? = some v → w.cell? ⟨cP, oP + j * 12 + m, none⟩ = some v) : ∀ m v, (pcl q)[m]? = some v → W.cell? ⟨cP, oP + j * 12 + m, none⟩ = some v :=
  fun m v hv => (hb.cell (p := ⟨cP, oP + j * 12 + m, none⟩) hn).trans (hc m v hv)

set_option maxRecDepth 100000 in
set_option maxHeartbeats 16000000 in
theorem rfSpan_any (gs : List Gd) (vary : Int) (ps : List Pol) (ts : List Ts) (AP : Option Addr) (cp : Nat) (AT : Option Addr) (nt ct : Nat) (AG : Option Addr) (cg : Nat) (A2 : Option Addr) (c2 : Nat) (i k : Nat) (B : Nat) (w : World) (hB : B ≤ w.heap.size)
    (hz : Vals w B AP (ps.flatMap pcl)) (hg : GdAt w B gs AG) (h2 : Vals w B A2 (ts.flatMap tcl)) (hl2 : ts.length ≤ 1000000) (hlp : ps.length ≤ 1000000) (hv : 0 ≤ vary ∧ vary ≤ 200000) (hpo : ∀ p ∈ ps, okPol p = true) (ht : ∀ t ∈ ts, okT t) (hok : ∀ g ∈ gs, okG2 g)
    (hi : i < ps.length) (hk : k < 3) (hg1 : 1 ≤ gOf gs ps[i]) :
    Calls Try.prog 28 #[.agg #[.slice AP ps.length cp, .slice AT nt ct], .agg #[.slice AG gs.length cg, .int .i64 vary], .slice A2 ts.length c2, .int .i64 (i : Int), .int .i64 (k : Int)] w
      fun e w' => e = .returned (.agg (sp2 (spanT gs vary ps ts ps[i] k)).toArray) ∧ Below w.heap.size w w' := by
  obtain ⟨cP, oP, hAP, hcPB, hcP⟩ := vals_elem pcl_len hz (by decide) hi
  subst hAP
  obtain ⟨w1, hw1⟩ : ∃ w1, ((w.alloc (.cells #[.slice (some ⟨cP, oP, none⟩) ps.length cp, .slice AT nt ct] 25)).alloc (.cells #[.slice AG gs.length cg, .int .i64 vary] 28)).alloc (.cells #[.int .i64 0, .int .i64 0] 38) = w1 := ⟨_, rfl⟩
  have hb1 : Below w.heap.size w w1 := by rw [← hw1]; exact (grow2 _ _ _).alloc (by simp; omega) _
  have hs1 : w1.heap.size = w.heap.size + 3 := by rw [← hw1]; simp
  have m1 : w1.heap[w.heap.size]? = some (.cells #[.slice (some ⟨cP, oP, none⟩) ps.length cp, .slice AT nt ct] 25 (0, 0)) := by rw [← hw1]; exact alloc3_at0 _ _ _ _
  have m2 : w1.heap[w.heap.size + 1]? = some (.cells #[.slice AG gs.length cg, .int .i64 vary] 28 (0, 0)) := by rw [← hw1]; exact alloc3_at1 _ _ _ _
  have m3 : w1.heap[w.heap.size + 1 + 1]? = some (.cells [Value.int .i64 0, .int .i64 0].toArray 38 (0, 0)) := by rw [← hw1]; exact alloc3_at2 _ _ _ _
  have hown := fun (j : Nat) (hj : j < ps.length) (h1 : 1 ≤ gOf gs ps[j]) (W : World) (hW : Below w.heap.size w W) =>
    rfOwn_any gs vary ps ts (some ⟨cP, oP, none⟩) cp AT nt ct AG cg A2 c2 j k B W (Nat.le_trans hB hW.size) (hz.below (hW.mono hB)) (hg.below (hW.mono hB)) (h2.below (hW.mono hB)) hl2 hlp hj hk h1 (okPol_secs5 (hpo _ (List.getElem_mem hj))) (okPol_yrs5 (hpo _ (List.getElem_mem hj))) ht
  have hof := fun (q : Pol) (hq : q ∈ ps) (W : World) (hW : Below w.heap.size w W) => rfOf_any gs vary q AG cg B W (Nat.le_trans hB hW.size) (hg.below (hW.mono hB)) (okPol_yrs5 (hpo _ hq))
  have hsm := fun (q : Pol) (hq : q ∈ ps) (h1 : 1 ≤ gOf gs q) => ownP_small (ts := ts) hk (hpo q hq) h1 ht hok
  have hoi : ∀ (j : Nat) (hj : j < ps.length), own ps[j] (gAt gs ps[j]) ts k = ownP gs ts k ps[j] := fun _ _ => rfl
  have hst := fun (j : Nat) (hj : j < ps.length) => spJ_step gs vary ps ts ps[i] k j hj
  have hall := spJ_all gs vary ps ts ps[i] k
  have hself : ∀ j, cut1 (spJ gs vary ps ts ps[i] k j) (wid1 vary (ownP gs ts k ps[i])) = spJ gs vary ps ts ps[i] k j := fun j => spJ_self hv.1
  have h00 : spJ gs vary ps ts ps[i] k 0 = ownP gs ts k ps[i] := by simp [spJ]
  have hmi : ps[i] ∈ ps := List.getElem_mem hi
  have howi := hown i hi hg1
  rw [hoi i hi] at howi
  have hpe := fun (j : Nat) (hj : j < ps.length) => vals_elem pcl_len hz (by decide) hj
  have hiz : (i : Int) < ps.length := by omega
  have hkz : (k : Int) < 3 := by omega
  obtain ⟨p, hp⟩ : ∃ p, ps[i] = p := ⟨_, rfl⟩
  rw [hp] at hcP hst hall hself h00 hmi howi hg1 ⊢
  rw [← hall]
  clear hall
  have HO := Lib.hid (And.intro hown (And.intro hof (And.intro hsm (And.intro hoi (And.intro hst (And.intro hself hp))))))
  have HI := Lib.hid (And.intro howi (And.intro hcP (And.intro hmi hg1)))
  have HM := Lib.hid (And.intro hb1 (And.intro m1 (And.intro m2 (And.intro m3 hs1))))
  have HPE := Lib.hid hpe
  have H00 := Lib.hid h00
  clear hown hof hsm hoi hst hself h00 howi hcP hmi hg1 hb1 m1 m2 m3 hs1 hpe hp hz hg h2 hpo ht hok
  go_enter Try.func28, Try.ntmps28
  go_wp2_with (first
    | (show wpList _ _ _ (Oper.mk (some 14) _ _ _ _ _ :: _) _ _
       refine wpList_load_blk 25 (.tmp 5) rfl rfl rfl HM.out.2.1 [.slice (some ⟨cP, oP, none⟩) ps.length cp, .slice AT nt ct] at0 rowSheet5 ?_)
    | (show wpList _ _ _ (Oper.mk (some 15) _ _ _ _ _ :: _) _ _
       refine wpList_load_blk 28 (.tmp 6) rfl rfl rfl HM.out.2.2.1 [.slice AG gs.length cg, .int .i64 vary] at0 rowGrading5 ?_)
    | (go_at_call 45
       refine (HI.out.1 w1 HM.out.1).mono ?_
       rintro e w2 ⟨rfl, hB2⟩
       have H2 := Lib.hid hB2
       clear hB2)
    | (show wpList _ _ _ (Oper.mk none (Op.store _ (Operand.tmp 11) (Operand.tmp 19)) _ _ _ _ :: _) _ _
       refine wpList_store_blk 38 (.tmp 11) (.tmp 19) rfl rfl rfl rfl rfl (alloc_at0 w2 _) (Nat.le_of_ble_eq_true rfl) (sp2_one _) rowSpan5 ?_
       intro w5 hP5 hM5
       rw [splice_whole (by rfl), ← H00.out] at hM5
       have hb5 : Below w1.heap.size w1 w5 := H2.out.trans (((grow1 w2 _).trans (hP5.below (Nat.le_refl _))).mono H2.out.size)
       have H5 := Lib.hid (And.intro hM5 (And.intro (HM.out.1.trans (hb5.mono HM.out.1.size)) (And.intro ((hb5.block _ (lt_of_heap HM.out.2.1)).trans HM.out.2.1) (And.intro ((hb5.block _ (lt_of_heap HM.out.2.2.1)).trans HM.out.2.2.1) ((hb5.block _ (lt_of_heap HM.out.2.2.2.1)).trans HM.out.2.2.2.1)))))
       clear hP5 hM5 hb5))
  have hw12 : w1.heap.size ≤ w2.heap.size := H2.out.size
  have hn1 : w1.heap.size = w.heap.size + 3 := HM.out.2.2.2.2
  have HB := Lib.hid (And.intro hw12 hn1)
  clear hw12 hn1
  go_loopg [12] ps.length (fun gn s12 wx => ∃ j : Nat, j + gn = ps.length ∧ s12 = .int .i64 j ∧ Hid (wx.heap[w2.heap.size]? = some (.cells (sp2 (spJ gs vary ps ts p k j)).toArray 38 (0, 0)) ∧ Below w.heap.size w wx ∧ wx.heap[w.heap.size]? = some (.cells #[.slice (some ⟨cP, oP, none⟩) ps.length cp, .slice AT nt ct] 25 (0, 0)) ∧ wx.heap[w.heap.size + 1]? = some (.cells #[.slice AG gs.length cg, .int .i64 vary] 28 (0, 0)) ∧ wx.heap[w.heap.size + 1 + 1]? = some (.cells [Value.int .i64 0, .int .i64 0].toArray 38 (0, 0))))
  case atStart => exact ⟨0, by omega, rfl, H5.out⟩
  case round =>
    obtain ⟨j, hjg, rfl, hJ⟩ := hrel
    have hcr : wr.cell? ⟨w.heap.size, 0, none⟩ = some (.slice (some ⟨cP, oP, none⟩) ps.length cp) := cell_of_row wr _ 0 _ _ _ hJ.out.2.2.1
    cases gk with
    | zero =>
      have hJ' := hJ.out
      obtain rfl : j = ps.length := by omega
      obtain ⟨z, hze⟩ : ∃ z, z = spJ gs vary ps ts p k ps.length := ⟨_, rfl⟩
      rw [← hze] at hJ'
      have HZE := Lib.hid hze
      have HJ := Lib.hid hJ'
      clear hJ' hze hJ
      go_wp2_with (first
        | (show wpList _ _ _ (Oper.mk (some 70) _ _ _ _ _ :: _) _ _
           refine wpList_load_blk 38 (.tmp 11) rfl rfl rfl HJ.out.1 (sp2 z) at0 rowSpan5 ?_)
        | (show wpList _ _ _ (Oper.mk none (Op.store _ (Operand.tmp 10) (Operand.tmp 70)) _ _ _ _ :: _) _ _
           refine wpList_store_blk 38 (.tmp 10) (.tmp 70) rfl rfl rfl rfl rfl HJ.out.2.2.2.2 (Nat.le_of_ble_eq_true rfl) (sp2_one z) rowSpan5 ?_
           intro w9 hP9 hM9
           rw [splice_whole (by rfl)] at hM9
           have H9 := Lib.hid (And.intro (HJ.out.2.1.trans (hP9.below (by omega))) hM9)
           clear hP9 hM9))
      refine bodyPost_ret (v := .agg (sp2 z).toArray) (results_cell1 Try.results28 rfl H9.out.2 rowSpan5) rfl ⟨by rw [HZE.out], H9.out.1⟩
    | succ gn =>
      have hj : j < ps.length := by omega
      have hjz : (j : Int) < ps.length := by omega
      have HR := Lib.hid hJ.out
      clear hJ
      have hst := HO.out.2.2.2.2.1 j hj
      by_cases hji : j = i
      · have hz0 : spJ gs vary ps ts p k (j + 1) = spJ gs vary ps ts p k j := by
          subst hji
          rw [hst, HO.out.2.2.2.2.2.2, if_pos rfl]
          exact HO.out.2.2.2.2.2.1 _
        have HZ0 := Lib.hid hz0
        have hqq : ((j : Int) == (i : Int)) = true := by simp; omega
        have hqe : (j : Int) = (i : Int) := by omega
        clear hst hz0
        go_wp2
        refine R6.wp_walk (C := fun _ _ W => Below wr.heap.size wr W) 71 (by kernel_rfl) (by kernel_rfl) rfl (Below.refl _ _).drew ?_
        simp only []
        repeat (first
          | (refine' R6.WalkR.det (fun _ => rfl) (fun D ρ W hK hC => ?_) ?_
             rotate_left
             · have f1 : W.cell? ⟨w.heap.size, 0, none⟩ = some (.slice (some ⟨cP, oP, none⟩) ps.length cp) := cell_of_row W _ 0 _ _ _ ((hC.block _ (lt_of_heap HR.out.2.2.1)).trans HR.out.2.2.1)
               have HC := Lib.hid hC
               clear hC hK
               go_simp
               with_reducible exact ⟨rfl, HC.out⟩
             simp only [Act.put, List.setIfInBounds_toArray, List.set_cons_succ, List.set_cons_zero])
          | (refine R6.WalkR.un (fun _ => rfl) (fun D ρ W hK hC => hC) ?_
             simp only [Act.put, List.setIfInBounds_toArray, List.set_cons_succ, List.set_cons_zero]))
        refine R6.WalkR.nil (fun D ρ W6 hD hC => ?_)
        have H6 := Lib.hid (And.intro ((hC.block _ (lt_of_heap HR.out.1)).trans HR.out.1) (And.intro (HR.out.2.1.trans (hC.mono HR.out.2.1.size)) (And.intro ((hC.block _ (lt_of_heap HR.out.2.2.1)).trans HR.out.2.2.1) (And.intro ((hC.block _ (lt_of_heap HR.out.2.2.2.1)).trans HR.out.2.2.2.1) ((hC.block _ (lt_of_heap HR.out.2.2.2.2)).trans HR.out.2.2.2.2)))))
        clear hC hD
        clear hqq hqe hcr
        go_wp2
        go_roundg gn
        case measure => omega
        case rel => exact ⟨j + 1, by omega, by go_num, by rw [HZ0.out]; exact H6.out⟩
      · have hqq : ((j : Int) == (i : Int)) = false := by simp; omega
        have hqe : ¬ (j : Int) = (i : Int) := by omega
        obtain ⟨c', o', hA, hcB, hc⟩ := HPE.out j hj
        simp only [Option.some.injEq, Addr.mk.injEq, and_true] at hA
        obtain ⟨rfl, rfl⟩ := hA
        have hof1 := HO.out.2.1 _ (List.getElem_mem hj)
        have hof2 := HO.out.2.1 _ HI.out.2.2.1
        have how := HO.out.1 j hj
        rw [HO.out.2.2.2.1 j hj] at how
        have hsm := HO.out.2.2.1 _ (List.getElem_mem hj)
        have hgp := HI.out.2.2.2
        generalize ps[j] = q at hst hc hof1 how hsm
        have HQ := Lib.hid (And.intro (fun (W : World) (hW : Below wr.heap.size wr W) => pcl_at (j := j) (HR.out.2.1.trans (hW.mono HR.out.2.1.size)) (Nat.lt_of_lt_of_le hcB hB) hc) (And.intro (fun (W : World) (hW : Below wr.heap.size wr W) => hof1 W (HR.out.2.1.trans (hW.mono HR.out.2.1.size))) (And.intro (fun (W : World) (hW : Below wr.heap.size wr W) => pcl_at (j := i) (HR.out.2.1.trans (hW.mono HR.out.2.1.size)) (Nat.lt_of_lt_of_le hcB hB) HI.out.2.1) (fun (W : World) (hW : Below wr.heap.size wr W) => hof2 W (HR.out.2.1.trans (hW.mono HR.out.2.1.size))))))
        clear hof1 hof2 hc
        generalize gOf gs q = nq at HQ hst how hsm
        generalize gOf gs p = np at HQ hst hgp
        by_cases hnn : nq = np
        · subst hnn
          rw [if_pos rfl] at hst
          have how := how hgp
          have hsm := hsm hgp
          generalize ownP gs ts k q = o at how hsm hst
          generalize spJ gs vary ps ts p k j = z at HR hst
          obtain ⟨o1, o2⟩ := o
          obtain ⟨z1, z2⟩ := z
          have hsm' : (1 ≤ o1 ∧ o1 ≤ 1000000000) ∧ (0 ≤ o2 ∧ o2 ≤ 200000) := hsm
          have u1 : IntKind.i64.wrap (o1 - vary) = o1 - vary := IntWalk.i64_in _ (by omega)
          have u2 : IntKind.i64.wrap (o2 + vary) = o2 + vary := IntWalk.i64_in _ (by omega)
          have HU := Lib.hid (And.intro u1 u2)
          have HST := Lib.hid hst
          have HOW := Lib.hid how
          have HNE := Lib.hid (And.intro (show ((nq : Int) == (nq : Int)) = true by simp) (show ((nq : Int) != (nq : Int)) = false by simp))
          clear hst how hsm hsm' hgp u1 u2
          go_wp2
          refine R6.wp_walk (C := fun _ _ W => Below wr.heap.size wr W) 71 (by kernel_rfl) (by kernel_rfl) rfl (Below.refl _ _).drew ?_
          simp only []
          repeat (first
            | (refine' R6.WalkR.det (fun _ => rfl) (fun D ρ W hK hC => ?_) ?_
               rotate_left
               · have f1 : W.cell? ⟨w.heap.size, 0, none⟩ = some (.slice (some ⟨cP, oP, none⟩) ps.length cp) := cell_of_row W _ 0 _ _ _ ((hC.block _ (lt_of_heap HR.out.2.2.1)).trans HR.out.2.2.1)
                 have HC := Lib.hid hC
                 clear hC hK
                 go_simp
                 with_reducible exact ⟨rfl, HC.out⟩
               simp only [Act.put, List.setIfInBounds_toArray, List.set_cons_succ, List.set_cons_zero]))
          refine' R6.WalkR.det (fun _ => rfl) (fun D ρ W hK hC => ?_) ?_
          rotate_left
          · exact gives_load_blk 28 (.tmp 6) rfl rfl ((hC.block _ (lt_of_heap HR.out.2.2.2.1)).trans HR.out.2.2.2.1) [.slice AG gs.length cg, .int .i64 vary] at0 rowGrading5 ⟨rfl, hC⟩
          simp only [Act.put, List.setIfInBounds_toArray, List.set_cons_succ, List.set_cons_zero]
          repeat (first
            | (refine' R6.WalkR.det (fun _ => rfl) (fun D ρ W hK hC => ?_) ?_
               rotate_left
               · have f1 : W.cell? ⟨w.heap.size, 0, none⟩ = some (.slice (some ⟨cP, oP, none⟩) ps.length cp) := cell_of_row W _ 0 _ _ _ ((hC.block _ (lt_of_heap HR.out.2.2.1)).trans HR.out.2.2.1)
                 have HC := Lib.hid hC
                 clear hC hK
                 go_simp
                 with_reducible exact ⟨rfl, HC.out⟩
               simp only [Act.put, List.setIfInBounds_toArray, List.set_cons_succ, List.set_cons_zero]))
          refine' R6.WalkR.det (fun _ => rfl) (fun D ρ W hK hC => ?_) ?_
          rotate_left
          · exact gives_load_at 58 (.tmp 35) rfl rfl _ (HQ.out.1 W hC) rowPole ⟨rfl, hC⟩
          simp only [Act.put, List.setIfInBounds_toArray, List.set_cons_succ, List.set_cons_zero]
          refine' R6.WalkR.det (fun _ => rfl) (fun D ρ W hK hC => ?_) ?_
          rotate_left
          · have HC := Lib.hid hC
            clear hC hK
            go_simp
            go_at_call 21
            refine (HQ.out.2.1 W HC.out).mono ?_
            rintro e W1 ⟨rfl, hB1⟩
            exact ⟨_, rfl, rfl, HC.out.trans (hB1.mono HC.out.size)⟩
          simp only [Act.put, List.setIfInBounds_toArray, List.set_cons_succ, List.set_cons_zero]
          refine' R6.WalkR.det (fun _ => rfl) (fun D ρ W hK hC => ?_) ?_
          rotate_left
          · exact gives_load_blk 28 (.tmp 6) rfl rfl ((hC.block _ (lt_of_heap HR.out.2.2.2.1)).trans HR.out.2.2.2.1) [.slice AG gs.length cg, .int .i64 vary] at0 rowGrading5 ⟨rfl, hC⟩
          simp only [Act.put, List.setIfInBounds_toArray, List.set_cons_succ, List.set_cons_zero]
          repeat (first
            | (refine' R6.WalkR.det (fun _ => rfl) (fun D ρ W hK hC => ?_) ?_
               rotate_left
               · have f1 : W.cell? ⟨w.heap.size, 0, none⟩ = some (.slice (some ⟨cP, oP, none⟩) ps.length cp) := cell_of_row W _ 0 _ _ _ ((hC.block _ (lt_of_heap HR.out.2.2.1)).trans HR.out.2.2.1)
                 have HC := Lib.hid hC
                 clear hC hK
                 go_simp
                 with_reducible exact ⟨rfl, HC.out⟩
               simp only [Act.put, List.setIfInBounds_toArray, List.set_cons_succ, List.set_cons_zero]))
          refine' R6.WalkR.det (fun _ => rfl) (fun D ρ W hK hC => ?_) ?_
          rotate_left
          · exact gives_load_at 58 (.tmp 42) rfl rfl _ (HQ.out.2.2.1 W hC) rowPole ⟨rfl, hC⟩
          simp only [Act.put, List.setIfInBounds_toArray, List.set_cons_succ, List.set_cons_zero]
          refine' R6.WalkR.det (fun _ => rfl) (fun D ρ W hK hC => ?_) ?_
          rotate_left
          · have HC := Lib.hid hC
            clear hC hK
            go_simp
            go_at_call 21
            refine (HQ.out.2.2.2 W HC.out).mono ?_
            rintro e W1 ⟨rfl, hB1⟩
            exact ⟨_, rfl, rfl, HC.out.trans (hB1.mono HC.out.size)⟩
          simp only [Act.put, List.setIfInBounds_toArray, List.set_cons_succ, List.set_cons_zero]
          repeat (first
            | (refine' R6.WalkR.det (fun _ => rfl) (fun D ρ W hK hC => ?_) ?_
               rotate_left
               · obtain ⟨n1, n2⟩ := HNE.out
                 have HC := Lib.hid hC
                 clear hC hK
                 go_simp
                 with_reducible exact ⟨rfl, HC.out⟩
               simp only [Act.put, List.setIfInBounds_toArray, List.set_cons_succ, List.set_cons_zero]))
          refine R6.WalkR.nil (fun D ρ W6 hD hC => ?_)
          have H6 := Lib.hid (And.intro ((hC.block _ (lt_of_heap HR.out.1)).trans HR.out.1) (And.intro (HR.out.2.1.trans (hC.mono HR.out.2.1.size)) (And.intro ((hC.block _ (lt_of_heap HR.out.2.2.1)).trans HR.out.2.2.1) (And.intro ((hC.block _ (lt_of_heap HR.out.2.2.2.1)).trans HR.out.2.2.2.1) ((hC.block _ (lt_of_heap HR.out.2.2.2.2)).trans HR.out.2.2.2.2)))))
          clear hC hD
          obtain ⟨u1, u2⟩ := HU.out
          clear hqq hqe hcr
          go_wp2_with (first
            | (show wpList _ _ _ (Oper.mk (some 47) _ _ _ _ _ :: _) _ _
               refine wpList_load_blk 25 (.tmp 5) rfl rfl rfl H6.out.2.2.1 [.slice (some ⟨cP, oP, none⟩) ps.length cp, .slice AT nt ct] at0 rowSheet5 ?_)
            | (show wpList _ _ _ (Oper.mk (some 48) _ _ _ _ _ :: _) _ _
               refine wpList_load_blk 28 (.tmp 6) rfl rfl rfl H6.out.2.2.2.1 [.slice AG gs.length cg, .int .i64 vary] at0 rowGrading5 ?_)
            | (go_at_call 45
               refine (HOW.out W6 H6.out.2.1).mono ?_
               rintro e w8 ⟨rfl, hB8⟩
               have H8 := Lib.hid hB8
               clear hB8)
            | (show wpList _ _ _ (Oper.mk none (Op.store _ (Operand.tmp 13) (Operand.tmp 52)) _ _ _ _ :: _) _ _
               refine wpList_store_blk 38 (.tmp 13) (.tmp 52) rfl rfl rfl rfl rfl (alloc_at0 w8 _) (Nat.le_of_ble_eq_true rfl) (sp2_one _) rowSpan5 ?_
               intro w9 hP9 hM9
               rw [splice_whole (by rfl)] at hM9
               have hb9 : Below W6.heap.size W6 w9 := H8.out.trans (((grow1 w8 _).trans (hP9.below (Nat.le_refl _))).mono H8.out.size)
               have hx1 := (hb9.block _ (lt_of_heap H6.out.1)).trans H6.out.1
               have hx3 := (hb9.block _ (lt_of_heap H6.out.2.2.1)).trans H6.out.2.2.1
               have hx4 := (hb9.block _ (lt_of_heap H6.out.2.2.2.1)).trans H6.out.2.2.2.1
               have hx5 := (hb9.block _ (lt_of_heap H6.out.2.2.2.2)).trans H6.out.2.2.2.2
               have f1 : w9.cell? ⟨w2.heap.size, 0, none⟩ = some (.int .i64 z1) := cell_of_row w9 _ 0 _ _ _ hx1
               have f2 : w9.cell? ⟨w2.heap.size, 1, none⟩ = some (.int .i64 z2) := cell_of_row w9 _ 1 _ _ _ hx1
               have f3 : w9.cell? ⟨w8.heap.size, 0, none⟩ = some (.int .i64 o1) := cell_of_row w9 _ 0 _ _ _ hM9
               have f4 : w9.cell? ⟨w8.heap.size, 1, none⟩ = some (.int .i64 o2) := cell_of_row w9 _ 1 _ _ _ hM9
               have f5 : w9.cell? ⟨w.heap.size + 1, 1, none⟩ = some (.int .i64 vary) := cell_of_row w9 _ 1 _ _ _ hx4
               have H9 := Lib.hid (And.intro hx1 (And.intro (H6.out.2.1.trans (hb9.mono H6.out.2.1.size)) (And.intro hx3 (And.intro hx4 hx5))))
               clear hP9 hM9 hb9 hx1 hx3 hx4 hx5)
            | (show wpList _ _ _ (Oper.mk none (Op.store _ (Operand.tmp 11) (Operand.tmp 69)) _ _ _ _ :: _) _ _
               refine wpList_store_blk 38 (.tmp 11) (.tmp 69) rfl rfl rfl rfl (cs := sp2 (cut1 (z1, z2) (wid1 vary (o1, o2)))) rfl H9.out.1 (Nat.le_of_ble_eq_true rfl) (sp2_one _) rowSpan5 ?_
               intro w10 hP10 hM10
               rw [splice_whole (by rfl)] at hM10
               have hl3 := HB.out
               have H10 := Lib.hid (And.intro hM10 (And.intro (H9.out.2.1.trans (hP10.below (by omega))) (And.intro ((hP10.other _ (by omega)).trans H9.out.2.2.1) (And.intro ((hP10.other _ (by omega)).trans H9.out.2.2.2.1) ((hP10.other _ (by omega)).trans H9.out.2.2.2.2)))))
               clear hP10 hM10 hl3))
          go_roundg gn
          case measure => omega
          case rel => exact ⟨j + 1, by omega, by go_num, by rw [HST.out]; exact H10.out⟩
        · rw [if_neg hnn] at hst
          have HST := Lib.hid hst
          have HNE := Lib.hid (And.intro (show ((nq : Int) == (np : Int)) = false by simp; omega) (show ((nq : Int) != (np : Int)) = true by simp; omega))
          clear hst how hsm hgp
          go_wp2
          refine R6.wp_walk (C := fun _ _ W => Below wr.heap.size wr W) 71 (by kernel_rfl) (by kernel_rfl) rfl (Below.refl _ _).drew ?_
          simp only []
          repeat (first
            | (refine' R6.WalkR.det (fun _ => rfl) (fun D ρ W hK hC => ?_) ?_
               rotate_left
               · have f1 : W.cell? ⟨w.heap.size, 0, none⟩ = some (.slice (some ⟨cP, oP, none⟩) ps.length cp) := cell_of_row W _ 0 _ _ _ ((hC.block _ (lt_of_heap HR.out.2.2.1)).trans HR.out.2.2.1)
                 have HC := Lib.hid hC
                 clear hC hK
                 go_simp
                 with_reducible exact ⟨rfl, HC.out⟩
               simp only [Act.put, List.setIfInBounds_toArray, List.set_cons_succ, List.set_cons_zero]))
          refine' R6.WalkR.det (fun _ => rfl) (fun D ρ W hK hC => ?_) ?_
          rotate_left
          · exact gives_load_blk 28 (.tmp 6) rfl rfl ((hC.block _ (lt_of_heap HR.out.2.2.2.1)).trans HR.out.2.2.2.1) [.slice AG gs.length cg, .int .i64 vary] at0 rowGrading5 ⟨rfl, hC⟩
          simp only [Act.put, List.setIfInBounds_toArray, List.set_cons_succ, List.set_cons_zero]
          repeat (first
            | (refine' R6.WalkR.det (fun _ => rfl) (fun D ρ W hK hC => ?_) ?_
               rotate_left
               · have f1 : W.cell? ⟨w.heap.size, 0, none⟩ = some (.slice (some ⟨cP, oP, none⟩) ps.length cp) := cell_of_row W _ 0 _ _ _ ((hC.block _ (lt_of_heap HR.out.2.2.1)).trans HR.out.2.2.1)
                 have HC := Lib.hid hC
                 clear hC hK
                 go_simp
                 with_reducible exact ⟨rfl, HC.out⟩
               simp only [Act.put, List.setIfInBounds_toArray, List.set_cons_succ, List.set_cons_zero]))
          refine' R6.WalkR.det (fun _ => rfl) (fun D ρ W hK hC => ?_) ?_
          rotate_left
          · exact gives_load_at 58 (.tmp 35) rfl rfl _ (HQ.out.1 W hC) rowPole ⟨rfl, hC⟩
          simp only [Act.put, List.setIfInBounds_toArray, List.set_cons_succ, List.set_cons_zero]
          refine' R6.WalkR.det (fun _ => rfl) (fun D ρ W hK hC => ?_) ?_
          rotate_left
          · have HC := Lib.hid hC
            clear hC hK
            go_simp
            go_at_call 21
            refine (HQ.out.2.1 W HC.out).mono ?_
            rintro e W1 ⟨rfl, hB1⟩
            exact ⟨_, rfl, rfl, HC.out.trans (hB1.mono HC.out.size)⟩
          simp only [Act.put, List.setIfInBounds_toArray, List.set_cons_succ, List.set_cons_zero]
          refine' R6.WalkR.det (fun _ => rfl) (fun D ρ W hK hC => ?_) ?_
          rotate_left
          · exact gives_load_blk 28 (.tmp 6) rfl rfl ((hC.block _ (lt_of_heap HR.out.2.2.2.1)).trans HR.out.2.2.2.1) [.slice AG gs.length cg, .int .i64 vary] at0 rowGrading5 ⟨rfl, hC⟩
          simp only [Act.put, List.setIfInBounds_toArray, List.set_cons_succ, List.set_cons_zero]
          repeat (first
            | (refine' R6.WalkR.det (fun _ => rfl) (fun D ρ W hK hC => ?_) ?_
               rotate_left
               · have f1 : W.cell? ⟨w.heap.size, 0, none⟩ = some (.slice (some ⟨cP, oP, none⟩) ps.length cp) := cell_of_row W _ 0 _ _ _ ((hC.block _ (lt_of_heap HR.out.2.2.1)).trans HR.out.2.2.1)
                 have HC := Lib.hid hC
                 clear hC hK
                 go_simp
                 with_reducible exact ⟨rfl, HC.out⟩
               simp only [Act.put, List.setIfInBounds_toArray, List.set_cons_succ, List.set_cons_zero]))
          refine' R6.WalkR.det (fun _ => rfl) (fun D ρ W hK hC => ?_) ?_
          rotate_left
          · exact gives_load_at 58 (.tmp 42) rfl rfl _ (HQ.out.2.2.1 W hC) rowPole ⟨rfl, hC⟩
          simp only [Act.put, List.setIfInBounds_toArray, List.set_cons_succ, List.set_cons_zero]
          refine' R6.WalkR.det (fun _ => rfl) (fun D ρ W hK hC => ?_) ?_
          rotate_left
          · have HC := Lib.hid hC
            clear hC hK
            go_simp
            go_at_call 21
            refine (HQ.out.2.2.2 W HC.out).mono ?_
            rintro e W1 ⟨rfl, hB1⟩
            exact ⟨_, rfl, rfl, HC.out.trans (hB1.mono HC.out.size)⟩
          simp only [Act.put, List.setIfInBounds_toArray, List.set_cons_succ, List.set_cons_zero]
          repeat (first
            | (refine' R6.WalkR.det (fun _ => rfl) (fun D ρ W hK hC => ?_) ?_
               rotate_left
               · obtain ⟨n1, n2⟩ := HNE.out
                 have HC := Lib.hid hC
                 clear hC hK
                 go_simp
                 with_reducible exact ⟨rfl, HC.out⟩
               simp only [Act.put, List.setIfInBounds_toArray, List.set_cons_succ, List.set_cons_zero]))
          refine R6.WalkR.nil (fun D ρ W6 hD hC => ?_)
          have H6 := Lib.hid (And.intro ((hC.block _ (lt_of_heap HR.out.1)).trans HR.out.1) (And.intro (HR.out.2.1.trans (hC.mono HR.out.2.1.size)) (And.intro ((hC.block _ (lt_of_heap HR.out.2.2.1)).trans HR.out.2.2.1) (And.intro ((hC.block _ (lt_of_heap HR.out.2.2.2.1)).trans HR.out.2.2.2.1) ((hC.block _ (lt_of_heap HR.out.2.2.2.2)).trans HR.out.2.2.2.2)))))
          clear hC hD
          clear hqq hqe hcr
          go_wp2
          go_roundg gn
          case measure => omega
          case rel => exact ⟨j + 1, by omega, by go_num, by rw [HST.out]; exact H6.out⟩

end Go.Proofs.Ytboffligjgjgjaa
