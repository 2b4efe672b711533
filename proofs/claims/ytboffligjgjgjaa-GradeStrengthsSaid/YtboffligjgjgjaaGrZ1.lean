/-
  Whether there is a truth (the reference's).
-/
import Derived.Test.YtboffligjgjgjaaGrZ
namespace Go.Proofs.Ytboffligjgjgjaa
open Go.RowKit Go.BigFrame
open R6 (done done_ne done_me upd_ne upd_me)

attribute [local go_sem] gives

def trJ (gs : List Gd) (vary : Int) (ts : List Ts) (p : Pol) (k : Nat) (q : Pol) : Bool := gOf gs q != gOf gs p || decide ((ownP gs ts k p).1 ≤ (ownP gs ts k q).2 + vary)
def trK (gs : List Gd) (vary : Int) (ps : List Pol) (ts : List Ts) (p : Pol) (k : Nat) : Bool := gOf gs p == 0 || (decide ((ownP gs ts k p).1 ≤ (ownP gs ts k p).2) && ps.all (trJ gs vary ts p k))
def trP (gs : List Gd) (vary : Int) (ps : List Pol) (ts : List Ts) (p : Pol) : Bool := (List.range 3).all (trK gs vary ps ts p)
theorem truth_tr (gs : List Gd) (vary : Int) (ps : List Pol) (ts : List Ts) : truth gs vary ps ts = ps.all (trP gs vary ps ts) := rfl
theorem truth_no {gs : List Gd} {vary : Int} {ps : List Pol} {ts : List Ts} {p : Pol} {k : Nat} (hp : p ∈ ps) (hk : k < 3) (h : trK gs vary ps ts p k = false) : truth gs vary ps ts = false := by
  rw [truth_tr, List.all_eq_false]
  refine ⟨p, hp, ?_⟩
  unfold trP
  simp only [Bool.not_eq_true, List.all_eq_false, List.mem_range]
  exact ⟨k, hk, by simp [h]⟩
theorem all_take5 {α : Type} (l : List α) (f : α → Bool) (j : Nat) (hj : j < l.length) : (l.take (j + 1)).all f = ((l.take j).all f && f l[j]) := by
  rw [List.take_add_one, List.getElem?_eq_getElem hj, List.all_append]
  simp
theorem all_range5 (f : Nat → Bool) (k : Nat) : (List.range (k + 1)).all f = ((List.range k).all f && f k) := by
  rw [List.range_succ, List.all_append]
  simp

set_option maxRecDepth 100000 in
set_option maxHeartbeats 16000000 in
theorem rfTrue_any (gs : List Gd) (vary : Int) (ps : List Pol) (ts : List Ts) (AP : Option Addr) (cp : Nat) (AT : Option Addr) (nt ct : Nat) (AG : Option Addr) (cg : Nat) (A2 : Option Addr) (c2 : Nat) (B : Nat) (w : World) (hB : B ≤ w.heap.size)
    (hz : Vals w B AP (ps.flatMap pcl)) (hg : GdAt w B gs AG) (h2 : Vals w B A2 (ts.flatMap tcl)) (hl2 : ts.length ≤ 1000000) (hlp : ps.length ≤ 1000000) (hv : 0 ≤ vary ∧ vary ≤ 200000) (hpo : ∀ p ∈ ps, okPol p = true) (ht : ∀ t ∈ ts, okT t) (hok : ∀ g ∈ gs, okG2 g) :
    Calls Try.prog 27 #[.agg #[.slice AP ps.length cp, .slice AT nt ct], .agg #[.slice AG gs.length cg, .int .i64 vary], .slice A2 ts.length c2] w
      fun e w' => e = .returned (.bool (truth gs vary ps ts)) ∧ Below w.heap.size w w' := by
  obtain ⟨w1, hw1⟩ : ∃ w1, (w.alloc (.cells #[.slice AP ps.length cp, .slice AT nt ct] 25)).alloc (.cells #[.slice AG gs.length cg, .int .i64 vary] 28) = w1 := ⟨_, rfl⟩
  have hb1 : Below w.heap.size w w1 := by rw [← hw1]; exact grow2 _ _ _
  have m1 : w1.heap[w.heap.size]? = some (.cells #[.slice AP ps.length cp, .slice AT nt ct] 25 (0, 0)) := by rw [← hw1]; exact alloc2_at0 _ _ _
  have m2 : w1.heap[w.heap.size + 1]? = some (.cells #[.slice AG gs.length cg, .int .i64 vary] 28 (0, 0)) := by rw [← hw1]; exact alloc2_at1 _ _ _
  have hown := fun (k : Nat) (hk : k < 3) (j : Nat) (hj : j < ps.length) (h1 : 1 ≤ gOf gs ps[j]) (W : World) (hW : Below w.heap.size w W) =>
    rfOwn_any gs vary ps ts AP cp AT nt ct AG cg A2 c2 j k B W (Nat.le_trans hB hW.size) (hz.below (hW.mono hB)) (hg.below (hW.mono hB)) (h2.below (hW.mono hB)) hl2 hlp hj hk h1 (okPol_secs5 (hpo _ (List.getElem_mem hj))) (okPol_yrs5 (hpo _ (List.getElem_mem hj))) ht
  have hof := fun (q : Pol) (hq : q ∈ ps) (W : World) (hW : Below w.heap.size w W) => rfOf_any gs vary q AG cg B W (Nat.le_trans hB hW.size) (hg.below (hW.mono hB)) (okPol_yrs5 (hpo _ hq))
  have hsm := fun (k : Nat) (hk : k < 3) (q : Pol) (hq : q ∈ ps) (h1 : 1 ≤ gOf gs q) => ownP_small (ts := ts) hk (hpo q hq) h1 ht hok
  have hoi : ∀ (k j : Nat) (hj : j < ps.length), own ps[j] (gAt gs ps[j]) ts k = ownP gs ts k ps[j] := fun _ _ _ => rfl
  have hpe := fun (j : Nat) (hj : j < ps.length) => vals_elem pcl_len hz (by decide) hj
  have HO := Lib.hid (And.intro hown (And.intro hof (And.intro hsm hoi)))
  have HM := Lib.hid (And.intro hb1 (And.intro m1 m2))
  have HPE := Lib.hid hpe
  clear hown hof hsm hoi hb1 m1 m2 hpe hz hg h2 hpo ht hok
  go_enter Try.func27, Try.ntmps27
  go_wp2
  go_loopg [7] ps.length (fun gn s7 wx => ∃ i : Nat, i + gn = ps.length ∧ s7 = .int .i64 i ∧ Hid ((ps.take i).all (trP gs vary ps ts) = true ∧ Below w.heap.size w wx ∧ wx.heap[w.heap.size]? = some (.cells #[.slice AP ps.length cp, .slice AT nt ct] 25 (0, 0)) ∧ wx.heap[w.heap.size + 1]? = some (.cells #[.slice AG gs.length cg, .int .i64 vary] 28 (0, 0))))
  case atStart => exact ⟨0, by omega, rfl, rfl, HM.out⟩
  case round =>
    obtain ⟨i, hig, rfl, hI⟩ := hrel
    have hcr : wr.cell? ⟨w.heap.size, 0, none⟩ = some (.slice AP ps.length cp) := cell_of_row wr _ 0 _ _ _ hI.out.2.2.1
    cases gk with
    | zero =>
      have hI' := hI.out
      obtain rfl : i = ps.length := by omega
      rw [List.take_length] at hI'
      have HI := Lib.hid hI'
      clear hI' hI
      go_wp2
      go_ret
      exact ⟨by rw [truth_tr, HI.out.1]; rfl, HI.out.2.1⟩
    | succ gi =>
      have hi : i < ps.length := by omega
      have hiz : (i : Int) < ps.length := by omega
      obtain ⟨cP, oP, hA, hcPB, hcP⟩ := HPE.out i hi
      subst hA
      have hofp := HO.out.2.1 _ (List.getElem_mem hi)
      have hmp := List.getElem_mem hi
      have hstep := all_take5 ps (trP gs vary ps ts) i hi
      have howp := fun k hk => HO.out.1 k hk i hi
      have hoi := fun k => HO.out.2.2.2 k i hi
      generalize ps[i] = p at hcP hofp hmp hstep howp hoi
      rw [hI.out.1, Bool.true_and] at hstep
      have HP := Lib.hid (And.intro hcP (And.intro hofp (And.intro hmp (And.intro howp (And.intro hoi hstep)))))
      have HI := Lib.hid hI.out.2
      clear hI hcP hofp hmp howp hoi hstep
      go_wp2
      obtain ⟨wo, rfl⟩ : ∃ wo : World, wo = wr := ⟨_, rfl⟩
      clear hcr
      go_loopg [8] 3 (fun gn s8 wx => ∃ k : Nat, k + gn = 3 ∧ s8 = .int .i64 k ∧ Hid ((List.range k).all (trK gs vary ps ts p) = true ∧ Below w.heap.size w wx ∧ wx.heap[w.heap.size]? = some (.cells #[.slice (some ⟨cP, oP, none⟩) ps.length cp, .slice AT nt ct] 25 (0, 0)) ∧ wx.heap[w.heap.size + 1]? = some (.cells #[.slice AG gs.length cg, .int .i64 vary] 28 (0, 0))))
      case atStart => exact ⟨0, by omega, rfl, rfl, HI.out⟩
      case round =>
        obtain ⟨k, hkg, rfl, hK⟩ := hrel
        have HR := Lib.hid hK.out.2
        have hcr : wr.cell? ⟨w.heap.size, 0, none⟩ = some (.slice (some ⟨cP, oP, none⟩) ps.length cp) := cell_of_row wr _ 0 _ _ _ hK.out.2.2.1
        cases gk with
        | zero =>
          obtain rfl : k = 3 := by omega
          have HK3 := Lib.hid hK.out.1
          clear hK
          go_wp2
          refine R6.wp_walk (C := fun _ _ W => Below wr.heap.size wr W) 80 (by kernel_rfl) (by kernel_rfl) rfl (Below.refl _ _).drew ?_
          simp only []
          repeat (first
            | (refine' R6.WalkR.det (fun _ => rfl) (fun D ρ W hK hC => ?_) ?_
               rotate_left
               · have f1 : W.cell? ⟨w.heap.size, 0, none⟩ = some (.slice (some ⟨cP, oP, none⟩) ps.length cp) := cell_of_row W _ 0 _ _ _ ((hC.block _ (lt_of_heap HR.out.2.1)).trans HR.out.2.1)
                 have HC := Lib.hid hC
                 clear hC hK
                 go_simp
                 with_reducible exact ⟨rfl, HC.out⟩
               simp only [Act.put, List.setIfInBounds_toArray, List.set_cons_succ, List.set_cons_zero])
            | (refine R6.WalkR.un (fun _ => rfl) (fun D ρ W hK hC => hC) ?_
               simp only [Act.put, List.setIfInBounds_toArray, List.set_cons_succ, List.set_cons_zero]))
          refine R6.WalkR.nil (fun D ρ W6 hD hC => ?_)
          have H6 := Lib.hid (And.intro (HR.out.1.trans (hC.mono HR.out.1.size)) (And.intro ((hC.block _ (lt_of_heap HR.out.2.1)).trans HR.out.2.1) (And.intro ((hC.block _ (lt_of_heap HR.out.2.2)).trans HR.out.2.2) hC)))
          clear hC hD
          clear hcr
          go_wp2
          go_roundg gi
          case measure => omega
          case rel => exact ⟨i + 1, by omega, by go_num, by rw [HP.out.2.2.2.2.2]; exact HK3.out, H6.out.1, H6.out.2.1, H6.out.2.2.1⟩
        | succ gn =>
          have hk : k < 3 := by omega
          have hkz : (k : Int) < 3 := by omega
          have HKA := Lib.hid hK.out.1
          clear hK
          have hofp := HP.out.2.1
          have HQ := Lib.hid (And.intro (fun (W : World) (hW : Below wr.heap.size wr W) => pcl_at (j := i) (HR.out.1.trans (hW.mono HR.out.1.size)) (Nat.lt_of_lt_of_le hcPB hB) HP.out.1) (fun (W : World) (hW : Below wr.heap.size wr W) => hofp W (HR.out.1.trans (hW.mono HR.out.1.size))))
          clear hofp
          by_cases h0 : gOf gs p = 0
          · rw [h0] at HQ
            have htp : trP gs vary ps ts p = true := by simp [trP, trK, h0]
            have HNE := Lib.hid (And.intro (show decide ((0 : Int) < (0 : Nat)) = false by simp) (show ((0 : Nat) : Int) = 0 from rfl))
            have HTP := Lib.hid htp
            clear htp h0
            go_wp2
            refine R6.wp_walk (C := fun _ _ W => Below wr.heap.size wr W) 80 (by kernel_rfl) (by kernel_rfl) rfl (Below.refl _ _).drew ?_
            simp only []
            repeat (first
              | (refine' R6.WalkR.det (fun _ => rfl) (fun D ρ W hK hC => ?_) ?_
                 rotate_left
                 · have f1 : W.cell? ⟨w.heap.size, 0, none⟩ = some (.slice (some ⟨cP, oP, none⟩) ps.length cp) := cell_of_row W _ 0 _ _ _ ((hC.block _ (lt_of_heap HR.out.2.1)).trans HR.out.2.1)
                   have HC := Lib.hid hC
                   clear hC hK
                   go_simp
                   with_reducible exact ⟨rfl, HC.out⟩
                 simp only [Act.put, List.setIfInBounds_toArray, List.set_cons_succ, List.set_cons_zero]))
            refine' R6.WalkR.det (fun _ => rfl) (fun D ρ W hK hC => ?_) ?_
            rotate_left
            · exact gives_load_blk 28 (.tmp 4) rfl rfl ((hC.block _ (lt_of_heap HR.out.2.2)).trans HR.out.2.2) [.slice AG gs.length cg, .int .i64 vary] at0 rowGrading5 ⟨rfl, hC⟩
            simp only [Act.put, List.setIfInBounds_toArray, List.set_cons_succ, List.set_cons_zero]
            repeat (first
              | (refine' R6.WalkR.det (fun _ => rfl) (fun D ρ W hK hC => ?_) ?_
                 rotate_left
                 · have f1 : W.cell? ⟨w.heap.size, 0, none⟩ = some (.slice (some ⟨cP, oP, none⟩) ps.length cp) := cell_of_row W _ 0 _ _ _ ((hC.block _ (lt_of_heap HR.out.2.1)).trans HR.out.2.1)
                   have HC := Lib.hid hC
                   clear hC hK
                   go_simp
                   with_reducible exact ⟨rfl, HC.out⟩
                 simp only [Act.put, List.setIfInBounds_toArray, List.set_cons_succ, List.set_cons_zero]))
            refine' R6.WalkR.det (fun _ => rfl) (fun D ρ W hK hC => ?_) ?_
            rotate_left
            · exact gives_load_at 58 (.tmp 26) rfl rfl _ (HQ.out.1 W hC) rowPole ⟨rfl, hC⟩
            simp only [Act.put, List.setIfInBounds_toArray, List.set_cons_succ, List.set_cons_zero]
            refine' R6.WalkR.det (fun _ => rfl) (fun D ρ W hK hC => ?_) ?_
            rotate_left
            · have HC := Lib.hid hC
              clear hC hK
              go_simp
              go_at_call 21
              refine (HQ.out.2 W HC.out).mono ?_
              rintro e W1 ⟨rfl, hB1⟩
              exact ⟨_, rfl, rfl, HC.out.trans (hB1.mono HC.out.size)⟩
            simp only [Act.put, List.setIfInBounds_toArray, List.set_cons_succ, List.set_cons_zero]
            repeat (first
              | (refine' R6.WalkR.det (fun _ => rfl) (fun D ρ W hK hC => ?_) ?_
                 rotate_left
                 · obtain ⟨n1, n2⟩ := HNE.out
                   have HC := Lib.hid hC
                   clear hC hK
                   go_simp
                   with_reducible exact ⟨rfl, HC.out⟩
                 simp only [Act.put, List.setIfInBounds_toArray, List.set_cons_succ, List.set_cons_zero]))
            refine R6.WalkR.nil (fun D ρ W6 hD hC => ?_)
            have H6 := Lib.hid (And.intro (HR.out.1.trans (hC.mono HR.out.1.size)) (And.intro ((hC.block _ (lt_of_heap HR.out.2.1)).trans HR.out.2.1) (And.intro ((hC.block _ (lt_of_heap HR.out.2.2)).trans HR.out.2.2) hC)))
            clear hC hD
            clear hcr hkz
            go_wp2
            go_roundg gi
            case measure => omega
            case rel => exact ⟨i + 1, by omega, by go_num, by rw [HP.out.2.2.2.2.2]; exact HTP.out, H6.out.1, H6.out.2.1, H6.out.2.2.1⟩
          · have how := HP.out.2.2.2.1 k hk (by omega)
            rw [HP.out.2.2.2.2.1 k] at how
            obtain ⟨np, hnp⟩ : ∃ np, gOf gs p = np := ⟨_, rfl⟩
            have hk1 : trK gs vary ps ts p k = (decide ((ownP gs ts k p).1 ≤ (ownP gs ts k p).2) && ps.all (trJ gs vary ts p k)) := by simp [trK, h0]
            rw [hnp] at HQ h0
            have hn1 : 0 < np := by omega
            have HNE := Lib.hid (And.intro hn1 (show decide (0 < np) = true by simpa using hn1))
            have HNP := Lib.hid (And.intro hnp (And.intro hk1 h0))
            clear hnp hk1 hn1 h0
            go_wp2
            refine R6.wp_walk (C := fun _ _ W => Below wr.heap.size wr W) 80 (by kernel_rfl) (by kernel_rfl) rfl (Below.refl _ _).drew ?_
            simp only []
            repeat (first
              | (refine' R6.WalkR.det (fun _ => rfl) (fun D ρ W hK hC => ?_) ?_
                 rotate_left
                 · have f1 : W.cell? ⟨w.heap.size, 0, none⟩ = some (.slice (some ⟨cP, oP, none⟩) ps.length cp) := cell_of_row W _ 0 _ _ _ ((hC.block _ (lt_of_heap HR.out.2.1)).trans HR.out.2.1)
                   have HC := Lib.hid hC
                   clear hC hK
                   go_simp
                   with_reducible exact ⟨rfl, HC.out⟩
                 simp only [Act.put, List.setIfInBounds_toArray, List.set_cons_succ, List.set_cons_zero]))
            refine' R6.WalkR.det (fun _ => rfl) (fun D ρ W hK hC => ?_) ?_
            rotate_left
            · exact gives_load_blk 28 (.tmp 4) rfl rfl ((hC.block _ (lt_of_heap HR.out.2.2)).trans HR.out.2.2) [.slice AG gs.length cg, .int .i64 vary] at0 rowGrading5 ⟨rfl, hC⟩
            simp only [Act.put, List.setIfInBounds_toArray, List.set_cons_succ, List.set_cons_zero]
            repeat (first
              | (refine' R6.WalkR.det (fun _ => rfl) (fun D ρ W hK hC => ?_) ?_
                 rotate_left
                 · have f1 : W.cell? ⟨w.heap.size, 0, none⟩ = some (.slice (some ⟨cP, oP, none⟩) ps.length cp) := cell_of_row W _ 0 _ _ _ ((hC.block _ (lt_of_heap HR.out.2.1)).trans HR.out.2.1)
                   have HC := Lib.hid hC
                   clear hC hK
                   go_simp
                   with_reducible exact ⟨rfl, HC.out⟩
                 simp only [Act.put, List.setIfInBounds_toArray, List.set_cons_succ, List.set_cons_zero]))
            refine' R6.WalkR.det (fun _ => rfl) (fun D ρ W hK hC => ?_) ?_
            rotate_left
            · exact gives_load_at 58 (.tmp 26) rfl rfl _ (HQ.out.1 W hC) rowPole ⟨rfl, hC⟩
            simp only [Act.put, List.setIfInBounds_toArray, List.set_cons_succ, List.set_cons_zero]
            refine' R6.WalkR.det (fun _ => rfl) (fun D ρ W hK hC => ?_) ?_
            rotate_left
            · have HC := Lib.hid hC
              clear hC hK
              go_simp
              go_at_call 21
              refine (HQ.out.2 W HC.out).mono ?_
              rintro e W1 ⟨rfl, hB1⟩
              exact ⟨_, rfl, rfl, HC.out.trans (hB1.mono HC.out.size)⟩
            simp only [Act.put, List.setIfInBounds_toArray, List.set_cons_succ, List.set_cons_zero]
            repeat (first
              | (refine' R6.WalkR.det (fun _ => rfl) (fun D ρ W hK hC => ?_) ?_
                 rotate_left
                 · obtain ⟨n1, n2⟩ := HNE.out
                   have HC := Lib.hid hC
                   clear hC hK
                   go_simp
                   with_reducible exact ⟨rfl, HC.out⟩
                 simp only [Act.put, List.setIfInBounds_toArray, List.set_cons_succ, List.set_cons_zero]))
            refine R6.WalkR.nil (fun D ρ W6 hD hC => ?_)
            have H6 := Lib.hid (And.intro (HR.out.1.trans (hC.mono HR.out.1.size)) (And.intro ((hC.block _ (lt_of_heap HR.out.2.1)).trans HR.out.2.1) (And.intro ((hC.block _ (lt_of_heap HR.out.2.2)).trans HR.out.2.2) hC)))
            clear hC hD
            clear hcr
            obtain ⟨z, hze⟩ : ∃ z, ownP gs ts k p = z := ⟨_, rfl⟩
            rw [hze] at how
            obtain ⟨z1, z2⟩ := z
            have HZE := Lib.hid hze
            have HOW := Lib.hid how
            clear hze how
            by_cases hzz : z2 < z1
            · go_wp2_with (first
                | (show wpList _ _ _ (Oper.mk (some 33) _ _ _ _ _ :: _) _ _
                   refine wpList_load_blk 25 (.tmp 3) rfl rfl rfl H6.out.2.1 [.slice (some ⟨cP, oP, none⟩) ps.length cp, .slice AT nt ct] at0 rowSheet5 ?_)
                | (show wpList _ _ _ (Oper.mk (some 34) _ _ _ _ _ :: _) _ _
                   refine wpList_load_blk 28 (.tmp 4) rfl rfl rfl H6.out.2.2.1 [.slice AG gs.length cg, .int .i64 vary] at0 rowGrading5 ?_)
                | (go_at_call 45
                   refine (HOW.out W6 H6.out.1).mono ?_
                   rintro e w8 ⟨rfl, hB8⟩
                   have H8 := Lib.hid hB8
                   clear hB8)
                | (show wpList _ _ _ (Oper.mk none (Op.store _ (Operand.tmp 9) (Operand.tmp 38)) _ _ _ _ :: _) _ _
                   refine wpList_store_blk 38 (.tmp 9) (.tmp 38) rfl rfl rfl rfl rfl (alloc_at0 w8 _) (Nat.le_of_ble_eq_true rfl) (sp2_one _) rowSpan5 ?_
                   intro w9 hP9 hM9
                   rw [splice_whole (by rfl)] at hM9
                   have hb9 : Below W6.heap.size W6 w9 := H8.out.trans (((grow1 w8 _).trans (hP9.below (Nat.le_refl _))).mono H8.out.size)
                   have f3 : w9.cell? ⟨w8.heap.size, 0, none⟩ = some (.int .i64 z1) := cell_of_row w9 _ 0 _ _ _ hM9
                   have f4 : w9.cell? ⟨w8.heap.size, 1, none⟩ = some (.int .i64 z2) := cell_of_row w9 _ 1 _ _ _ hM9
                   have H9 := Lib.hid (And.intro (H6.out.1.trans (hb9.mono H6.out.1.size)) (And.intro ((hb9.block _ (lt_of_heap H6.out.2.1)).trans H6.out.2.1) (And.intro ((hb9.block _ (lt_of_heap H6.out.2.2.1)).trans H6.out.2.2.1) hM9)))
                   clear hP9 hM9 hb9))
              go_ret
              refine ⟨by rw [truth_no HP.out.2.2.1 hk (by rw [HNP.out.2.1, HZE.out, decide_eq_false (by simpa using hzz), Bool.false_and])]; rfl, H9.out.1⟩
            · go_wp2_with (first
                | (show wpList _ _ _ (Oper.mk (some 33) _ _ _ _ _ :: _) _ _
                   refine wpList_load_blk 25 (.tmp 3) rfl rfl rfl H6.out.2.1 [.slice (some ⟨cP, oP, none⟩) ps.length cp, .slice AT nt ct] at0 rowSheet5 ?_)
                | (show wpList _ _ _ (Oper.mk (some 34) _ _ _ _ _ :: _) _ _
                   refine wpList_load_blk 28 (.tmp 4) rfl rfl rfl H6.out.2.2.1 [.slice AG gs.length cg, .int .i64 vary] at0 rowGrading5 ?_)
                | (go_at_call 45
                   refine (HOW.out W6 H6.out.1).mono ?_
                   rintro e w8 ⟨rfl, hB8⟩
                   have H8 := Lib.hid hB8
                   clear hB8)
                | (show wpList _ _ _ (Oper.mk none (Op.store _ (Operand.tmp 9) (Operand.tmp 38)) _ _ _ _ :: _) _ _
                   refine wpList_store_blk 38 (.tmp 9) (.tmp 38) rfl rfl rfl rfl rfl (alloc_at0 w8 _) (Nat.le_of_ble_eq_true rfl) (sp2_one _) rowSpan5 ?_
                   intro w9 hP9 hM9
                   rw [splice_whole (by rfl)] at hM9
                   have hb9 : Below W6.heap.size W6 w9 := H8.out.trans (((grow1 w8 _).trans (hP9.below (Nat.le_refl _))).mono H8.out.size)
                   have f3 : w9.cell? ⟨w8.heap.size, 0, none⟩ = some (.int .i64 z1) := cell_of_row w9 _ 0 _ _ _ hM9
                   have f4 : w9.cell? ⟨w8.heap.size, 1, none⟩ = some (.int .i64 z2) := cell_of_row w9 _ 1 _ _ _ hM9
                   have H9 := Lib.hid (And.intro (H6.out.1.trans (hb9.mono H6.out.1.size)) (And.intro ((hb9.block _ (lt_of_heap H6.out.2.1)).trans H6.out.2.1) (And.intro ((hb9.block _ (lt_of_heap H6.out.2.2.1)).trans H6.out.2.2.1) hM9)))
                   clear hP9 hM9 hb9))
              obtain ⟨ba, hba⟩ : ∃ ba, w8.heap.size = ba := ⟨_, rfl⟩
              rw [hba] at H9 ⊢
              clear f3 f4
              obtain ⟨wk, rfl⟩ : ∃ wk : World, wk = wr := ⟨_, rfl⟩
              go_loopg [10] ps.length (fun gj s10 wx => ∃ j : Nat, j + gj = ps.length ∧ s10 = .int .i64 j ∧ Hid ((ps.take j).all (trJ gs vary ts p k) = true ∧ (Below w.heap.size w wx ∧ wx.heap[w.heap.size]? = some (.cells #[.slice (some ⟨cP, oP, none⟩) ps.length cp, .slice AT nt ct] 25 (0, 0)) ∧ wx.heap[w.heap.size + 1]? = some (.cells #[.slice AG gs.length cg, .int .i64 vary] 28 (0, 0))) ∧ wx.heap[ba]? = some (.cells (sp2 (z1, z2)).toArray 38 (0, 0))))
              case atStart => exact ⟨0, by omega, rfl, rfl, ⟨H9.out.1, H9.out.2.1, H9.out.2.2.1⟩, H9.out.2.2.2⟩
              case round =>
                obtain ⟨j, hjg, rfl, hJ⟩ := hrel
                have hcr : wr.cell? ⟨w.heap.size, 0, none⟩ = some (.slice (some ⟨cP, oP, none⟩) ps.length cp) := cell_of_row wr _ 0 _ _ _ hJ.out.2.1.2.1
                cases gk with
                | zero =>
                  obtain rfl : j = ps.length := by omega
                  have hJ1 := hJ.out.1
                  rw [List.take_length] at hJ1
                  have HJ1 := Lib.hid (And.intro hJ1 hJ.out.2.1)
                  clear hJ hJ1
                  go_wp2
                  go_roundg gn
                  case measure => omega
                  case rel => exact ⟨k + 1, by omega, by go_num, by rw [all_range5, HKA.out, Bool.true_and, HNP.out.2.1, HZE.out, HJ1.out.1, Bool.and_true]; simpa using hzz, HJ1.out.2⟩
                | succ gj =>
                  have hj : j < ps.length := by omega
                  have hjz : (j : Int) < ps.length := by omega
                  have hst := all_take5 ps (trJ gs vary ts p k) j hj
                  rw [hJ.out.1, Bool.true_and] at hst
                  have HR := Lib.hid hJ.out.2.1
                  have HBA := Lib.hid hJ.out.2.2
                  clear hJ
                  obtain ⟨c', o', hA, hcB, hc⟩ := HPE.out j hj
                  simp only [Option.some.injEq, Addr.mk.injEq, and_true] at hA
                  obtain ⟨rfl, rfl⟩ := hA
                  have hof1 := HO.out.2.1 _ (List.getElem_mem hj)
                  have hof2 := HP.out.2.1
                  have how := HO.out.1 k hk j hj
                  rw [HO.out.2.2.2 k j hj] at how
                  have hsm := HO.out.2.2.1 k hk _ (List.getElem_mem hj)
                  have htj : ps.all (trJ gs vary ts p k) = false → True := fun _ => trivial
                  clear htj
                  have hmq := List.getElem_mem hj
                  generalize ps[j] = q at hst hc hof1 how hsm hmq
                  have HT := Lib.hid (And.intro (fun (W : World) (hW : Below wr.heap.size wr W) => pcl_at (j := j) (HR.out.1.trans (hW.mono HR.out.1.size)) (Nat.lt_of_lt_of_le hcB hB) hc) (And.intro (fun (W : World) (hW : Below wr.heap.size wr W) => hof1 W (HR.out.1.trans (hW.mono HR.out.1.size))) (And.intro (fun (W : World) (hW : Below wr.heap.size wr W) => pcl_at (j := i) (HR.out.1.trans (hW.mono HR.out.1.size)) (Nat.lt_of_lt_of_le hcB hB) HP.out.1) (fun (W : World) (hW : Below wr.heap.size wr W) => hof2 W (HR.out.1.trans (hW.mono HR.out.1.size))))))
                  clear hof1 hof2 hc
                  have hjq : trJ gs vary ts p k q = (gOf gs q != np || decide (z1 ≤ (ownP gs ts k q).2 + vary)) := by unfold trJ; rw [HNP.out.1, HZE.out]
                  rw [HNP.out.1] at HT
                  obtain ⟨nq, hnq⟩ : ∃ nq, gOf gs q = nq := ⟨_, rfl⟩
                  rw [hnq] at HT hjq how hsm
                  by_cases hnn : nq = np
                  · subst hnn
                    have how := how (by have := HNP.out.2.2; omega)
                    have hsm := hsm (by have := HNP.out.2.2; omega)
                    generalize ownP gs ts k q = o at how hsm hjq
                    obtain ⟨o1, o2⟩ := o
                    have hsm' : (1 ≤ o1 ∧ o1 ≤ 1000000000) ∧ (0 ≤ o2 ∧ o2 ≤ 200000) := hsm
                    have u2 : IntKind.i64.wrap (o2 + vary) = o2 + vary := IntWalk.i64_in _ (by omega)
                    have HU := Lib.hid u2
                    have HST := Lib.hid hst
                    have HJQ := Lib.hid (And.intro hjq hmq)
                    have HOW := Lib.hid how
                    have HNE := Lib.hid (And.intro (show ((nq : Int) == (nq : Int)) = true by simp) (show ((nq : Int) != (nq : Int)) = false by simp))
                    clear hst how hsm hsm' u2 hjq hnq hmq
                    go_wp2
                    refine R6.wp_walk (C := fun _ _ W => Below wr.heap.size wr W) 80 (by kernel_rfl) (by kernel_rfl) rfl (Below.refl _ _).drew ?_
                    simp only []
                    refine' R6.WalkR.det (fun _ => rfl) (fun D ρ W hK hC => ?_) ?_
                    rotate_left
                    · exact gives_load_blk 28 (.tmp 4) rfl rfl ((hC.block _ (lt_of_heap HR.out.2.2)).trans HR.out.2.2) [.slice AG gs.length cg, .int .i64 vary] at0 rowGrading5 ⟨rfl, hC⟩
                    simp only [Act.put, List.setIfInBounds_toArray, List.set_cons_succ, List.set_cons_zero]
                    repeat (first
                      | (refine' R6.WalkR.det (fun _ => rfl) (fun D ρ W hK hC => ?_) ?_
                         rotate_left
                         · have f1 : W.cell? ⟨w.heap.size, 0, none⟩ = some (.slice (some ⟨cP, oP, none⟩) ps.length cp) := cell_of_row W _ 0 _ _ _ ((hC.block _ (lt_of_heap HR.out.2.1)).trans HR.out.2.1)
                           have HC := Lib.hid hC
                           clear hC hK
                           go_simp
                           with_reducible exact ⟨rfl, HC.out⟩
                         simp only [Act.put, List.setIfInBounds_toArray, List.set_cons_succ, List.set_cons_zero]))
                    refine' R6.WalkR.det (fun _ => rfl) (fun D ρ W hK hC => ?_) ?_
                    rotate_left
                    · exact gives_load_at 58 (.tmp 55) rfl rfl _ (HT.out.1 W hC) rowPole ⟨rfl, hC⟩
                    simp only [Act.put, List.setIfInBounds_toArray, List.set_cons_succ, List.set_cons_zero]
                    refine' R6.WalkR.det (fun _ => rfl) (fun D ρ W hK hC => ?_) ?_
                    rotate_left
                    · have HC := Lib.hid hC
                      clear hC hK
                      go_simp
                      go_at_call 21
                      refine (HT.out.2.1 W HC.out).mono ?_
                      rintro e W1 ⟨rfl, hB1⟩
                      exact ⟨_, rfl, rfl, HC.out.trans (hB1.mono HC.out.size)⟩
                    simp only [Act.put, List.setIfInBounds_toArray, List.set_cons_succ, List.set_cons_zero]
                    refine' R6.WalkR.det (fun _ => rfl) (fun D ρ W hK hC => ?_) ?_
                    rotate_left
                    · exact gives_load_blk 28 (.tmp 4) rfl rfl ((hC.block _ (lt_of_heap HR.out.2.2)).trans HR.out.2.2) [.slice AG gs.length cg, .int .i64 vary] at0 rowGrading5 ⟨rfl, hC⟩
                    simp only [Act.put, List.setIfInBounds_toArray, List.set_cons_succ, List.set_cons_zero]
                    repeat (first
                      | (refine' R6.WalkR.det (fun _ => rfl) (fun D ρ W hK hC => ?_) ?_
                         rotate_left
                         · have f1 : W.cell? ⟨w.heap.size, 0, none⟩ = some (.slice (some ⟨cP, oP, none⟩) ps.length cp) := cell_of_row W _ 0 _ _ _ ((hC.block _ (lt_of_heap HR.out.2.1)).trans HR.out.2.1)
                           have HC := Lib.hid hC
                           clear hC hK
                           go_simp
                           with_reducible exact ⟨rfl, HC.out⟩
                         simp only [Act.put, List.setIfInBounds_toArray, List.set_cons_succ, List.set_cons_zero]))
                    refine' R6.WalkR.det (fun _ => rfl) (fun D ρ W hK hC => ?_) ?_
                    rotate_left
                    · exact gives_load_at 58 (.tmp 62) rfl rfl _ (HT.out.2.2.1 W hC) rowPole ⟨rfl, hC⟩
                    simp only [Act.put, List.setIfInBounds_toArray, List.set_cons_succ, List.set_cons_zero]
                    refine' R6.WalkR.det (fun _ => rfl) (fun D ρ W hK hC => ?_) ?_
                    rotate_left
                    · have HC := Lib.hid hC
                      clear hC hK
                      go_simp
                      go_at_call 21
                      refine (HT.out.2.2.2 W HC.out).mono ?_
                      rintro e W1 ⟨rfl, hB1⟩
                      exact ⟨_, rfl, rfl, HC.out.trans (hB1.mono HC.out.size)⟩
                    simp only [Act.put, List.setIfInBounds_toArray, List.set_cons_succ, List.set_cons_zero]
                    repeat (first
                      | (refine' R6.WalkR.det (fun _ => rfl) (fun D ρ W hK hC => ?_) ?_
                         rotate_left
                         · obtain ⟨n1, n2⟩ := HNE.out
                           have HC := Lib.hid hC
                           clear hC hK
                           go_simp
                           with_reducible exact ⟨rfl, HC.out⟩
                         simp only [Act.put, List.setIfInBounds_toArray, List.set_cons_succ, List.set_cons_zero]))
                    refine R6.WalkR.nil (fun D ρ W6 hD hC => ?_)
                    have H6 := Lib.hid (And.intro (HR.out.1.trans (hC.mono HR.out.1.size)) (And.intro ((hC.block _ (lt_of_heap HR.out.2.1)).trans HR.out.2.1) (And.intro ((hC.block _ (lt_of_heap HR.out.2.2)).trans HR.out.2.2) (And.intro hC ((hC.block _ (lt_of_heap HBA.out)).trans HBA.out)))))
                    clear hC hD
                    have u2 := HU.out
                    clear hcr
                    by_cases hzo : o2 + vary < z1
                    · go_wp2_with (first
                        | (show wpList _ _ _ (Oper.mk (some 66) _ _ _ _ _ :: _) _ _
                           refine wpList_load_blk 25 (.tmp 3) rfl rfl rfl H6.out.2.1 [.slice (some ⟨cP, oP, none⟩) ps.length cp, .slice AT nt ct] at0 rowSheet5 ?_)
                        | (show wpList _ _ _ (Oper.mk (some 67) _ _ _ _ _ :: _) _ _
                           refine wpList_load_blk 28 (.tmp 4) rfl rfl rfl H6.out.2.2.1 [.slice AG gs.length cg, .int .i64 vary] at0 rowGrading5 ?_)
                        | (go_at_call 45
                           refine (HOW.out W6 H6.out.1).mono ?_
                           rintro e w8 ⟨rfl, hB8⟩
                           have H8 := Lib.hid hB8
                           clear hB8)
                        | (show wpList _ _ _ (Oper.mk none (Op.store _ (Operand.tmp 11) (Operand.tmp 71)) _ _ _ _ :: _) _ _
                           refine wpList_store_blk 38 (.tmp 11) (.tmp 71) rfl rfl rfl rfl rfl (alloc_at0 w8 _) (Nat.le_of_ble_eq_true rfl) (sp2_one _) rowSpan5 ?_
                           intro w9 hP9 hM9
                           rw [splice_whole (by rfl)] at hM9
                           have hb9 : Below W6.heap.size W6 w9 := H8.out.trans (((grow1 w8 _).trans (hP9.below (Nat.le_refl _))).mono H8.out.size)
                           have hx1 := (hb9.block _ (lt_of_heap H6.out.2.2.2.2)).trans H6.out.2.2.2.2
                           have hx4 := (hb9.block _ (lt_of_heap H6.out.2.2.1)).trans H6.out.2.2.1
                           have f3 : w9.cell? ⟨w8.heap.size, 1, none⟩ = some (.int .i64 o2) := cell_of_row w9 _ 1 _ _ _ hM9
                           have f4 : w9.cell? ⟨ba, 0, none⟩ = some (.int .i64 z1) := cell_of_row w9 _ 0 _ _ _ hx1
                           have f5 : w9.cell? ⟨w.heap.size + 1, 1, none⟩ = some (.int .i64 vary) := cell_of_row w9 _ 1 _ _ _ hx4
                           have H9 := Lib.hid (And.intro (H6.out.1.trans (hb9.mono H6.out.1.size)) (And.intro ((hb9.block _ (lt_of_heap H6.out.2.1)).trans H6.out.2.1) (And.intro hx4 hx1)))
                           clear hP9 hM9 hb9 hx1 hx4))
                      go_ret
                      refine ⟨by rw [truth_no HP.out.2.2.1 hk (by rw [HNP.out.2.1, show ps.all (trJ gs vary ts p k) = false from List.all_eq_false.2 ⟨q, HJQ.out.2, by rw [HJQ.out.1]; simp; omega⟩, Bool.and_false])]; rfl, H9.out.1⟩
                    · go_wp2_with (first
                        | (show wpList _ _ _ (Oper.mk (some 66) _ _ _ _ _ :: _) _ _
                           refine wpList_load_blk 25 (.tmp 3) rfl rfl rfl H6.out.2.1 [.slice (some ⟨cP, oP, none⟩) ps.length cp, .slice AT nt ct] at0 rowSheet5 ?_)
                        | (show wpList _ _ _ (Oper.mk (some 67) _ _ _ _ _ :: _) _ _
                           refine wpList_load_blk 28 (.tmp 4) rfl rfl rfl H6.out.2.2.1 [.slice AG gs.length cg, .int .i64 vary] at0 rowGrading5 ?_)
                        | (go_at_call 45
                           refine (HOW.out W6 H6.out.1).mono ?_
                           rintro e w8 ⟨rfl, hB8⟩
                           have H8 := Lib.hid hB8
                           clear hB8)
                        | (show wpList _ _ _ (Oper.mk none (Op.store _ (Operand.tmp 11) (Operand.tmp 71)) _ _ _ _ :: _) _ _
                           refine wpList_store_blk 38 (.tmp 11) (.tmp 71) rfl rfl rfl rfl rfl (alloc_at0 w8 _) (Nat.le_of_ble_eq_true rfl) (sp2_one _) rowSpan5 ?_
                           intro w9 hP9 hM9
                           rw [splice_whole (by rfl)] at hM9
                           have hb9 : Below W6.heap.size W6 w9 := H8.out.trans (((grow1 w8 _).trans (hP9.below (Nat.le_refl _))).mono H8.out.size)
                           have hx1 := (hb9.block _ (lt_of_heap H6.out.2.2.2.2)).trans H6.out.2.2.2.2
                           have hx4 := (hb9.block _ (lt_of_heap H6.out.2.2.1)).trans H6.out.2.2.1
                           have f3 : w9.cell? ⟨w8.heap.size, 1, none⟩ = some (.int .i64 o2) := cell_of_row w9 _ 1 _ _ _ hM9
                           have f4 : w9.cell? ⟨ba, 0, none⟩ = some (.int .i64 z1) := cell_of_row w9 _ 0 _ _ _ hx1
                           have f5 : w9.cell? ⟨w.heap.size + 1, 1, none⟩ = some (.int .i64 vary) := cell_of_row w9 _ 1 _ _ _ hx4
                           have H9 := Lib.hid (And.intro (H6.out.1.trans (hb9.mono H6.out.1.size)) (And.intro ((hb9.block _ (lt_of_heap H6.out.2.1)).trans H6.out.2.1) (And.intro hx4 hx1)))
                           clear hP9 hM9 hb9 hx1 hx4))
                      go_roundg gj
                      case measure => omega
                      case rel => exact ⟨j + 1, by omega, by go_num, by rw [HST.out, HJQ.out.1]; simp; omega, ⟨H9.out.1, H9.out.2.1, H9.out.2.2.1⟩, H9.out.2.2.2⟩
                  · have HST := Lib.hid hst
                    have HJQ := Lib.hid hjq
                    have HNN := Lib.hid hnn
                    have HNE := Lib.hid (And.intro (show ((nq : Int) == (np : Int)) = false by simp; omega) (show ((nq : Int) != (np : Int)) = true by simp; omega))
                    clear hst how hsm hjq hnn hnq hmq
                    go_wp2
                    refine R6.wp_walk (C := fun _ _ W => Below wr.heap.size wr W) 80 (by kernel_rfl) (by kernel_rfl) rfl (Below.refl _ _).drew ?_
                    simp only []
                    refine' R6.WalkR.det (fun _ => rfl) (fun D ρ W hK hC => ?_) ?_
                    rotate_left
                    · exact gives_load_blk 28 (.tmp 4) rfl rfl ((hC.block _ (lt_of_heap HR.out.2.2)).trans HR.out.2.2) [.slice AG gs.length cg, .int .i64 vary] at0 rowGrading5 ⟨rfl, hC⟩
                    simp only [Act.put, List.setIfInBounds_toArray, List.set_cons_succ, List.set_cons_zero]
                    repeat (first
                      | (refine' R6.WalkR.det (fun _ => rfl) (fun D ρ W hK hC => ?_) ?_
                         rotate_left
                         · have f1 : W.cell? ⟨w.heap.size, 0, none⟩ = some (.slice (some ⟨cP, oP, none⟩) ps.length cp) := cell_of_row W _ 0 _ _ _ ((hC.block _ (lt_of_heap HR.out.2.1)).trans HR.out.2.1)
                           have HC := Lib.hid hC
                           clear hC hK
                           go_simp
                           with_reducible exact ⟨rfl, HC.out⟩
                         simp only [Act.put, List.setIfInBounds_toArray, List.set_cons_succ, List.set_cons_zero]))
                    refine' R6.WalkR.det (fun _ => rfl) (fun D ρ W hK hC => ?_) ?_
                    rotate_left
                    · exact gives_load_at 58 (.tmp 55) rfl rfl _ (HT.out.1 W hC) rowPole ⟨rfl, hC⟩
                    simp only [Act.put, List.setIfInBounds_toArray, List.set_cons_succ, List.set_cons_zero]
                    refine' R6.WalkR.det (fun _ => rfl) (fun D ρ W hK hC => ?_) ?_
                    rotate_left
                    · have HC := Lib.hid hC
                      clear hC hK
                      go_simp
                      go_at_call 21
                      refine (HT.out.2.1 W HC.out).mono ?_
                      rintro e W1 ⟨rfl, hB1⟩
                      exact ⟨_, rfl, rfl, HC.out.trans (hB1.mono HC.out.size)⟩
                    simp only [Act.put, List.setIfInBounds_toArray, List.set_cons_succ, List.set_cons_zero]
                    refine' R6.WalkR.det (fun _ => rfl) (fun D ρ W hK hC => ?_) ?_
                    rotate_left
                    · exact gives_load_blk 28 (.tmp 4) rfl rfl ((hC.block _ (lt_of_heap HR.out.2.2)).trans HR.out.2.2) [.slice AG gs.length cg, .int .i64 vary] at0 rowGrading5 ⟨rfl, hC⟩
                    simp only [Act.put, List.setIfInBounds_toArray, List.set_cons_succ, List.set_cons_zero]
                    repeat (first
                      | (refine' R6.WalkR.det (fun _ => rfl) (fun D ρ W hK hC => ?_) ?_
                         rotate_left
                         · have f1 : W.cell? ⟨w.heap.size, 0, none⟩ = some (.slice (some ⟨cP, oP, none⟩) ps.length cp) := cell_of_row W _ 0 _ _ _ ((hC.block _ (lt_of_heap HR.out.2.1)).trans HR.out.2.1)
                           have HC := Lib.hid hC
                           clear hC hK
                           go_simp
                           with_reducible exact ⟨rfl, HC.out⟩
                         simp only [Act.put, List.setIfInBounds_toArray, List.set_cons_succ, List.set_cons_zero]))
                    refine' R6.WalkR.det (fun _ => rfl) (fun D ρ W hK hC => ?_) ?_
                    rotate_left
                    · exact gives_load_at 58 (.tmp 62) rfl rfl _ (HT.out.2.2.1 W hC) rowPole ⟨rfl, hC⟩
                    simp only [Act.put, List.setIfInBounds_toArray, List.set_cons_succ, List.set_cons_zero]
                    refine' R6.WalkR.det (fun _ => rfl) (fun D ρ W hK hC => ?_) ?_
                    rotate_left
                    · have HC := Lib.hid hC
                      clear hC hK
                      go_simp
                      go_at_call 21
                      refine (HT.out.2.2.2 W HC.out).mono ?_
                      rintro e W1 ⟨rfl, hB1⟩
                      exact ⟨_, rfl, rfl, HC.out.trans (hB1.mono HC.out.size)⟩
                    simp only [Act.put, List.setIfInBounds_toArray, List.set_cons_succ, List.set_cons_zero]
                    repeat (first
                      | (refine' R6.WalkR.det (fun _ => rfl) (fun D ρ W hK hC => ?_) ?_
                         rotate_left
                         · obtain ⟨n1, n2⟩ := HNE.out
                           have HC := Lib.hid hC
                           clear hC hK
                           go_simp
                           with_reducible exact ⟨rfl, HC.out⟩
                         simp only [Act.put, List.setIfInBounds_toArray, List.set_cons_succ, List.set_cons_zero]))
                    refine R6.WalkR.nil (fun D ρ W6 hD hC => ?_)
                    have H6 := Lib.hid (And.intro (HR.out.1.trans (hC.mono HR.out.1.size)) (And.intro ((hC.block _ (lt_of_heap HR.out.2.1)).trans HR.out.2.1) (And.intro ((hC.block _ (lt_of_heap HR.out.2.2)).trans HR.out.2.2) (And.intro hC ((hC.block _ (lt_of_heap HBA.out)).trans HBA.out)))))
                    clear hC hD
                    clear hcr
                    go_wp2
                    go_roundg gj
                    case measure => omega
                    case rel => exact ⟨j + 1, by omega, by go_num, by rw [HST.out, HJQ.out]; simp [HNN.out], ⟨H6.out.1, H6.out.2.1, H6.out.2.2.1⟩, H6.out.2.2.2.2⟩

end Go.Proofs.Ytboffligjgjgjaa
