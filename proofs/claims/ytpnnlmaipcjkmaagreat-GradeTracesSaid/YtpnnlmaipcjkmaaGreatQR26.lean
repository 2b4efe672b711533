/-
  How many culms of an origin were cut by the books (the reference's): the walk.
-/
import Derived.Test.YtpnnlmaipcjkmaaGreatQR25
set_option linter.all false
namespace Go.Proofs.YtpnnlmaipcjkmaaGreat
open Go.RowKit
open R6 (done done_ne done_me upd_ne upd_me)

attribute [local go_sem] gives

set_option maxRecDepth 100000 in
set_option maxHeartbeats 8000000 in
theorem rfCut_any (l : List Gv) (p : Pol) (A : Option Addr) (cap : Nat) (B : Nat) (w : World) (hB : B ≤ w.heap.size) (hz : GvsAt w B l A) (hl : l.length ≤ 1000000) :
    Calls Tryz.prog 47 #[.slice A l.length cap, .agg (pcl p).toArray] w fun e w' => e = .returned (.int .i64 (refCutL (orgP p) l)) ∧ Below w.heap.size w w' := by
  obtain ⟨w1, hw1⟩ : ∃ w1, w.alloc (.cells (pcl p).toArray 56) = w1 := ⟨_, rfl⟩
  have hb1 : Below w.heap.size w w1 := by rw [← hw1]; exact grow1 _ _
  have m1 : w1.heap[w.heap.size]? = some (.cells (pcl p).toArray 56 (0, 0)) := by rw [← hw1]; exact alloc_at0 _ _
  have hpc := fun (W : World) (hW : Below w1.heap.size w1 W) => (hW.block _ (lt_of_heap m1)).trans m1
  have HP := Lib.hid hpc
  have HZ := Lib.hid hz
  have HB1 := Lib.hid hb1
  obtain ⟨X, hX⟩ : ∃ X, X = refCutL (orgP p) l := ⟨_, rfl⟩
  rw [← hX]
  have hX0 : refCutL (orgP p) (l.drop 0) = X := by rw [hX]; rfl
  have HX := Lib.hid hX0
  obtain ⟨o, ho⟩ : ∃ o, o = orgP p := ⟨_, rfl⟩
  rw [← ho] at HX
  have HO := Lib.hid (show o.clone = p.clone ∧ o.cut = p.cut ∧ o.shot = p.shot by rw [ho]; exact ⟨rfl, rfl, rfl⟩)
  clear hpc m1 hz hX hX0 ho hb1
  unfold pcl at hw1 ⊢
  go_enter Tryz.func47, Tryz.ntmps47
  go_wp2
  go_loopg [5] l.length (fun gg s5 wx => ∃ k : Nat, k + gg = l.length ∧ s5 = .int .i64 k ∧ Hid (refCutL o (l.drop k) = X) ∧ Hid (Below w1.heap.size w1 wx))
  case atStart => exact ⟨0, by omega, rfl, HX.out, Below.refl _ _⟩
  case round =>
    obtain ⟨k, hkg, rfl, hI, hBr⟩ := hrel
    have hws := hBr.out.size
    cases gk with
    | zero =>
      obtain rfl : k = l.length := by omega
      have hI' := hI.out
      rw [List.drop_length] at hI'
      have HI := Lib.hid hI'
      clear hI'
      go_wp2
      go_ret
      exact ⟨by rw [← HI.out]; rfl, HB1.out.trans (hBr.out.mono HB1.out.size)⟩
    | succ gg =>
      have hk : k < l.length := by omega
      have hkz : (k : Int) < l.length := by omega
      obtain ⟨c, off, hA, hcB, hc⟩ := vals_elem gvl_len HZ.out.v (by decide) hk
      subst hA
      have hb0 := fun (W : World) (hW : Below wr.heap.size wr W) => HB1.out.trans ((hBr.out.trans (hW.mono hws)).mono HB1.out.size)
      have hd1 := fun (W : World) (hW : Below wr.heap.size wr W) j v hv => ((hb0 W hW).cell (p := ⟨c, off + k * 10 + j, none⟩) (by simp; omega)).trans (hc j v hv)
      have hgr := fun (W : World) (hW : Below wr.heap.size wr W) => (HZ.out.at_ _ (List.getElem_mem hk)).below ((hb0 W hW).mono hB)
      have hpl := fun (W : World) (hW : Below wr.heap.size wr W) => HP.out W (hBr.out.trans (hW.mono hws))
      have hst : refCutL o (l.drop k) = refCutL o (l[k] :: l.drop (k + 1)) := by rw [List.drop_eq_getElem_cons hk]
      rw [hI.out] at hst
      generalize l[k] = y at hd1 hgr hst
      have hd0 := fun W hW => hd1 W hW 0 _ rfl
      simp only [Nat.add_zero] at hd0
      have hp1 := fun W hW => cell_of_row W w.heap.size 1 _ _ _ (hpl W hW)
      have hp2 := fun W hW => cell_of_row W w.heap.size 2 _ _ _ (hpl W hW)
      have hp3 := fun W hW => cell_of_row W w.heap.size 3 _ _ _ (hpl W hW)
      unfold pcl at hp1 hp2 hp3
      have hcl : cuG o y = decide (y.g.id = p.clone) := by rw [← HO.out.1]; rfl
      obtain ⟨iy, hiy⟩ : ∃ iy, iy = y.g.id := ⟨_, rfl⟩
      obtain ⟨pc, hpc⟩ : ∃ pc, pc = p.clone := ⟨_, rfl⟩
      rw [← hiy] at hd0 hcl
      rw [← hpc] at hp1 hcl
      have HD := Lib.hid (And.intro hd1 hd0)
      have HPS := Lib.hid (And.intro hp1 (And.intro hp2 hp3))
      have HPL := Lib.hid hpl
      have HST := Lib.hid hst
      have HGR := Lib.hid hgr
      have HCL := Lib.hid hcl
      clear hd1 hd0 hc hgr hst hb0 hp1 hp2 hp3 hpl hiy hpc hcl
      by_cases hcc : iy = pc
      · have e1 : decide (iy = pc) = true := decide_eq_true hcc
        have e2 : decide (¬ iy = pc) = false := by simp [hcc]
        have e3 : (iy == pc) = true := by simp [hcc]
        have e4 : (iy != pc) = false := by simp [hcc]
        have HCC := Lib.hid (HCL.out.trans e1)
        clear hcc
        go_wp2
        refine R6.wp_walk (C := fun _ _ W => Below wr.heap.size wr W) 52 (by kernel_rfl) (by kernel_rfl) rfl (Below.refl _ _).drew ?_
        simp only []
        repeat (first
          | (refine' R6.WalkR.det (fun _ => rfl) (fun D ρ W hK hC => ?_) ?_
             rotate_left
             · have f0 := HD.out.2 W hC
               have f1 := HPS.out.1 W hC
               have HC := Lib.hid hC
               clear hC hK
               go_simp
               with_reducible exact ⟨rfl, HC.out⟩
             simp only [Act.put, List.setIfInBounds_toArray, List.set_cons_succ, List.set_cons_zero]))
        refine R6.WalkR.nil (fun D ρ W hD hC => ?_)
        have HB := Lib.hid (hC)
        clear hC hD
        go_wp2
        clear e1 e2 e3 e4
        have hbw := hBr.out.trans (HB.out.mono hws)
        have htk := fun W (hW : Below wr.heap.size wr W) => refTaken_any y.g p.cut y.A1 y.c1 y.A2 y.c2 B W (Nat.le_trans hB (Nat.le_trans HB1.out.size (Nat.le_trans hws hW.size))) (HGR.out W hW)
        have hst := HST.out
        rw [refCutL, if_pos HCC.out, HO.out.2.1] at hst
        have HST2 := Lib.hid hst
        unfold TakePost at htk
        simp only [← gvl_grv] at htk
        have htl := takenVal_len y.g p.cut
        generalize takenVal y.g p.cut = ts at htk HST2 htl
        generalize standErr y.g p.cut = er at htk
        have HTK := Lib.hid htk
        have HK0 := Lib.hid (HPL.out)
        clear htk hst hbw
        refine R6.wp_walk (C := ResD W [(w.heap.size, .cells (pcl p).toArray 56 (0, 0))] (TakΦ ts er) 6 30) 52 (by kernel_rfl) (by kernel_rfl) rfl (ResD.start (Below.refl _ _) ⟨HPL.out _ HB.out, trivial⟩ rfl) ?_
        simp only []
        iterate 3
          (first
           | (refine' R6.WalkR.det (fun _ => rfl) (fun D ρ W hK hC => ?_) ?_
              rotate_left
              · skip
                have HC := Lib.hid hC
                clear hC hK
                go_simp
                with_reducible exact ⟨rfl, HC.out.move (by decide)⟩
              simp only [Act.put, List.setIfInBounds_toArray, List.set_cons_succ, List.set_cons_zero])
           | skip)
        refine' R6.WalkR.det (fun _ => rfl) (fun D ρ W hK hC => ?_) ?_
        rotate_left
        · exact gives_load_at 74 (.tmp 26) rfl rfl (gvl y) (HD.out.1 W (HB.out.trans (hC.bel.mono HB.out.size))) rowGroveA ⟨rfl, hC.move (by decide)⟩
        simp only [Act.put, List.setIfInBounds_toArray, List.set_cons_succ, List.set_cons_zero]
        iterate 2
          (first
           | (refine' R6.WalkR.det (fun _ => rfl) (fun D ρ W hK hC => ?_) ?_
              rotate_left
              · have f2 := HPS.out.2.1 W (HB.out.trans (hC.bel.mono HB.out.size))
                have HC := Lib.hid hC
                clear hC hK
                go_simp
                with_reducible exact ⟨rfl, HC.out.move (by decide)⟩
              simp only [Act.put, List.setIfInBounds_toArray, List.set_cons_succ, List.set_cons_zero])
           | skip)
        refine' R6.WalkR.nd (fun _ => rfl) rfl (fun D ρ W hK hC => ?_) ?_
        · have HC := Lib.hid hC
          clear hC hK
          go_simp
          go_at_call 83
          refine (HTK.out W (HB.out.trans (HC.out.bel.mono HB.out.size))).mono ?_
          rintro e W1 ⟨A6, c6, rfl, hv6, hB6⟩
          exact ⟨_, rfl, HC.out.made hB6 ⟨A6, c6, rfl, hv6⟩⟩
        simp only [Act.put, List.setIfInBounds_toArray, List.set_cons_succ, List.set_cons_zero]
        refine' R6.WalkR.fn 30 (fun v => v) (fun _ => rfl) (by first | decide +kernel | (dsimp only; decide +kernel)) (fun D ρ W hK hC => ?_) ?_
        · obtain ⟨A6, c6, hv, -⟩ := hC.res (hK.pre 6 (by first | decide +kernel | (dsimp only; decide +kernel)))
          have HC := Lib.hid hC
          clear hC hK
          go_simp
          first
            | exact HC.out.move (by decide)
            | exact ⟨by rw [hv]; rfl, HC.out.move (by decide)⟩
            | exact ⟨rfl, HC.out.move (by decide)⟩
        simp only [Act.put, List.setIfInBounds_toArray, List.set_cons_succ, List.set_cons_zero]
        refine' R6.WalkR.fn 30 (fun v => tupAt v 0) (fun _ => rfl) (by first | decide +kernel | (dsimp only; decide +kernel)) (fun D ρ W hK hC => ?_) ?_
        · obtain ⟨A6, c6, hv, -⟩ := hC.res (hK.pre 6 (by first | decide +kernel | (dsimp only; decide +kernel)))
          have HC := Lib.hid hC
          clear hC hK
          go_simp
          first
            | exact HC.out.move (by decide)
            | exact ⟨by rw [hv]; rfl, HC.out.move (by decide)⟩
            | exact ⟨rfl, HC.out.move (by decide)⟩
        simp only [Act.put, List.setIfInBounds_toArray, List.set_cons_succ, List.set_cons_zero]
        refine' R6.WalkR.fn 30 (fun v => tupAt v 1) (fun _ => rfl) (by first | decide +kernel | (dsimp only; decide +kernel)) (fun D ρ W hK hC => ?_) ?_
        · obtain ⟨A6, c6, hv, -⟩ := hC.res (hK.pre 6 (by first | decide +kernel | (dsimp only; decide +kernel)))
          have HC := Lib.hid hC
          clear hC hK
          go_simp
          first
            | exact HC.out.move (by decide)
            | exact ⟨by rw [hv]; rfl, HC.out.move (by decide)⟩
            | exact ⟨rfl, HC.out.move (by decide)⟩
        simp only [Act.put, List.setIfInBounds_toArray, List.set_cons_succ, List.set_cons_zero]
        refine' R6.WalkR.fn 30 (fun v => tupAt v 0) (fun _ => rfl) (by first | decide +kernel | (dsimp only; decide +kernel)) (fun D ρ W hK hC => ?_) ?_
        · obtain ⟨A6, c6, hv, -⟩ := hC.res (hK.pre 6 (by first | decide +kernel | (dsimp only; decide +kernel)))
          have HC := Lib.hid hC
          clear hC hK
          go_simp
          first
            | exact HC.out.move (by decide)
            | exact ⟨by rw [hv]; rfl, HC.out.move (by decide)⟩
            | exact ⟨rfl, HC.out.move (by decide)⟩
        simp only [Act.put, List.setIfInBounds_toArray, List.set_cons_succ, List.set_cons_zero]
        refine' R6.WalkR.fn 30 (fun v => tupAt v 1) (fun _ => rfl) (by first | decide +kernel | (dsimp only; decide +kernel)) (fun D ρ W hK hC => ?_) ?_
        · obtain ⟨A6, c6, hv, -⟩ := hC.res (hK.pre 6 (by first | decide +kernel | (dsimp only; decide +kernel)))
          have HC := Lib.hid hC
          clear hC hK
          go_simp
          first
            | exact HC.out.move (by decide)
            | exact ⟨by rw [hv]; rfl, HC.out.move (by decide)⟩
            | exact ⟨rfl, HC.out.move (by decide)⟩
        simp only [Act.put, List.setIfInBounds_toArray, List.set_cons_succ, List.set_cons_zero]
        refine R6.WalkR.nil (fun D ρ W9 hD hC => ?_)
        obtain ⟨A6, c6, hv, hi⟩ := hC.res (hD 6 (by omega))
        simp only [hv, tupAt, show ∀ (x y : Value), (#[x, y] : Array Value).getD 0 undef = x from fun _ _ => rfl, show ∀ (x y : Value), (#[x, y] : Array Value).getD 1 undef = y from fun _ _ => rfl]
        have H9 := Lib.hid (And.intro (HB.out.trans (hC.bel.mono HB.out.size)) hi)
        clear hC hD hv hi
        go_wp2
        go_loopg [8] ts.length (fun gh s8 wz => ∃ j : Nat, j + gh = ts.length ∧ s8 = .int .i64 j ∧ Hid ((ts.drop j).find? (cuK o) = ts.find? (cuK o)) ∧ Hid (Below W9.heap.size W9 wz))
        case atStart => exact ⟨0, by omega, rfl, rfl, Below.refl _ _⟩
        case round =>
          obtain ⟨j, hjg, rfl, hJ, hBj⟩ := hrel
          have hwz := hBj.out.size
          cases gk with
          | zero =>
            obtain rfl : j = ts.length := by omega
            have hJ' := hJ.out
            rw [List.drop_length, List.find?_nil] at hJ'
            have hst := HST2.out
            rw [← hJ'] at hst
            have HI := Lib.hid hst
            clear hJ' hst
            go_wp2
            go_roundg gg
            case measure => omega
            case rel => exact ⟨k + 1, by omega, by go_num, HI.out.symm, hBr.out.trans ((H9.out.1.trans (hBj.out.mono H9.out.1.size)).mono hws)⟩
          | succ gh =>
            have hj : j < ts.length := by omega
            have hjz : (j : Int) < ts.length := by omega
            have hv9 : Vals W9 W9.heap.size A6 (ts.flatMap tkl) := H9.out.2
            obtain ⟨d, q, hA6, hdB, hdc⟩ := vals_elem tkl_len hv9 (by decide) hj
            subst hA6
            have hst2 : (ts.drop j).find? (cuK o) = if cuK o ts[j] = true then some ts[j] else (ts.drop (j + 1)).find? (cuK o) := by
              rw [List.drop_eq_getElem_cons hj, List.find?_cons]
              cases cuK o ts[j] <;> rfl
            rw [hJ.out] at hst2
            have hcell := fun (W : World) (hW : Below wr.heap.size wr W) i v hv => ((hBj.out.trans (hW.mono hwz)).cell (p := ⟨d, q + j * 2 + i, none⟩) (by simp; omega)).trans (hdc i v hv)
            generalize ts[j] = s at hcell hst2
            have hc0 := fun W hW => hcell W hW 0 _ rfl
            have hc1 := fun W hW => hcell W hW 1 _ rfl
            simp only [Nat.add_zero] at hc0
            have hck : cuK o s = decide (s.1 = p.shot) := by rw [← HO.out.2.2]; rfl
            have hp3 := fun (W : World) (hW : Below wr.heap.size wr W) => HPS.out.2.2 W (H9.out.1.trans ((hBj.out.trans (hW.mono hwz)).mono H9.out.1.size))
            obtain ⟨sh, hsh⟩ : ∃ sh, sh = p.shot := ⟨_, rfl⟩
            rw [← hsh] at hck hp3
            clear hsh
            obtain ⟨s1, s2⟩ := s
            simp only at hc0 hc1 hck
            have HC2 := Lib.hid (And.intro hc0 (And.intro hc1 hp3))
            have HCK := Lib.hid hck
            have HS2 := Lib.hid hst2
            clear hcell hc0 hc1 hp3 hck hst2 hdc hv9
            by_cases hss : s1 = sh
            · have e1 : decide (s1 = sh) = true := decide_eq_true hss
              have e2 : decide (¬ s1 = sh) = false := by simp [hss]
              have e3 : (s1 == sh) = true := by simp [hss]
              have e4 : (s1 != sh) = false := by simp [hss]
              have HSS := Lib.hid (HCK.out.trans e1)
              clear hss
              go_wp2
              refine R6.wp_walk (C := fun _ _ W => Below wr.heap.size wr W) 52 (by kernel_rfl) (by kernel_rfl) rfl (Below.refl _ _).drew ?_
              simp only []
              repeat (first
                | (refine' R6.WalkR.det (fun _ => rfl) (fun D ρ W hK hC => ?_) ?_
                   rotate_left
                   · have f0 := HC2.out.1 W hC
                     have f1 := HC2.out.2.2 W hC
                     have HC := Lib.hid hC
                     clear hC hK
                     go_simp
                     with_reducible exact ⟨rfl, HC.out⟩
                   simp only [Act.put, List.setIfInBounds_toArray, List.set_cons_succ, List.set_cons_zero]))
              refine R6.WalkR.nil (fun D ρ W hD hC => ?_)
              have HB9 := Lib.hid hC
              have hc1 := HC2.out.2.1 W hC
              clear hC hD
              go_wp2
              go_ret
              refine ⟨?_, HB1.out.trans ((hBr.out.trans ((H9.out.1.trans ((hBj.out.trans (HB9.out.mono hwz)).mono H9.out.1.size)).mono hws)).mono HB1.out.size)⟩
              rw [HST2.out, HS2.out, if_pos HSS.out]
              rfl
            · have e1 : decide (s1 = sh) = false := decide_eq_false hss
              have e2 : decide (¬ s1 = sh) = true := by simp [hss]
              have e3 : (s1 == sh) = false := by simp [hss]
              have e4 : (s1 != sh) = true := by simp [hss]
              have HSS := Lib.hid (HCK.out.trans e1)
              clear hss
              go_wp2
              refine R6.wp_walk (C := fun _ _ W => Below wr.heap.size wr W) 52 (by kernel_rfl) (by kernel_rfl) rfl (Below.refl _ _).drew ?_
              simp only []
              repeat (first
                | (refine' R6.WalkR.det (fun _ => rfl) (fun D ρ W hK hC => ?_) ?_
                   rotate_left
                   · have f0 := HC2.out.1 W hC
                     have f1 := HC2.out.2.2 W hC
                     have HC := Lib.hid hC
                     clear hC hK
                     go_simp
                     with_reducible exact ⟨rfl, HC.out⟩
                   simp only [Act.put, List.setIfInBounds_toArray, List.set_cons_succ, List.set_cons_zero]))
              refine R6.WalkR.nil (fun D ρ W hD hC => ?_)
              have HB9 := Lib.hid hC
              have hc1 := HC2.out.2.1 W hC
              clear hC hD
              go_wp2
              go_roundg gh
              case measure => omega
              case rel => exact ⟨j + 1, by omega, by go_num, by rw [HS2.out, HSS.out]; rfl, hBj.out.trans (HB9.out.mono hwz)⟩
      · have e1 : decide (iy = pc) = false := decide_eq_false hcc
        have e2 : decide (¬ iy = pc) = true := by simp [hcc]
        have e3 : (iy == pc) = false := by simp [hcc]
        have e4 : (iy != pc) = true := by simp [hcc]
        have HCC := Lib.hid (HCL.out.trans e1)
        clear hcc
        go_wp2
        refine R6.wp_walk (C := fun _ _ W => Below wr.heap.size wr W) 52 (by kernel_rfl) (by kernel_rfl) rfl (Below.refl _ _).drew ?_
        simp only []
        repeat (first
          | (refine' R6.WalkR.det (fun _ => rfl) (fun D ρ W hK hC => ?_) ?_
             rotate_left
             · have f0 := HD.out.2 W hC
               have f1 := HPS.out.1 W hC
               have HC := Lib.hid hC
               clear hC hK
               go_simp
               with_reducible exact ⟨rfl, HC.out⟩
             simp only [Act.put, List.setIfInBounds_toArray, List.set_cons_succ, List.set_cons_zero]))
        refine R6.WalkR.nil (fun D ρ W hD hC => ?_)
        have HB := Lib.hid (hC)
        clear hC hD
        go_wp2
        go_roundg gg
        case measure => omega
        case rel =>
          have hst := HST.out
          rw [refCutL, HCC.out] at hst
          exact ⟨k + 1, by omega, by go_num, hst.symm, hBr.out.trans (HB.out.mono hws)⟩

end Go.Proofs.YtpnnlmaipcjkmaaGreat
