/-
  Which poles are fit (the reference's).
-/
import Derived.Test.YtpnnlmaipcjkmaaGreatQR25
import Derived.Test.YtpnnlmaipcjkmaaGreatQR47
import Derived.Test.YtpnnlmaipcjkmaaGreatQR40
import Derived.Test.YtpnnlmaipcjkmaaGreatQR28
set_option linter.all false
namespace Go.Proofs.YtpnnlmaipcjkmaaGreat
open Go.RowKit
open R6 (done done_ne done_me upd_ne upd_me)

attribute [local go_sem] gives

def TreΦ (Z : List Int) (er : Int) (v : Value) (W : World) : Prop := ∃ A c, v = .tuple #[.slice A Z.length c, .int .i64 er] ∧ OwnU W 0 (.slice A Z.length c) Z

set_option maxRecDepth 100000 in
set_option maxHeartbeats 16000000 in
theorem rfFit_any (ps : List Pol) (ts : List Ts) (gs : List Gd) (vary : Int) (l : List Sk) (AP : Option Addr) (cp : Nat) (AT : Option Addr) (ct : Nat) (AG : Option Addr) (cg : Nat) (AL : Option Addr) (cl : Nat) (B : Nat) (w : World) (hB : B ≤ w.heap.size) (hz : ShAt w B ps ts AP AT) (hg : GdAt w B gs AG) (hv : SksAt w B l AL) (hl : l.length ≤ 1000000) :
    Calls Tryz.prog 17 #[.agg #[.slice AP ps.length cp, .slice AT ts.length ct], .agg #[.slice AG gs.length cg, .int .i64 vary], .slice AL l.length cl] w (KnownPost w (sFit gs vary ps ts l)) := by
  have hchk := fun (W : World) (hW : Below w.heap.size w W) => rfCheck_any ps ts gs vary AP cp AT ct AG cg B W (Nat.le_trans hB hW.size) (hz.below (hW.mono hB)) (hg.below (hW.mono hB))
  unfold shl gdl at hchk
  have hvg := fun (W : World) (hW : Below w.heap.size w W) => rfSoaks_any l AL cl B W (Nat.le_trans hB hW.size) (hv.below (hW.mono hB)) hl
  obtain ⟨w1, hw1⟩ : ∃ w1, (w.alloc (.cells #[.slice AP ps.length cp, .slice AT ts.length ct] 25)).alloc (.cells #[.slice AG gs.length cg, .int .i64 vary] 28) = w1 := ⟨_, rfl⟩
  have hb1 : Below w.heap.size w w1 := by rw [← hw1]; exact grow2 _ _ _
  have m1 : w1.heap[w.heap.size]? = some (.cells [.slice AP ps.length cp, .slice AT ts.length ct].toArray 25 (0, 0)) := by rw [← hw1]; exact alloc2_at0 _ _ _
  have m2 : w1.heap[w.heap.size + 1]? = some (.cells [.slice AG gs.length cg, .int .i64 vary].toArray 28 (0, 0)) := by rw [← hw1]; exact alloc2_at1 _ _ _
  have H1 := Lib.hid (And.intro hb1 (And.intro m1 m2))
  clear hb1 m1 m2
  unfold sFit
  by_cases hck : gChk gs vary ps ts = 0
  rotate_left
  · rw [if_neg hck]
    generalize gChk gs vary ps ts = E at hchk hck ⊢
    have HC1 := Lib.hid hchk
    have hce : (E == 0) = false := by simpa using hck
    have hcn : (E != 0) = true := by simpa using hck
    have hcd : decide (E = 0) = false := decide_eq_false hck
    clear hchk hvg hz hg hv hck
    go_enter Tryz.func17, Tryz.ntmps17
    go_wp2_with (first
      | (go_at_call 46
         refine (HC1.out w1 H1.out.1).mono ?_
         rintro e w2 ⟨rfl, hB2⟩
         have H2 := Lib.hid (And.intro (H1.out.1.trans (hB2.mono H1.out.1.size)) ((hB2.block _ (lt_of_heap H1.out.2.1)).trans H1.out.2.1))
         clear hB2)
      | (show wpList _ _ _ (Oper.mk (some 15) _ _ _ _ _ :: _) _ _
         refine wpList_load_blk 25 (.tmp 3) rfl rfl rfl H1.out.2.1 [.slice AP ps.length cp, .slice AT ts.length ct] at0 rowSheetP ?_)
      | (show wpList _ _ _ (Oper.mk (some 16) _ _ _ _ _ :: _) _ _
         refine wpList_load_blk 28 (.tmp 4) rfl rfl rfl H1.out.2.2 [.slice AG gs.length cg, .int .i64 vary] at0 rowGradingP ?_))
    go_ret2
    exact ⟨none, 0, rfl, ownU_nil _ _, H2.out.1⟩
  rw [if_pos hck]
  rw [hck] at hchk
  have hk := grOk_of hck
  have HC1 := Lib.hid hchk
  clear hchk
  cases hok : okSks l
  · rw [hok] at hvg
    rw [if_neg (by decide)]
    have HVG := Lib.hid hvg
    clear hvg hok hk hz hg hv hck
    go_enter Tryz.func17, Tryz.ntmps17
    go_wp2_with (first
      | (go_at_call 39
         refine (HVG.out w2 H2.out.1).mono ?_
         rintro e w3 ⟨rfl, hB3⟩
         have H3 := Lib.hid (And.intro (H2.out.1.trans (hB3.mono H2.out.1.size)) ((hB3.block _ (lt_of_heap H2.out.2)).trans H2.out.2))
         have f3 : w3.cell? ⟨w.heap.size, 0, none⟩ = some (.slice AP ps.length cp) := cell_of_row w3 _ 0 _ _ _ ((hB3.block _ (lt_of_heap H2.out.2)).trans H2.out.2)
         clear hB3)
      | (go_at_call 46
         refine (HC1.out w1 H1.out.1).mono ?_
         rintro e w2 ⟨rfl, hB2⟩
         have H2 := Lib.hid (And.intro (H1.out.1.trans (hB2.mono H1.out.1.size)) ((hB2.block _ (lt_of_heap H1.out.2.1)).trans H1.out.2.1))
         clear hB2)
      | (show wpList _ _ _ (Oper.mk (some 15) _ _ _ _ _ :: _) _ _
         refine wpList_load_blk 25 (.tmp 3) rfl rfl rfl H1.out.2.1 [.slice AP ps.length cp, .slice AT ts.length ct] at0 rowSheetP ?_)
      | (show wpList _ _ _ (Oper.mk (some 16) _ _ _ _ _ :: _) _ _
         refine wpList_load_blk 28 (.tmp 4) rfl rfl rfl H1.out.2.2 [.slice AG gs.length cg, .int .i64 vary] at0 rowGradingP ?_))
    go_ret2
    exact ⟨none, 0, rfl, ownU_nil _ _, H3.out.1⟩
  rw [hok] at hvg
  rw [if_pos rfl]
  have HVG := Lib.hid hvg
  have hp12 := hk.p12
  have hl6 : l.length ≤ 6 := by
    simp only [okSks, Bool.and_eq_true, decide_eq_true_eq] at hok
    omega
  have htr := fun x (hx : x ∈ l) (W : World) (hW : Below w.heap.size w W) => refTreated_any x.t x.A x.c x.l x.h B W (Nat.le_trans hB hW.size) ((hv.r x hx).below (hW.mono hB)) (fun s hs => Nat.le_trans ((hv.s x hx).2 s hs) (by decide))
  have hpk := fun p (hp : p ∈ ps) => okPol_sk (hk.po p hp).2
  have HTR := Lib.hid htr
  have HPK := Lib.hid hpk
  have HV := Lib.hid hv.v
  have HZ := Lib.hid hz.p
  have htl : (fitL l ps).length = ps.length := by simp [fitL]
  have hat : ∀ k (hk : k < ps.length), (fitL l ps).take (k + 1) = (fitL l ps).take k ++ [fitP l ps[k]] := fun k hk => by
    rw [List.take_add_one]
    simp [fitL, hk]
  have HAT := Lib.hid (And.intro htl hat)
  obtain ⟨i0, hi, hz0, hz1, hz2⟩ := info_parts infoU8
  have HI := Lib.hid (And.intro hi (And.intro hz0 (And.intro hz1 hz2)))
  clear hvg hok hk hz hg hv hck htr hpk htl hat hi hz0 hz1 hz2
  obtain ⟨T, hT⟩ : ∃ T, T = fitL l ps := ⟨_, rfl⟩
  rw [← hT] at HAT
  rw [← hT]
  clear hT
  go_enter Tryz.func17, Tryz.ntmps17
  go_wp2_with (first
      | (go_at_call 39
         refine (HVG.out w2 H2.out.1).mono ?_
         rintro e w3 ⟨rfl, hB3⟩
         have H3 := Lib.hid (And.intro (H2.out.1.trans (hB3.mono H2.out.1.size)) ((hB3.block _ (lt_of_heap H2.out.2)).trans H2.out.2))
         have f3 : w3.cell? ⟨w.heap.size, 0, none⟩ = some (.slice AP ps.length cp) := cell_of_row w3 _ 0 _ _ _ ((hB3.block _ (lt_of_heap H2.out.2)).trans H2.out.2)
         clear hB3)
      | (go_at_call 46
         refine (HC1.out w1 H1.out.1).mono ?_
         rintro e w2 ⟨rfl, hB2⟩
         have H2 := Lib.hid (And.intro (H1.out.1.trans (hB2.mono H1.out.1.size)) ((hB2.block _ (lt_of_heap H1.out.2.1)).trans H1.out.2.1))
         clear hB2)
      | (show wpList _ _ _ (Oper.mk (some 15) _ _ _ _ _ :: _) _ _
         refine wpList_load_blk 25 (.tmp 3) rfl rfl rfl H1.out.2.1 [.slice AP ps.length cp, .slice AT ts.length ct] at0 rowSheetP ?_)
      | (show wpList _ _ _ (Oper.mk (some 16) _ _ _ _ _ :: _) _ _
         refine wpList_load_blk 28 (.tmp 4) rfl rfl rfl H1.out.2.2 [.slice AG gs.length cg, .int .i64 vary] at0 rowGradingP ?_))
  go_loopg [9, 10] ps.length (fun gg s9 s10 wx => ∃ (k : Nat) (v : Value), k + gg = ps.length ∧ s9 = v ∧ s10 = .int .i64 k ∧ Hid (OwnU wx w3.heap.size v (T.take k)) ∧ Hid (Below w3.heap.size w3 wx))
  case atStart => exact ⟨0, _, by omega, rfl, rfl, ownU_nil _ _, Below.refl _ _⟩
  case round =>
    obtain ⟨k, v, hkg, hs9, rfl, hO, hBr⟩ := hrel
    obtain rfl := hs9.symm
    have hws := hBr.out.size
    have hsh := fun (W : World) (hW : Below wr.heap.size wr W) => cell_of_row W w.heap.size 0 _ _ _ (((hBr.out.trans (hW.mono hws)).block _ (lt_of_heap H3.out.2)).trans H3.out.2)
    have f9 := hsh wr (Below.refl _ _)
    clear f3
    cases gk with
    | zero =>
      have hkl : k = ps.length := by omega
      have hkn : ¬ (k : Int) < ps.length := by omega
      have hO' := hO.out
      rw [hkl, List.take_of_length_le (by rw [HAT.out.1]; omega)] at hO'
      obtain ⟨Av, cv, hv⟩ := own_slice hO'
      rw [hv] at hO'
      have HOO := Lib.hid hO'
      have HLT := Lib.hid HAT.out.1
      rw [hv]
      clear hv hO' hkl
      go_wp2
      go_ret2
      exact ⟨Av, cv, rfl, ownU_weak HOO.out (by have := H3.out.1.size; omega), H3.out.1.trans (hBr.out.mono H3.out.1.size)⟩
    | succ gg =>
      have hk : k < ps.length := by omega
      have hkz : (k : Int) < ps.length := by omega
      obtain ⟨c, off, hA, hcB, hc⟩ := vals_elem pcl_len HZ.out (by decide) hk
      have hcp := fun j (hj : j < ps.length) => vals_elem pcl_len HZ.out (by decide) hj
      subst hA
      have hsw : w.heap.size ≤ w3.heap.size := H3.out.1.size
      have hlt3 := lt_of_heap H3.out.2
      have hb0 := fun (W : World) (hW : Below wr.heap.size wr W) => H3.out.1.trans ((hBr.out.trans (hW.mono hws)).mono hsw)
      have hc' : ∀ j u, (pcl ps[k])[j]? = some u → wr.cell? ⟨c, off + k * 12 + j, none⟩ = some u := fun j u hu => ((hb0 wr (Below.refl _ _)).cell (p := ⟨c, off + k * 12 + j, none⟩) (by simp; omega)).trans (hc j u hu)
      have hst := HAT.out.2 k hk
      have hpk := HPK.out _ (List.getElem_mem hk)
      generalize ps[k] = p at hc' hst hpk
      obtain ⟨⟨hs0, hs5⟩, hq0, hq3⟩ := hpk
      have HC := Lib.hid hc'
      have HSH := Lib.hid hsh
      have HB0 := Lib.hid hb0
      have HFP := Lib.hid (show fitP l p = if p.soak.toNat < l.length then (treatS l p.soak.toNat)[p.place.toNat]?.getD 0 else 0 from rfl)
      rw [HFP.out] at hst
      have HST := Lib.hid hst
      clear hc' hcp hst hsh hb0
      obtain ⟨sk, hsk⟩ : ∃ sk : Nat, p.soak = sk := ⟨p.soak.toNat, by omega⟩
      obtain ⟨pl, hpl⟩ : ∃ pl : Nat, p.place = pl := ⟨p.place.toNat, by omega⟩
      have HSP := Lib.hid (And.intro hsk hpl)
      clear hsk hpl
      have HST2 : Hid (T.take (k + 1) = T.take k ++ [if sk < l.length then (treatS l sk)[pl]?.getD 0 else 0]) := by
        have h := HST.out
        rw [HSP.out.1, HSP.out.2, Int.toNat_natCast, Int.toNat_natCast] at h
        exact h
      by_cases hlt : sk < l.length
      · have hltz : (sk : Int) < l.length := by omega
        have hltd : decide ((sk : Int) < l.length) = true := decide_eq_true hltz
        obtain ⟨d, q, hA2, hdB, hdc⟩ := vals_elem skl_len HV.out (by decide) hlt
        subst hA2
        have htx := HTR.out _ (List.getElem_mem hlt)
        have htS := treatS_at hlt
        have hsd := fun (W : World) (hW : Below wr.heap.size wr W) j u hu => ((HB0.out W hW).cell (p := ⟨d, q + sk * 7 + j, none⟩) (by simp; omega)).trans (hdc j u hu)
        generalize l[sk] = x at htx htS hsd
        have hbt := fun (W : World) (hW : Below wr.heap.size wr W) j u (hu : (skb x)[j]? = some u) => hsd W hW j u (by have h1 := skb_pre x j u hu; rw [List.getElem?_toArray, Nat.zero_add] at h1; exact h1)
        have hhr := fun (W : World) (hW : Below wr.heap.size wr W) => hsd W hW 6 (.int .i64 x.h) rfl
        unfold TrePost at htx
        simp only [← skb_bt] at htx
        have hst3 := HST2.out
        rw [if_pos hlt, htS] at hst3
        have HST3 := Lib.hid hst3
        generalize treatL x.t (rws x.l) x.h = Z at htx HST3
        generalize treatE x.t (rws x.l) x.h = er at htx
        have HTX := Lib.hid htx
        have HSD := Lib.hid (And.intro hbt hhr)
        clear htx htS hsd hbt hhr hst3 hdc hlt
        go_wp2_with (first
          | (show wpList _ _ _ (Oper.mk (some 35) _ _ _ _ _ :: _) _ _
             refine wpList_load_at 56 (.tmp 34) rfl rfl rfl (pcl p) HC.out rowPole ?_)
          | (show wpList _ _ _ (Oper.mk none (Op.store _ (Operand.tmp 11) (Operand.tmp 35)) _ _ _ _ :: _) _ _
             refine wpList_store_blk 56 (.tmp 11) (.tmp 35) (cs := pcl p) (L := [.int .i64 0, .int .i64 0, .int .i64 0, .int .i64 0, .int .i64 0, .int .i64 0, .int .i64 0, .int .i64 0, .int .i64 0, .int .i64 0, .int .i64 0, .int .i64 0]) rfl rfl rfl rfl rfl (alloc_at0 _ _) (by simp [pcl_len]) (fun u hu => pcl_one [p] u (by simpa using hu)) rowPole ?_
             intro w4 hP4 hM4
             rw [splice_whole (by simp [pcl_len])] at hM4
             have hb4 : Below wr.heap.size wr w4 := (grow1 wr _).trans (hP4.below (Nat.le_refl _))
             have g6 : w4.cell? ⟨wr.heap.size, 10, none⟩ = some (.int .i64 p.soak) := cell_of_row w4 wr.heap.size 10 _ _ _ hM4
             have g7 : w4.cell? ⟨wr.heap.size, 11, none⟩ = some (.int .i64 p.place) := cell_of_row w4 wr.heap.size 11 _ _ _ hM4
             rw [HSP.out.1] at g6
             rw [HSP.out.2] at g7
             have H4 := Lib.hid (And.intro hb4 hM4)
             clear hP4 hM4 hb4 f9))
        refine R6.wp_walk (C := ResD w4 [(wr.heap.size, .cells (pcl p).toArray 56 (0, 0))] (TreΦ Z er) 12 54) 72 (by kernel_rfl) (by kernel_rfl) rfl (ResD.start (Below.refl _ _) ⟨H4.out.2, trivial⟩ rfl) ?_
        simp only []
        iterate 5
          (first
           | (refine' R6.WalkR.det (fun _ => rfl) (fun D ρ W hK hC => ?_) ?_
              rotate_left
              · have g6 : W.cell? ⟨wr.heap.size, 10, none⟩ = some (.int .i64 p.soak) := cell_of_row W wr.heap.size 10 _ _ _ hC.keep.1
                rw [HSP.out.1] at g6
                have HC := Lib.hid hC
                clear hC hK
                go_simp
                with_reducible exact ⟨rfl, HC.out.move (by decide)⟩
              simp only [Act.put, List.setIfInBounds_toArray, List.set_cons_succ, List.set_cons_zero])
           | skip)
        refine' R6.WalkR.det (fun _ => rfl) (fun D ρ W hK hC => ?_) ?_
        rotate_left
        · exact gives_load_at 63 (.tmp 46) rfl rfl (skb x) (HSD.out.1 W (H4.out.1.trans (hC.bel.mono H4.out.1.size))) rowBatchA ⟨rfl, hC.move (by decide)⟩
        simp only [Act.put, List.setIfInBounds_toArray, List.set_cons_succ, List.set_cons_zero]
        iterate 6
          (first
           | (refine' R6.WalkR.det (fun _ => rfl) (fun D ρ W hK hC => ?_) ?_
              rotate_left
              · have g6 : W.cell? ⟨wr.heap.size, 10, none⟩ = some (.int .i64 p.soak) := cell_of_row W wr.heap.size 10 _ _ _ hC.keep.1
                rw [HSP.out.1] at g6
                have gh := HSD.out.2 W (H4.out.1.trans (hC.bel.mono H4.out.1.size))
                have HC := Lib.hid hC
                clear hC hK
                go_simp
                with_reducible exact ⟨rfl, HC.out.move (by decide)⟩
              simp only [Act.put, List.setIfInBounds_toArray, List.set_cons_succ, List.set_cons_zero])
           | skip)
        refine' R6.WalkR.nd (fun _ => rfl) rfl (fun D ρ W hK hC => ?_) ?_
        · have HC := Lib.hid hC
          clear hC hK
          go_simp
          go_at_call 50
          refine (HTX.out W (HB0.out W (H4.out.1.trans (HC.out.bel.mono H4.out.1.size)))).mono ?_
          rintro e W1 ⟨A6, c6, rfl, hv6, hB6⟩
          exact ⟨_, rfl, HC.out.made hB6 ⟨A6, c6, rfl, ownU_weak hv6 (Nat.zero_le _)⟩⟩
        simp only [Act.put, List.setIfInBounds_toArray, List.set_cons_succ, List.set_cons_zero]
        refine' R6.WalkR.fn 54 (fun v => v) (fun _ => rfl) (by first | decide +kernel | (dsimp only; decide +kernel)) (fun D ρ W hK hC => ?_) ?_
        · obtain ⟨A6, c6, hv, -⟩ := hC.res (hK.pre 12 (by first | decide +kernel | (dsimp only; decide +kernel)))
          have HC := Lib.hid hC
          clear hC hK
          go_simp
          first
            | exact HC.out.move (by decide)
            | exact ⟨by rw [hv]; rfl, HC.out.move (by decide)⟩
            | exact ⟨rfl, HC.out.move (by decide)⟩
        simp only [Act.put, List.setIfInBounds_toArray, List.set_cons_succ, List.set_cons_zero]
        refine' R6.WalkR.fn 54 (fun v => tupAt v 0) (fun _ => rfl) (by first | decide +kernel | (dsimp only; decide +kernel)) (fun D ρ W hK hC => ?_) ?_
        · obtain ⟨A6, c6, hv, -⟩ := hC.res (hK.pre 12 (by first | decide +kernel | (dsimp only; decide +kernel)))
          have HC := Lib.hid hC
          clear hC hK
          go_simp
          first
            | exact HC.out.move (by decide)
            | exact ⟨by rw [hv]; rfl, HC.out.move (by decide)⟩
            | exact ⟨rfl, HC.out.move (by decide)⟩
        simp only [Act.put, List.setIfInBounds_toArray, List.set_cons_succ, List.set_cons_zero]
        refine' R6.WalkR.fn 54 (fun v => tupAt v 1) (fun _ => rfl) (by first | decide +kernel | (dsimp only; decide +kernel)) (fun D ρ W hK hC => ?_) ?_
        · obtain ⟨A6, c6, hv, -⟩ := hC.res (hK.pre 12 (by first | decide +kernel | (dsimp only; decide +kernel)))
          have HC := Lib.hid hC
          clear hC hK
          go_simp
          first
            | exact HC.out.move (by decide)
            | exact ⟨by rw [hv]; rfl, HC.out.move (by decide)⟩
            | exact ⟨rfl, HC.out.move (by decide)⟩
        simp only [Act.put, List.setIfInBounds_toArray, List.set_cons_succ, List.set_cons_zero]
        refine' R6.WalkR.fn 54 (fun v => tupAt v 0) (fun _ => rfl) (by first | decide +kernel | (dsimp only; decide +kernel)) (fun D ρ W hK hC => ?_) ?_
        · obtain ⟨A6, c6, hv, -⟩ := hC.res (hK.pre 12 (by first | decide +kernel | (dsimp only; decide +kernel)))
          have HC := Lib.hid hC
          clear hC hK
          go_simp
          first
            | exact HC.out.move (by decide)
            | exact ⟨by rw [hv]; rfl, HC.out.move (by decide)⟩
            | exact ⟨rfl, HC.out.move (by decide)⟩
        simp only [Act.put, List.setIfInBounds_toArray, List.set_cons_succ, List.set_cons_zero]
        refine' R6.WalkR.fn 54 (fun v => tupAt v 1) (fun _ => rfl) (by first | decide +kernel | (dsimp only; decide +kernel)) (fun D ρ W hK hC => ?_) ?_
        · obtain ⟨A6, c6, hv, -⟩ := hC.res (hK.pre 12 (by first | decide +kernel | (dsimp only; decide +kernel)))
          have HC := Lib.hid hC
          clear hC hK
          go_simp
          first
            | exact HC.out.move (by decide)
            | exact ⟨by rw [hv]; rfl, HC.out.move (by decide)⟩
            | exact ⟨rfl, HC.out.move (by decide)⟩
        simp only [Act.put, List.setIfInBounds_toArray, List.set_cons_succ, List.set_cons_zero]
        refine R6.WalkR.nil (fun D ρ W9 hD hC => ?_)
        obtain ⟨A6, c6, hv, hi⟩ := hC.res (hD 12 (by omega))
        simp only [hv, tupAt, show ∀ (x y : Value), (#[x, y] : Array Value).getD 0 undef = x from fun _ _ => rfl, show ∀ (x y : Value), (#[x, y] : Array Value).getD 1 undef = y from fun _ _ => rfl]
        have g8 : W9.cell? ⟨wr.heap.size, 11, none⟩ = some (.int .i64 p.place) := cell_of_row W9 wr.heap.size 11 _ _ _ hC.keep.1
        rw [HSP.out.2] at g8
        have H9 := Lib.hid (And.intro (H4.out.1.trans (hC.bel.mono H4.out.1.size)) hi)
        clear hC hD hv hi g6 g7
        by_cases hpl : pl < Z.length
        · have hplz : (pl : Int) < Z.length := by omega
          have hpld : decide ((pl : Int) < Z.length) = true := decide_eq_true hplz
          obtain ⟨zc, hzc⟩ : ∃ zc, zc = Z[pl]?.getD 0 := ⟨_, rfl⟩
          obtain ⟨gb, hA6, hcz⟩ : ∃ gb, A6 = some ⟨gb, 0, none⟩ ∧ W9.cell? ⟨gb, pl, none⟩ = some (.int .u8 zc) := by
            rcases H9.out.2.2 with ⟨e, h0⟩ | ⟨g', cap', cur, hv, _, hh, _, _, hsz, hcs⟩
            · exfalso; omega
            · simp only [Value.slice.injEq] at hv
              refine ⟨g', hv.1, ?_⟩
              rw [cell_of_row W9 g' pl _ _ _ hh, ← Array.getElem?_toList]
              have e : (cur.toList.take (Z.length * 1))[pl]? = (u8s Z)[pl]? := by rw [hcs]
              rw [List.getElem?_take_of_lt (by omega)] at e
              rw [e, hzc]
              simp [u8s, hpl]
          subst hA6
          have HZC := Lib.hid hzc
          have HLT := Lib.hid hpl
          clear hpl hzc
          go_wp2_with (first
            | (at_builtin
               obtain ⟨wx, hwx⟩ : ∃ wx, W9.alloc (.cells #[.int .u8 zc] 5) = wx := ⟨_, rfl⟩
               have hbx : Below W9.heap.size W9 wx := by rw [← hwx]; exact grow1 _ _
               have hvn : Vals wx (W9.heap.size + 1) (some ⟨W9.heap.size, 0, none⟩) (u8s [zc]) := by rw [← hwx]; exact vals_new (alloc_at0 _ _) (by omega)
               have h5b : Below wr.heap.size wr W9 := H9.out.1
               have h5s := h5b.size
               have hox := own_grows hO.out (h5b.trans (hbx.mono h5s))
               rw [hwx]
               refine wpl_app (by rfl) (.tmp 67) (.tmp 69) 34 (by rfl) w3.heap.size 5 i0 _ 1 1 Tryz.underlying34 HI.out.1 HI.out.2.1 HI.out.2.2.1 HI.out.2.2.2 rfl (by omega) v (T.take k).length (u8s (T.take k)) (by rfl) hox
                 (W9.heap.size + 1) (some ⟨W9.heap.size, 0, none⟩) 1 1 (u8s [zc]) (by rfl) hvn rfl (by simp [u8s, Value.oneCell']) (by rw [List.length_take]; simp only [maxLen]; omega) (by rw [List.length_take]; omega) (by have := hbx.size; omega) ?_
               intro v9 w10 hown hgrow _
               have hB10 : Below w3.heap.size w3 w10 := (hBr.out.trans ((h5b.trans (hbx.mono h5s)).mono hws)).grown hgrow (by have := hbx.size; omega) (fun k' e => own_blockL1 hox k' e)
               have H10 := Lib.hid (And.intro hown hB10)
               clear hown hgrow hB10 hbx hvn hox hwx h5s h5b)
            | fail)
          go_roundg gg
          case measure => omega
          case rel =>
            refine ⟨k + 1, v9, by omega, rfl, by go_num, ?_, H10.out.2⟩
            show OwnU _ _ _ _
            rw [HST3.out, ← HZC.out]
            unfold OwnU
            rw [List.length_append, show u8s (T.take k ++ [zc]) = u8s (T.take k) ++ u8s [zc] by simp [u8s]]
            exact H10.out.1
        · have hplz : ¬ (pl : Int) < Z.length := by omega
          have hpld : decide ((pl : Int) < Z.length) = false := decide_eq_false hplz
          have hzn : Z[pl]?.getD 0 = 0 := by rw [List.getElem?_eq_none (by omega)]; rfl
          have HZN := Lib.hid hzn
          clear hpl hzn
          go_wp2_with (first
            | (at_builtin
               obtain ⟨wx, hwx⟩ : ∃ wx, W9.alloc (.cells #[.int .u8 0] 5) = wx := ⟨_, rfl⟩
               have hbx : Below W9.heap.size W9 wx := by rw [← hwx]; exact grow1 _ _
               have hvn : Vals wx (W9.heap.size + 1) (some ⟨W9.heap.size, 0, none⟩) (u8s [0]) := by rw [← hwx]; exact vals_new (alloc_at0 _ _) (by omega)
               have h5b : Below wr.heap.size wr W9 := H9.out.1
               have h5s := h5b.size
               have hox := own_grows hO.out (h5b.trans (hbx.mono h5s))
               rw [hwx]
               refine wpl_app (by rfl) (.tmp 67) (.tmp 69) 34 (by rfl) w3.heap.size 5 i0 _ 1 1 Tryz.underlying34 HI.out.1 HI.out.2.1 HI.out.2.2.1 HI.out.2.2.2 rfl (by omega) v (T.take k).length (u8s (T.take k)) (by rfl) hox
                 (W9.heap.size + 1) (some ⟨W9.heap.size, 0, none⟩) 1 1 (u8s [0]) (by rfl) hvn rfl (by simp [u8s, Value.oneCell']) (by rw [List.length_take]; simp only [maxLen]; omega) (by rw [List.length_take]; omega) (by have := hbx.size; omega) ?_
               intro v9 w10 hown hgrow _
               have hB10 : Below w3.heap.size w3 w10 := (hBr.out.trans ((h5b.trans (hbx.mono h5s)).mono hws)).grown hgrow (by have := hbx.size; omega) (fun k' e => own_blockL1 hox k' e)
               have H10 := Lib.hid (And.intro hown hB10)
               clear hown hgrow hB10 hbx hvn hox hwx h5s h5b)
            | fail)
          go_roundg gg
          case measure => omega
          case rel =>
            refine ⟨k + 1, v9, by omega, rfl, by go_num, ?_, H10.out.2⟩
            show OwnU _ _ _ _
            rw [HST3.out, HZN.out]
            unfold OwnU
            rw [List.length_append, show u8s (T.take k ++ [0]) = u8s (T.take k) ++ u8s [0] by simp [u8s]]
            exact H10.out.1
      · have hltz : ¬ (sk : Int) < l.length := by omega
        have hltd : decide ((sk : Int) < l.length) = false := decide_eq_false hltz
        have HLT := Lib.hid hlt
        clear hlt
        go_wp2_with (first
          | (show wpList _ _ _ (Oper.mk (some 35) _ _ _ _ _ :: _) _ _
             refine wpList_load_at 56 (.tmp 34) rfl rfl rfl (pcl p) HC.out rowPole ?_)
          | (show wpList _ _ _ (Oper.mk none (Op.store _ (Operand.tmp 11) (Operand.tmp 35)) _ _ _ _ :: _) _ _
             refine wpList_store_blk 56 (.tmp 11) (.tmp 35) (cs := pcl p) (L := [.int .i64 0, .int .i64 0, .int .i64 0, .int .i64 0, .int .i64 0, .int .i64 0, .int .i64 0, .int .i64 0, .int .i64 0, .int .i64 0, .int .i64 0, .int .i64 0]) rfl rfl rfl rfl rfl (alloc_at0 _ _) (by simp [pcl_len]) (fun u hu => pcl_one [p] u (by simpa using hu)) rowPole ?_
             intro w4 hP4 hM4
             rw [splice_whole (by simp [pcl_len])] at hM4
             have hb4 : Below wr.heap.size wr w4 := (grow1 wr _).trans (hP4.below (Nat.le_refl _))
             have g6 : w4.cell? ⟨wr.heap.size, 10, none⟩ = some (.int .i64 p.soak) := cell_of_row w4 wr.heap.size 10 _ _ _ hM4
             have g7 : w4.cell? ⟨wr.heap.size, 11, none⟩ = some (.int .i64 p.place) := cell_of_row w4 wr.heap.size 11 _ _ _ hM4
             rw [HSP.out.1] at g6
             rw [HSP.out.2] at g7
             have H4 := Lib.hid (And.intro hb4 hM4)
             clear hP4 hM4 hb4 f9)
          | (at_builtin
             obtain ⟨wx, hwx⟩ : ∃ wx, w4.alloc (.cells #[.int .u8 0] 5) = wx := ⟨_, rfl⟩
             have hbx : Below w4.heap.size w4 wx := by rw [← hwx]; exact grow1 _ _
             have hvn : Vals wx (w4.heap.size + 1) (some ⟨w4.heap.size, 0, none⟩) (u8s [0]) := by rw [← hwx]; exact vals_new (alloc_at0 _ _) (by omega)
             have h5b : Below wr.heap.size wr w4 := H4.out.1
             have h5s := h5b.size
             have hox := own_grows hO.out (h5b.trans (hbx.mono h5s))
             rw [hwx]
             refine wpl_app (by rfl) (.tmp 67) (.tmp 69) 34 (by rfl) w3.heap.size 5 i0 _ 1 1 Tryz.underlying34 HI.out.1 HI.out.2.1 HI.out.2.2.1 HI.out.2.2.2 rfl (by omega) v (T.take k).length (u8s (T.take k)) (by rfl) hox
               (w4.heap.size + 1) (some ⟨w4.heap.size, 0, none⟩) 1 1 (u8s [0]) (by rfl) hvn rfl (by simp [u8s, Value.oneCell']) (by rw [List.length_take]; simp only [maxLen]; omega) (by rw [List.length_take]; omega) (by have := hbx.size; omega) ?_
             intro v9 w9 hown hgrow _
             have hB9 : Below w3.heap.size w3 w9 := (hBr.out.trans ((h5b.trans (hbx.mono h5s)).mono hws)).grown hgrow (by have := hbx.size; omega) (fun k' e => own_blockL1 hox k' e)
             have H9 := Lib.hid (And.intro hown hB9)
             clear hown hgrow hB9 hbx hvn hox hwx h5s h5b))
        go_roundg gg
        case measure => omega
        case rel =>
          refine ⟨k + 1, v9, by omega, rfl, by go_num, ?_, H9.out.2⟩
          show OwnU _ _ _ _
          rw [HST2.out, if_neg HLT.out]
          unfold OwnU
          rw [List.length_append, show u8s (T.take k ++ [0]) = u8s (T.take k) ++ u8s [0] by simp [u8s]]
          exact H9.out.1
end Go.Proofs.YtpnnlmaipcjkmaaGreat
