/-
  The law ClumpWider: the rains made wider.
-/
import Derived.Test.YtanjolmelbipoaaWidC
import Derived.Test.YtanjolmelbipoaaZH
namespace Go.Proofs.Ytanjolmelbipoaa
open Go.RowKit Go.Shelf

attribute [local go_sem] gives

/-- What the walk of ClumpWider knows of the grove, the rains and the numbers. -/
structure WxC (w : World) (g : Gr) (ps : List (Int × Int)) (ys : List Int) (A1 : Option Addr) (c1 : Nat) (A2 : Option Addr) (c2 : Nat) (P1 : Option Addr) (k1 : Nat) (P3 : Option Addr) (k3 : Nat) : Prop where
  gr : GrAt w w.heap.size g A1 c1 A2 c2
  ra : Vals w w.heap.size P1 (pairs ps)
  by' : ByAt w w.heap.size P3 ys

/-- Where the walk is in a round over the rains. -/
structure WW (w2 : World) (S : Nat) (x1 x2 : Int) (W : World) : Prop where
  hS : W.heap[S]? = some (.cells #[.int .i64 x1, .int .i64 x2] 23 (0, 0))
  bel : Below w2.heap.size w2 W
  lS : w2.heap.size ≤ S
theorem WW.next {w2 : World} {S : Nat} {x1 x2 : Int} {W W' : World} (h : WW w2 S x1 x2 W) (hg : Grows W W') : WW w2 S x1 x2 W' :=
  ⟨(hg.block _ (lt_of_heap h.hS)).trans h.hS, h.bel.trans (hg.mono h.bel.size), h.lS⟩
theorem WW.app {w2 : World} {S : Nat} {x1 x2 : Int} {W W' : World} {ob : Option Nat} (h : WW w2 S x1 x2 W) (hob : ∀ k, ob = some k → w2.heap.size ≤ k ∧ k < S) (hg : W.grownBy W' ob) : WW w2 S x1 x2 W' :=
  ⟨(hg.block _ (lt_of_heap h.hS) (fun e => by have := hob _ e.symm; omega)).trans h.hS, h.bel.grown hg h.bel.size (fun j e => (hob j e).1), h.lS⟩

/-- The wide rains so far. -/
structure WO (w2 : World) (ys : List Int) (ps : List (Int × Int)) (k : Nat) (A : Option Addr) (c : Nat) (out : List (Int × Int)) (W : World) : Prop where
  own : W.ownsRow w2.heap.size 23 2 (.slice A out.length c) out.length (pairs out)
  split : wideL (fun i => atL ys i) 0 ps = out ++ wideL (fun i => atL ys i) k (ps.drop k)
  len : out.length = k
  bel : Below w2.heap.size w2 W

set_option maxRecDepth 100000 in
set_option maxHeartbeats 8000000 in
theorem clumpWider_main (g : Gr) (ps : List (Int × Int)) (ys : List Int) (A1 : Option Addr) (c1 : Nat) (A2 : Option Addr) (c2 : Nat) (P1 : Option Addr) (k1 : Nat) (P3 : Option Addr) (k3 : Nat) (w : World)
    (hC : WxC w g ps ys A1 c1 A2 c2 P1 k1 P3 k3) (hrd : readyB g ps = true) :
    Calls Try.prog 10 #[grv g A1 c1 A2 c2, .slice P1 ps.length k1, .slice P3 ys.length k3] w fun e w' => e = .returned (.bool true) ∧ Below w.heap.size w w' := by
  have hrd2 := hrd
  simp only [readyB, Bool.and_eq_true, Bool.not_eq_true'] at hrd2
  obtain ⟨⟨hgr, hok⟩, hr⟩ := hrd2
  have h4 := (rainsOk_len hr).2
  have HC := Lib.hid hC
  have HR := Lib.hid (And.intro hrd (And.intro hgr (And.intro hok hr)))
  obtain ⟨w0, hw0⟩ : ∃ w0, w.alloc (.cells (gcs g A1 c1 A2 c2) 29) = w0 := ⟨_, rfl⟩
  have hb0 : Below w.heap.size w w0 := by rw [← hw0]; exact (Below.refl _ _).alloc (Nat.le_refl _) _
  have hs0 : w0.heap.size = w.heap.size + 1 := by rw [← hw0]; simp
  have hm0 : w0.heap[w.heap.size]? = some (.cells (gcs g A1 c1 A2 c2) 29 (0, 0)) := by rw [← hw0]; exact alloc_at0 w _
  have B0 := Lib.hid (And.intro hb0 (And.intro hm0 hs0))
  clear hC hrd hgr hok hr hb0 hm0 hs0
  simp only [gcs] at hw0
  unfold grv
  go_enter Try.func10, Try.ntmps10
  go_wp2_with (first
    | (go_at_call 28; refine (alive_any w0).mono ?_; rintro e w1 ⟨rfl, hB1⟩
       have hc1 := fun i => cell_of_row w1 w.heap.size i _ _ _ ((hB1.block _ (by have := B0.out.2.2; omega)).trans B0.out.2.1)
       have hs1 : w.heap.size < w1.heap.size := by have := B0.out.2.2; have := hB1.size; omega
       have H1 := Lib.hid (And.intro (B0.out.1.trans (hB1.mono (by have := B0.out.2.2; omega))) ((hB1.block _ (by have := B0.out.2.2; omega)).trans B0.out.2.1)); clear hB1)
    | (go_at_call 29; refine (ready_any g A1 c1 A2 c2 P1 k1 ps w.heap.size w1 H1.out.1.size (HC.out.gr.below H1.out.1) (HC.out.ra.below H1.out.1) (by omega)).mono ?_; rintro e w2 ⟨rfl, hB2⟩; rw [HR.out.1]
       have hs2 : w.heap.size < w2.heap.size := by have := hB2.size; omega
       have H2 := Lib.hid (And.intro (H1.out.1.trans (hB2.mono H1.out.1.size)) ((hB2.block _ hs1).trans H1.out.2)); clear hB2 hc1))
  go_loopg [35, 8] ps.length (fun gg s35 s8 wx => ∃ (k : Nat) (A : Option Addr) (c : Nat) (out : List (Int × Int)), k + gg = ps.length ∧ s35 = .int .i64 k ∧ s8 = .slice A out.length c ∧ Hid (WO w2 ys ps k A c out wx))
  case atStart => exact ⟨0, none, 0, [], by omega, rfl, rfl, ⟨⟨rfl, .inl ⟨rfl, rfl⟩⟩, rfl, rfl, Below.refl _ _⟩⟩
  case round =>
    obtain ⟨k, A, c, out, hkg, rfl, rfl, hO⟩ := hrel
    cases gk with
    | zero =>
      obtain rfl : k = ps.length := by omega
      have hsp := hO.out.split
      rw [List.drop_length] at hsp
      simp only [wideL, List.append_nil] at hsp
      have hbel := H2.out.1.trans (hO.out.bel.mono H2.out.1.size)
      have hG : wr.heap[w.heap.size]? = some (.cells (gcs g A1 c1 A2 c2) 29 (0, 0)) := (hO.out.bel.block _ hs2).trans H2.out.2
      have hlw : w.heap.size < wr.heap.size := Nat.lt_of_lt_of_le hs2 hO.out.bel.size
      have HB := Lib.hid (And.intro hbel (And.intro hG (And.intro hsp hlw)))
      clear hsp hbel hG hlw
      go_wp2
      refine R4.wp_walk (C := TC w wr g A1 c1 A2 c2) (S := SS) 174 (by kernel_rfl) (by kernel_rfl) rfl SS.refl ⟨HB.out.2.1, (Below.refl _ _).drew, HB.out.2.2.2, .inl rfl, .inl rfl, fun k hk => by
        have h0 : (undef : Value) = .pointer (some ⟨k, 0, none⟩) := hk
        cases h0⟩ ?_
      simp only []
      refine' R4.WalkR.det (fun _ => rfl) rfl (fun ρ W hW hH hU => ?_) ?_
      rotate_left
      · clear hH hU
        have hcg := fun i => cell_of_row W w.heap.size i _ _ _ hW.hG
        have HW := Lib.hid hW
        clear hW
        go_simp
        exact ⟨rfl, SS.refl _ _ _, HW.out.upd (by simp) (by simp)⟩
      simp only [Act.put, List.setIfInBounds_toArray, List.set_cons_succ, List.set_cons_zero]
      refine' R4.WalkR.nd (TwF wr.heap.size g) (fun _ => rfl) rfl rfl (fun o' σ W W' _ _ hv hC hs => hv.keep hC hs) (fun ρ W hW hH hU => ?_) ?_
      · clear hH hU
        have HW := Lib.hid hW
        clear hW
        go_simp
        go_at_call 13
        have hbw := HB.out.1.trans (HW.out.bel.mono HB.out.1.size)
        refine (refTwin_any g A1 c1 A2 c2 w.heap.size W hbw.size (HC.out.gr.below hbw) HR.out.2.1).mono ?_
        rintro e W1 ⟨g1, x1, g2, x2, rfl, hg1, hg2, -, ho1, ho2, hB1⟩
        exact ⟨_, rfl, ⟨W.heap.size, g1, x1, g2, x2, rfl, HW.out.bel.size, hg1, hg2, ho1, ho2⟩, .of hB1, (HW.out.next hB1).upd (by simp) (by simp)⟩
      simp only [Act.put, List.setIfInBounds_toArray, List.set_cons_succ, List.set_cons_zero]
      refine' R4.WalkR.det (fun _ => rfl) rfl (fun ρ W hW hH hU => ?_) ?_
      rotate_left
      · clear hH hU
        have hcg := fun i => cell_of_row W w.heap.size i _ _ _ hW.hG
        have HW := Lib.hid hW
        clear hW
        go_simp
        exact ⟨rfl, SS.refl _ _ _, HW.out.upd (by simp) (by simp)⟩
      simp only [Act.put, List.setIfInBounds_toArray, List.set_cons_succ, List.set_cons_zero]
      refine' R4.WalkR.nd (fun v _ => ∃ b : Nat, v = .pointer (some ⟨b, 0, none⟩)) (fun _ => rfl) rfl rfl (fun o' σ W W' _ _ hv _ _ => hv) (fun ρ W hW hH hU => ?_) ?_
      · clear hH hU
        have HW := Lib.hid hW
        clear hW
        go_simp
        exact ⟨.of ((Below.refl _ _).alloc (Nat.le_refl _) _), HW.out.new11 (L := [.int .i64 0, .int .i64 0, .int .i64 0, .int .i64 0, .int .i64 0, .int .i64 0, .int .i64 0, .int .i64 0, .slice none 0 0, .slice none 0 0]) rfl⟩
      simp only [Act.put, List.setIfInBounds_toArray, List.set_cons_succ, List.set_cons_zero]
      refine' R4.WalkR.nd (fun v _ => ∃ b : Nat, v = .pointer (some ⟨b, 0, none⟩)) (fun _ => rfl) rfl rfl (fun o' σ W W' _ _ hv _ _ => hv) (fun ρ W hW hH hU => ?_) ?_
      · clear hH hU
        have HW := Lib.hid hW
        clear hW
        go_simp
        exact ⟨.of ((Below.refl _ _).alloc (Nat.le_refl _) _), HW.out.new12 (L := [.int .i64 0, .int .i64 0, .int .i64 0, .int .i64 0, .int .i64 0, .int .i64 0, .int .i64 0, .int .i64 0, .slice none 0 0, .slice none 0 0]) rfl⟩
      simp only [Act.put, List.setIfInBounds_toArray, List.set_cons_succ, List.set_cons_zero]
      refine' R4.WalkR.fx 11 (TwB wr.heap.size g) (fun _ => rfl) rfl (by first | decide +kernel | (dsimp only; decide +kernel)) (by first | decide +kernel | (dsimp only; decide +kernel)) rfl (isSt 11) rfl (by decide +kernel) (fun o' σ W W' hQ hv hC hs => hv.keep hC hs hQ) (fun ρ W hW hH hU => ?_) ?_
      · obtain ⟨b, hb⟩ := hH _ (.tail _ (.head _)) (by first | decide +kernel | (dsimp only; decide +kernel))
        obtain ⟨n1, g1, x1, g2, x2, ht, hn1, h1, h2, o1, o2⟩ := hH _ (.tail _ (.tail _ (.head _))) (by first | decide +kernel | (dsimp only; decide +kernel))
        have hb' : ρ 11 = .pointer (some ⟨b, 0, none⟩) := hb
        obtain ⟨L, hn, hm, hl⟩ := hW.a.get hb'
        clear hH hU
        refine gives_store_blk 29 (.tmp 11) (.tmp 70) rfl hb (cs := (gcs g (some ⟨g1, 0, none⟩) x1 (some ⟨g2, 0, none⟩) x2).toList) ht hm (by rw [hl]; simp) (gcs_one _ _ _ _) rowApiGrove (fun W' hP hM => ?_)
        rw [splice_whole (by rw [hl]; simp)] at hM
        have hs := SS.put (o := ⟨none, .store 29 (.tmp 11) (.tmp 70), 0, "", #[], none⟩) hP rfl (.inl rfl) hb'
        have hC := hW.put hP hn hM (by simp)
        exact ⟨⟨b, n1, g1, x1, g2, x2, hb, hn, hM, TwF.keep ⟨n1, g1, x1, g2, x2, rfl, hn1, h1, h2, o1, o2⟩ hW hs, hn1⟩, SS.put hP rfl (.inl rfl) hb', hC⟩
      refine' R4.WalkR.fx 12 (CpB wr.heap.size g A1 c1 A2 c2) (fun _ => rfl) rfl (by first | decide +kernel | (dsimp only; decide +kernel)) (by first | decide +kernel | (dsimp only; decide +kernel)) rfl (isSt 12) rfl (by decide +kernel) (fun o' σ W W' hQ hv hC hs => hv.keep hC hs hQ) (fun ρ W hW hH hU => ?_) ?_
      · obtain ⟨b, hb⟩ := hH _ (.head _) (by first | decide +kernel | (dsimp only; decide +kernel))
        have hb' : ρ 12 = .pointer (some ⟨b, 0, none⟩) := hb
        obtain ⟨L, hn, hm, hl⟩ := hW.b.get hb'
        clear hH hU
        refine gives_store_blk 29 (.tmp 12) (.tmp 71) rfl hb (cs := (gcs g A1 c1 A2 c2).toList) rfl hm (by rw [hl]; simp) (gcs_one _ _ _ _) rowApiGrove (fun W' hP hM => ?_)
        rw [splice_whole (by rw [hl]; simp)] at hM
        exact ⟨⟨b, hb, hn, hM⟩, SS.put hP rfl (.inr rfl) hb', hW.put hP hn hM (by simp)⟩
      refine R4.WalkR.nil (fun ρ W hW hH hF => ?_)
      obtain ⟨bc, hbc, hnc, hmc⟩ := hF _ (.head _)
      obtain ⟨bt, n1, g1, x1, g2, x2, hbt, hnt, hmt, htw, hn1⟩ := hF _ (.tail _ (.head _))
      have h12 : ρ 12 = .pointer (some ⟨bc, 0, none⟩) := hbc
      have h11 : ρ 11 = .pointer (some ⟨bt, 0, none⟩) := hbt
      have hne : bt ≠ bc := fun e => hW.ne bt h11 (by rw [h12, e])
      have hbw := HB.out.1.trans (hW.bel.mono HB.out.1.size)
      have hlw := HB.out.2.2.2
      have hsW := hW.bel.size
      have hkp : 0 ≤ g.hab.keep ∧ g.hab.keep ≤ 200 := by
        have := HR.out.2.2.1
        simp only [okGrove, okPre, Bool.and_eq_true, okHab_iff] at this
        omega
      have hu := atL_bnd HC.out.by' (i := 5)
      have hat5 := fun (W' : World) (hW' : Below w.heap.size w W') => at_any P3 k3 ys 5 (by omega) w.heap.size W' (HC.out.by'.below hW').va HC.out.by'.ln
      generalize atL ys 5 = u5 at hu hat5
      obtain ⟨u0, u1⟩ := hu
      obtain ⟨kp0, kp1⟩ := hkp
      have hm0 : 0 ≤ u5.tmod (200 - g.hab.keep + 1) ∧ u5.tmod (200 - g.hab.keep + 1) ≤ 200 - g.hab.keep := by
        rw [Int.tmod_eq_emod_of_nonneg u0]
        have := Int.emod_nonneg u5 (b := 200 - g.hab.keep + 1) (by omega)
        have := Int.emod_lt_of_pos u5 (b := 200 - g.hab.keep + 1) (by omega)
        omega
      have hz1 : ¬ 200 - g.hab.keep + 1 = 0 := by omega
      have hx1 : IntKind.i64.wrap u5 = u5 := IntWalk.i64_in _ (by omega)
      have hx2 : IntKind.i64.wrap (200 - g.hab.keep) = 200 - g.hab.keep := IntWalk.i64_in _ (by omega)
      have hx3 : IntKind.i64.wrap (200 - g.hab.keep + 1) = 200 - g.hab.keep + 1 := IntWalk.i64_in _ (by omega)
      generalize hmu : u5.tmod (200 - g.hab.keep + 1) = m at hm0
      have hx4 : IntKind.i64.wrap m = m := IntWalk.i64_in _ (by omega)
      have hx5 : IntKind.i64.wrap (g.hab.keep + m) = g.hab.keep + m := IntWalk.i64_in _ (by omega)
      have HK := Lib.hid (And.intro hm0 (And.intro kp0 kp1))
      have H12 := Lib.hid (And.intro hbw (And.intro hW.hG (And.intro hmc (And.intro hmt htw))))
      have HX12 := Lib.hid hW.bel
      have HA5 := Lib.hid hat5
      rw [h11, h12]
      generalize ρ 70 = v70
      clear hbt hbc h11 h12 hH hF hW hmc hmt htw hbw hat5 hm0 kp0 kp1
      go_wp2
      obtain ⟨Y, hY⟩ : ∃ Y : List Value, Y = (gcs g A1 c1 A2 c2).toList.set 6 (.int .i64 (g.hab.keep + m)) := ⟨_, rfl⟩
      have HY := Lib.hid hY
      clear hY
      refine R3.wp_walkT (C := CG W bc (.cells (gcs g A1 c1 A2 c2) 29 (0, 0)) (.cells Y.toArray 29 (0, 0)))
        (S := SG bc (.cells Y.toArray 29 (0, 0))) 174 none (fun W' => W'.heap[bc]? = some (.cells (gcs g A1 c1 A2 c2) 29 (0, 0))) (by kernel_rfl) (by kernel_rfl) rfl SG.refl
        (CG.start H12.out.2.2.1).drew (fun o' W W' hx hp hs _ => ((hs.grows hx).block _ (lt_of_heap hp)).trans hp) H12.out.2.2.1 ?_
      simp only []
      repeat
        (refine' R3.WalkR.det (fun _ => rfl) rfl (fun ρ W1 hW hH hU => ?_) ?_
         rotate_left
         · have hX := hU.2 ⟨_, rfl, by first | decide +kernel | (dsimp only; decide +kernel)⟩
           clear hH hU
           have hcc := fun i => cell_of_row W1 bc i _ _ _ hX
           have hcg := fun i => cell_of_row W1 w.heap.size i _ _ _ ((hW.gb.block w.heap.size (by omega) (by simp; omega)).trans H12.out.2.1)
           have HBW := Lib.hid (H12.out.1.grown hW.gb (by omega) (fun k e => by cases e; omega))
           have HW := Lib.hid hW
           clear hW hX
           go_simp
           first
             | with_reducible exact ⟨rfl, SG.refl _ _, HW.out⟩
             | (go_at_call 33; refine (HA5.out W1 HBW.out).mono ?_; rintro e W2 ⟨rfl, rfl⟩; exact ⟨_, rfl, rfl, SG.refl _ _, HW.out⟩)
         simp only [Act.put, List.setIfInBounds_toArray, List.set_cons_succ, List.set_cons_zero])
      refine' R3.WalkR.fx 84 (fun _ W' => W'.heap[bc]? = some (.cells Y.toArray 29 (0, 0))) (fun _ => rfl) rfl (by first | decide +kernel | (dsimp only; decide +kernel)) (by first | decide +kernel | (dsimp only; decide +kernel)) rfl (fun _ _ W W' hv hs _ => hs.keep hv) (fun ρ W1 hW hH hU => ?_) ?_
      · clear hH hU
        rcases hW.hg with hx | hx
        · refine gives_store_one 3 (.tmp 86) (.tmp 84) rfl rfl rfl (L := (gcs g A1 c1 A2 c2).toList) hx (by simp) info3s (fun W' hP hM => ?_)
          rw [← HY.out] at hM
          exact ⟨hM, hW.put hP hM rfl⟩
        · refine gives_store_one 3 (.tmp 86) (.tmp 84) rfl rfl rfl hx (by rw [HY.out]; simp) info3s (fun W' hP hM => ?_)
          have e : Y.set 6 (.int .i64 (g.hab.keep + m)) = Y := by rw [HY.out, List.set_set]
          have hM' : W'.heap[bc]? = some (.cells Y.toArray 29 (0, 0)) := by rw [← e]; exact hM
          exact ⟨hM', hW.put hP hM' rfl⟩
      refine R3.WalkR.nil (fun ρ W1 hW hH hF => ?_)
      have hYc := hF _ (.head _)
      simp only at hYc
      have hG1 : W1.heap[w.heap.size]? = some (.cells (gcs g A1 c1 A2 c2) 29 (0, 0)) := (hW.gb.block w.heap.size (by omega) (by simp; omega)).trans H12.out.2.1
      have hT1 : W1.heap[bt]? = some (.cells (gcs g (some ⟨g1, 0, none⟩) x1 (some ⟨g2, 0, none⟩) x2) 29 (0, 0)) := (hW.gb.block bt (lt_of_heap H12.out.2.2.2.1) (by simpa using hne)).trans H12.out.2.2.2.1
      have hC1 : W1.heap[bc]? = some (.cells (gcs (strictG g (g.hab.keep + m)) A1 c1 A2 c2) 29 (0, 0)) := by rw [hYc, HY.out]; rfl
      have hBr : Below wr.heap.size wr W1 := HX12.out.grown hW.gb HX12.out.size (fun k e => by cases e; exact hnc)
      obtain ⟨m1, a1, y1, a2, y2, he, hm1, hma1, hma2, o1, o2⟩ := H12.out.2.2.2.2
      simp only [grv, Value.agg.injEq, Array.mk.injEq, List.cons.injEq, Value.slice.injEq, Option.some.injEq, Addr.mk.injEq, and_true, true_and] at he
      obtain ⟨⟨rfl, rfl⟩, rfl, rfl⟩ := he
      have hsame : ∀ (ty : TypeId), ty ≠ 29 → ∀ (k : Nat) (cur : Array Value) (fr : Nat × Nat), W.heap[k]? = some (Obj.cells cur ty fr) → W1.heap[k]? = W.heap[k]? := fun ty hty k cur fr hk => hW.gb.block k (lt_of_heap hk) (fun e => by
        simp only [Option.some.injEq] at e
        subst e
        rw [H12.out.2.2.1] at hk
        simp only [Option.some.injEq, Obj.cells.injEq] at hk
        exact hty hk.2.1.symm)
      have o1' := own_same o1 (hsame 3 (by decide))
      have o2' := own_same o2 (hsame 76 (by decide))
      clear hH hF hYc hW hsame o1 o2
      obtain ⟨d, r, R⟩ := okGrove_runs HR.out.2.2.1
      have hst0 : 0 < g.start.length := by have := R.pre.ls; omega
      have hst7 : g.start.length ≤ 7 := by have := R.pre.ls; have := R.pre.d6; omega
      obtain ⟨L, hL, hLl, hLt⟩ : ∃ L : List Value, W1.heap[g1]? = some (.cells L.toArray 3 (0, 0)) ∧ g.start.length ≤ L.length ∧ L.take g.start.length = ints g.start := by
        rcases o1'.2 with ⟨hv, _⟩ | ⟨b, cap, cur, hv, hb, hh, hcp, -, hsz, htk⟩
        · cases hv
        · simp only [Value.slice.injEq, Option.some.injEq, Addr.mk.injEq, and_true, true_and] at hv
          obtain ⟨rfl, rfl⟩ := hv
          exact ⟨cur.toList, by simpa using hh, by simp; omega, by simpa using htk⟩
      have hu6 := atL_bnd HC.out.by' (i := 6)
      have hat6 := fun (W' : World) (hW' : Below w.heap.size w W') => at_any P3 k3 ys 6 (by omega) w.heap.size W' (HC.out.by'.below hW').va HC.out.by'.ln
      generalize atL ys 6 = u6 at hu6 hat6
      obtain ⟨v0, v1⟩ := hu6
      obtain ⟨kk, hkk⟩ : ∃ kk : Nat, u6.tmod (g.start.length : Int) = (kk : Int) := by
        rw [Int.tmod_eq_emod_of_nonneg v0]
        exact ⟨_, (Int.toNat_of_nonneg (Int.emod_nonneg u6 (by omega))).symm⟩
      have hkl : kk < g.start.length := by
        rw [Int.tmod_eq_emod_of_nonneg v0] at hkk
        have := Int.emod_lt_of_pos u6 (b := (g.start.length : Int)) (by omega)
        omega
      have hklz : (kk : Int) < g.start.length := by omega
      have hz14 : ¬ (g.start.length : Int) = 0 := by omega
      have hz15 : ¬ g.start.length = 0 := by omega
      have hz16 : ¬ g.start = [] := fun e => by rw [e] at hst0; simp at hst0
      have hy1 : IntKind.i64.wrap u6 = u6 := IntWalk.i64_in _ (by omega)
      have hy2 : IntKind.i64.wrap (kk : Int) = kk := IntWalk.i64_in _ (by omega)
      have hxb := R.b9 kk hkl
      have hLk : L[kk]? = some (.int .i64 (g.start[kk]?.getD 0)) := by
        have e := congrArg (fun l => l[kk]?) hLt
        simp only [List.getElem?_take, hkl, if_true] at e
        rw [e, ints_atL _ kk hkl]
      generalize hxe : g.start[kk]?.getD 0 = x at hxb hLk
      have hy3 : IntKind.i64.wrap (x + 1) = x + 1 := IntWalk.i64_in _ (by omega)
      have hg1w : wr.heap.size ≤ g1 := by omega
      have hg1t : g1 ≠ bt := fun e => by
        subst e
        rw [hT1] at hL
        simp only [Option.some.injEq, Obj.cells.injEq] at hL
        exact absurd hL.2.1 (by decide)
      have hg1c : g1 ≠ bc := fun e => by
        subst e
        rw [hC1] at hL
        simp only [Option.some.injEq, Obj.cells.injEq] at hL
        exact absurd hL.2.1 (by decide)
      have HA6 := Lib.hid hat6
      have HL := Lib.hid (And.intro hL (And.intro hLl (And.intro hLt (And.intro hxe hLk))))
      have H13 := Lib.hid (And.intro hBr (And.intro hG1 (And.intro hT1 hC1)))
      have HO2 := Lib.hid (And.intro o1' o2')
      clear hat6 hL hLl hLt hxe hLk hBr hG1 hT1 hC1 o1' o2' hmu hx1 hx2 hx3 hx4 hx5 hz1
      go_wp2
      refine R3.wp_walkT (C := CG W1 g1 (.cells L.toArray 3 (0, 0)) (.cells (L.set kk (.int .i64 (x + 1))).toArray 3 (0, 0)))
        (S := SG g1 (.cells (L.set kk (.int .i64 (x + 1))).toArray 3 (0, 0))) 174 none (fun W' => W'.heap[g1]? = some (.cells L.toArray 3 (0, 0))) (by kernel_rfl) (by kernel_rfl) rfl SG.refl
        (CG.start HL.out.1).drew (fun o' W W' hx hp hs _ => ((hs.grows hx).block _ (lt_of_heap hp)).trans hp) HL.out.1 ?_
      simp only []
      repeat
        (refine' R3.WalkR.det (fun _ => rfl) rfl (fun ρ W2 hW hH hU => ?_) ?_
         rotate_left
         · have hX := hU.2 ⟨_, rfl, by first | decide +kernel | (dsimp only; decide +kernel)⟩
           clear hH hU
           have hLc : W2.cell? ⟨g1, kk, none⟩ = _ := (cell_of_row W2 g1 kk _ _ _ hX).trans ((List.getElem?_toArray).trans HL.out.2.2.2.2)
           have hct := fun i => cell_of_row W2 bt i _ _ _ ((hW.gb.block bt (lt_of_heap H13.out.2.2.1) (by simp; omega)).trans H13.out.2.2.1)
           have HBW := Lib.hid ((HB.out.1.trans (H13.out.1.mono HB.out.1.size)).grown hW.gb (by have := H13.out.1.size; omega) (fun k e => by cases e; omega))
           have HW := Lib.hid hW
           clear hW hX
           go_simp
           first
             | with_reducible exact ⟨rfl, SG.refl _ _, HW.out⟩
             | (go_at_call 33; refine (HA6.out W2 HBW.out).mono ?_; rintro e W3 ⟨rfl, rfl⟩; exact ⟨_, rfl, rfl, SG.refl _ _, HW.out⟩)
         simp only [Act.put, List.setIfInBounds_toArray, List.set_cons_succ, List.set_cons_zero])
      refine' R3.WalkR.fx 99 (fun _ W' => W'.heap[g1]? = some (.cells (L.set kk (.int .i64 (x + 1))).toArray 3 (0, 0))) (fun _ => rfl) rfl (by first | decide +kernel | (dsimp only; decide +kernel)) (by first | decide +kernel | (dsimp only; decide +kernel)) rfl (fun _ _ W W' hv hs _ => hs.keep hv) (fun ρ W2 hW hH hU => ?_) ?_
      · clear hH hU
        rcases hW.hg with hx | hx
        · exact gives_store_one 3 (.tmp 99) (.tmp 98) rfl rfl rfl hx (by have := HL.out.2.1; omega) info3s (fun W' hP hM => ⟨hM, hW.put hP hM rfl⟩)
        · refine gives_store_one 3 (.tmp 99) (.tmp 98) rfl rfl rfl hx (by have := HL.out.2.1; simp; omega) info3s (fun W' hP hM => ?_)
          rw [List.set_set] at hM
          exact ⟨hM, hW.put hP hM rfl⟩
      refine R3.WalkR.nil (fun ρ W2 hW hH hF => ?_)
      have hL2 := hF _ (.head _)
      simp only at hL2
      have hB2 : Below wr.heap.size wr W2 := H13.out.1.grown hW.gb H13.out.1.size (fun k e => by cases e; omega)
      have hbw2 : Below w.heap.size w W2 := HB.out.1.trans (hB2.mono HB.out.1.size)
      have hG2 : W2.heap[w.heap.size]? = some (.cells (gcs g A1 c1 A2 c2) 29 (0, 0)) := (hW.gb.block w.heap.size (lt_of_heap H13.out.2.1) (by simp; omega)).trans H13.out.2.1
      have hT2 : W2.heap[bt]? = some (.cells (gcs (moreG g kk) (some ⟨g1, 0, none⟩) x1 (some ⟨g2, 0, none⟩) x2) 29 (0, 0)) := by
        rw [show gcs (moreG g kk) (some ⟨g1, 0, none⟩) x1 (some ⟨g2, 0, none⟩) x2 = gcs g (some ⟨g1, 0, none⟩) x1 (some ⟨g2, 0, none⟩) x2 by simp [gcs, moreG]]
        exact (hW.gb.block bt (lt_of_heap H13.out.2.2.1) (by simp; omega)).trans H13.out.2.2.1
      have hC2 : W2.heap[bc]? = some (.cells (gcs (strictG g (g.hab.keep + m)) A1 c1 A2 c2) 29 (0, 0)) := (hW.gb.block bc (lt_of_heap H13.out.2.2.2) (by simp; omega)).trans H13.out.2.2.2
      have hLs : ints (g.start.set kk (x + 1)) = (L.take g.start.length).set kk (.int .i64 (x + 1)) := by rw [HL.out.2.2.1]; simp [ints, List.map_set]
      have o2'' := own_same HO2.out.2 (W' := W2) (fun k cur fr hk => hW.gb.block k (lt_of_heap hk) (fun e => by
        simp only [Option.some.injEq] at e
        subst e
        rw [HL.out.1] at hk
        simp only [Option.some.injEq, Obj.cells.injEq] at hk
        exact absurd hk.2.1 (by decide)))
      have hgr := HC.out.gr
      have hGM : GrAt W2 W2.heap.size (moreG g kk) (some ⟨g1, 0, none⟩) x1 (some ⟨g2, 0, none⟩) x2 := by
        refine ⟨?_, Vals.own o2'', ?_, own_cap o2'', by simp only [moreG, List.length_set]; exact hgr.len1, hgr.len2⟩
        · have e : (moreG g kk).start = g.start.set kk (x + 1) := by simp only [moreG, HL.out.2.2.2.1]
          rw [e]
          refine (vals_in hL2 (lt_of_heap hL2) (fun j v hj => ?_)).ints
          rw [Nat.zero_add, List.getElem?_toArray]
          rw [hLs] at hj
          have hj0 : j < g.start.length := by
            have := (List.getElem?_eq_some_iff.1 hj).1
            simp at this
            omega
          rw [List.getElem?_set] at hj ⊢
          split at hj
          · rename_i e
            rw [if_pos e, if_pos (by have := HL.out.2.1; omega)]
            rw [if_pos (by simp; have := HL.out.2.1; omega)] at hj
            exact hj
          · rename_i e
            rw [if_neg e]
            rw [List.getElem?_take, if_pos hj0] at hj
            exact hj
        · simp only [moreG, List.length_set]
          exact own_cap HO2.out.1
      have hGS : GrAt W2 W2.heap.size (strictG g (g.hab.keep + m)) A1 c1 A2 c2 := by
        have h := (hgr.below hbw2).mono hbw2.size
        exact ⟨h.st, h.se, h.cap1, h.cap2, h.len1, h.len2⟩
      have hGG := (hgr.below hbw2).mono hbw2.size
      have hwide := ((Vals.own hO.out.own).below hB2).mono hB2.size
      have hra := (HC.out.ra.below hbw2).mono hbw2.size
      have hlen := hO.out.len
      have hall := wider_all HR.out.2.2.1 HR.out.2.2.2 (f := fun i => atL ys i) (fun i => (atL_bnd HC.out.by').1) 0 (k := g.hab.keep + m) (by have := HK.out; omega) (by have := HK.out; omega) kk
      have hwok := (wideL_ok (f := fun i => atL ys i) (fun i => (atL_bnd HC.out.by').1) HR.out.2.2.2 0).1
      rw [HB.out.2.2.1] at hall hwok
      have hM1 : ∀ W', Grows W2 W' → Calls Try.prog 26 #[grv g A1 c1 A2 c2, .slice P1 ps.length k1] W' (MostPost W' (mostR g ps)) := fun W' h => mostP_any g A1 c1 A2 c2 P1 k1 ps W2.heap.size W' h.size (hGG.below h) (hra.below h) (by omega)
      have hM2 : ∀ W', Grows W2 W' → Calls Try.prog 26 #[grv g A1 c1 A2 c2, .slice A out.length c] W' (MostPost W' (mostR g out)) := fun W' h => mostP_any g A1 c1 A2 c2 A c out W2.heap.size W' h.size (hGG.below h) (hwide.below h) (by omega)
      have hM3 : ∀ W', Grows W2 W' → Calls Try.prog 26 #[grv (strictG g (g.hab.keep + m)) A1 c1 A2 c2, .slice P1 ps.length k1] W' (MostPost W' (mostR (strictG g (g.hab.keep + m)) ps)) := fun W' h => mostP_any _ A1 c1 A2 c2 P1 k1 ps W2.heap.size W' h.size (hGS.below h) (hra.below h) (by omega)
      have hM4 : ∀ W', Grows W2 W' → Calls Try.prog 26 #[grv (moreG g kk) (some ⟨g1, 0, none⟩) x1 (some ⟨g2, 0, none⟩) x2, .slice P1 ps.length k1] W' (MostPost W' (mostR (moreG g kk) ps)) := fun W' h => mostP_any _ _ _ _ _ P1 k1 ps W2.heap.size W' h.size (hGM.below h) (hra.below h) (by omega)
      have hCk : ∀ W', Grows W2 W' → Calls Try.prog 19 #[grv (moreG g kk) (some ⟨g1, 0, none⟩) x1 (some ⟨g2, 0, none⟩) x2] W' fun e w' => e = .returned (.int .i64 (errG (moreG g kk))) ∧ Below W'.heap.size W' w' := fun W' h => refCheck_any _ _ _ _ _ W2.heap.size W' h.size (hGM.below h)
      have q1 := most_err HR.out.2.2.1 HR.out.2.2.2
      have q2 := most_err HR.out.2.2.1 hwok
      have q3 := most_err (strict_ok HR.out.2.2.1 (k := g.hab.keep + m) (by have := HK.out; omega) (by have := HK.out; omega)) HR.out.2.2.2
      have hE4 : errG (moreG g kk) = 0 ∨ errG (moreG g kk) = 10 := by unfold errG; split <;> simp
      have hE4' : errG (moreG g kk) = 0 → okGrove (moreG g kk) = true := fun h => by
        unfold errG at h
        split at h
        · assumption
        · cases h
      have n4 : errG (moreG g kk) = 0 → NoMore (mostR g ps) (mostR (moreG g kk) ps) := fun h => hall.2.2 (hE4' h)
      obtain ⟨n2, n3, -⟩ := hall
      have hcells : (gcs (strictG g (g.hab.keep + m)) A1 c1 A2 c2) = gcs (strictG g (g.hab.keep + m)) A1 c1 A2 c2 := rfl
      clear hlen hcells hE4' hwok hGM hGS hGG hwide hra hgr hLs o2'' hL2 hH hF hW
      obtain ⟨⟨p1, t1, e1⟩, hp1⟩ : ∃ x, x = mostR g ps := ⟨_, rfl⟩
      obtain ⟨⟨p2, t2, e2⟩, hp2⟩ : ∃ x, x = mostR g out := ⟨_, rfl⟩
      obtain ⟨⟨p3, t3, e3⟩, hp3⟩ : ∃ x, x = mostR (strictG g (g.hab.keep + m)) ps := ⟨_, rfl⟩
      obtain ⟨⟨p4, t4, e4⟩, hp4⟩ : ∃ x, x = mostR (moreG g kk) ps := ⟨_, rfl⟩
      obtain ⟨e5, hp5⟩ : ∃ x, x = errG (moreG g kk) := ⟨_, rfl⟩
      rw [← hp1] at hM1 q1 n2 n3 n4
      rw [← hp2] at hM2 q2 n2
      rw [← hp3] at hM3 q3 n3
      rw [← hp4] at hM4 n4
      rw [← hp5] at hCk n4 hE4
      clear hp1 hp2 hp3 hp4 hp5
      simp only [NoMore] at n2 n3 n4 q1 q2 q3
      have key := wid_key q1 q2 q3 n2 n3
      have key2 := wid_key2 q1 hE4 n4
      have HT := Lib.hid (And.intro hbw2 (And.intro hG2 (And.intro hT2 hC2)))
      have HM := Lib.hid (And.intro hM1 (And.intro hM2 (And.intro hM3 (And.intro hM4 hCk))))
      have hs2' := hbw2.size
      have hgc2 := fun i => cell_of_row W2 w.heap.size i _ _ _ hG2
      have hlt1 := lt_of_heap hG2
      have hlt2 := lt_of_heap hT2
      have hlt3 := lt_of_heap hC2
      clear hbw2 hG2 hT2 hC2 hM1 hM2 hM3 hM4 hCk hB2 q1 q2 q3 n2 n3 n4 hE4
      rcases key with ⟨rfl, rfl, rfl, k2, k3⟩ | ⟨rfl, rfl, rfl, k2⟩ | ⟨rfl, rfl, rfl, k3⟩ | ⟨rfl, rfl, rfl⟩ | ⟨rfl, rfl, rfl⟩
      all_goals
        rcases key2 with rfl | ⟨rfl, k4, rfl, k5⟩ | ⟨rfl, k4⟩
        all_goals
          go_wp2_with (first
            | (go_at_call 26; refine (HM.out.2.2.2.1 W6 H6.out).mono ?_; rintro e W7 ⟨D7, q7, rfl, -, -, hB7⟩
               have H7 := Lib.hid (H6.out.trans (hB7.mono H6.out.size))
               clear hB7 hbt6)
            | (go_at_call 19; refine (HM.out.2.2.2.2 W5 H5.out).mono ?_; rintro e W6 ⟨rfl, hB6⟩
               have H6 := Lib.hid (H5.out.trans (hB6.mono H5.out.size))
               have hbt6 := fun i => cell_of_row W6 bt i _ _ _ ((H6.out.block _ hlt2).trans HT.out.2.2.1)
               clear hB6 hbt5)
            | (go_at_call 26; refine (HM.out.2.2.1 W4 H4.out).mono ?_; rintro e W5 ⟨D5, q5, rfl, -, -, hB5⟩
               have H5 := Lib.hid (H4.out.trans (hB5.mono H4.out.size))
               have hbt5 := fun i => cell_of_row W5 bt i _ _ _ ((H5.out.block _ hlt2).trans HT.out.2.2.1)
               clear hB5 hbc4)
            | (go_at_call 26; refine (HM.out.2.1 W3 H3.out).mono ?_; rintro e W4 ⟨D4, q4, rfl, -, -, hB4⟩
               have H4 := Lib.hid (H3.out.trans (hB4.mono H3.out.size))
               have hbc4 := fun i => cell_of_row W4 bc i _ _ _ ((H4.out.block _ hlt3).trans HT.out.2.2.2)
               clear hB4 hgc3)
            | (go_at_call 26; refine (HM.out.1 W2 (Grows.refl _)).mono ?_; rintro e W3 ⟨D3, q3, rfl, -, -, hB3⟩
               have H3 := Lib.hid hB3
               have hgc3 := fun i => cell_of_row W3 w.heap.size i _ _ _ ((hB3.block _ hlt1).trans HT.out.2.1)
               clear hB3 hgc2))
          all_goals
            go_ret
            first
              | exact ⟨rfl, HT.out.1.trans (H7.out.mono hs2')⟩
              | exact ⟨rfl, HT.out.1.trans (H6.out.mono hs2')⟩
    | succ gg =>
      have hlt : k < ps.length := by omega
      have hltz : (k : Int) < ps.length := by omega
      obtain ⟨b1, off1, hA1, hb1, hq1⟩ := HC.out.ra (by rw [pairs_len]; omega)
      subst hA1
      have hpa := pairs_at ps k hlt
      have rn := rainsOk_at HR.out.2.2.2 hlt
      have hsp := hO.out.split
      rw [List.drop_eq_getElem_cons hlt] at hsp
      have hps : ps[k]?.getD (0, 0) = ps[k] := by simp [hlt]
      rw [← hps] at hsp
      have hbel := H2.out.1.trans (hO.out.bel.mono H2.out.1.size)
      have ha0 : wr.cell? ⟨b1, off1 + k * 2, none⟩ = _ := (hbel.cell (p := ⟨b1, off1 + k * 2, none⟩) hb1).trans (hq1 _ _ hpa.1)
      have ha1 : wr.cell? ⟨b1, off1 + k * 2 + 1, none⟩ = _ := (hbel.cell (p := ⟨b1, off1 + k * 2 + 1, none⟩) hb1).trans (hq1 _ _ hpa.2)
      generalize ps[k]?.getD (0, 0) = x at rn ha0 ha1 hsp
      obtain ⟨x1, x2⟩ := x
      simp only at rn ha0 ha1
      obtain ⟨rn0, rn1, rn2⟩ := rn
      simp only [wideL, wideP, show ((k + 1 : Nat) : Int) = (k : Int) + 1 from rfl] at hsp
      have hu := atL_bnd HC.out.by' (i := (k : Int))
      have hv := atL_bnd HC.out.by' (i := (k : Int) + 1)
      have hat := fun (j : Int) (hj : 0 ≤ j) (W : World) (hW : Below w.heap.size w W) => at_any P3 k3 ys j hj w.heap.size W (HC.out.by'.below hW).va HC.out.by'.ln
      have hat0 := hat k (by omega)
      have hat1 := hat ((k : Int) + 1) (by omega)
      generalize atL ys (k : Int) = u at hu hat0 hsp
      generalize atL ys ((k : Int) + 1) = v at hv hat1 hsp
      obtain ⟨u0, u1⟩ := hu
      obtain ⟨v0, v1⟩ := hv
      have hm0 : 0 ≤ u.tmod (x1 + 1) ∧ u.tmod (x1 + 1) ≤ x1 := by
        rw [Int.tmod_eq_emod_of_nonneg u0]
        have := Int.emod_nonneg u (b := x1 + 1) (by omega)
        have := Int.emod_lt_of_pos u (b := x1 + 1) (by omega)
        omega
      have hm1 : 0 ≤ v.tmod (1500 - x2 + 1) ∧ v.tmod (1500 - x2 + 1) ≤ 1500 - x2 := by
        rw [Int.tmod_eq_emod_of_nonneg v0]
        have := Int.emod_nonneg v (b := 1500 - x2 + 1) (by omega)
        have := Int.emod_lt_of_pos v (b := 1500 - x2 + 1) (by omega)
        omega
      have hz0 : ¬ x1 + 1 = 0 := by omega
      have hz1 : ¬ 1500 - x2 + 1 = 0 := by omega
      have hx1 : IntKind.i64.wrap u = u := IntWalk.i64_in _ (by omega)
      have hx2 : IntKind.i64.wrap v = v := IntWalk.i64_in _ (by omega)
      have hx3 : IntKind.i64.wrap (x1 + 1) = x1 + 1 := IntWalk.i64_in _ (by omega)
      have hx4 : IntKind.i64.wrap (1500 - x2) = 1500 - x2 := IntWalk.i64_in _ (by omega)
      have hx5 : IntKind.i64.wrap (1500 - x2 + 1) = 1500 - x2 + 1 := IntWalk.i64_in _ (by omega)
      have hx6 : IntKind.i64.wrap ((k : Int) + 1) = (k : Int) + 1 := IntWalk.i64_in _ (by omega)
      generalize hmu : u.tmod (x1 + 1) = m at hm0 hsp
      generalize hmv : v.tmod (1500 - x2 + 1) = n at hm1 hsp
      have hx7 : IntKind.i64.wrap m = m := IntWalk.i64_in _ (by omega)
      have hx8 : IntKind.i64.wrap n = n := IntWalk.i64_in _ (by omega)
      have hx9 : IntKind.i64.wrap (x1 - m) = x1 - m := IntWalk.i64_in _ (by omega)
      have hx10 : IntKind.i64.wrap (x2 + n) = x2 + n := IntWalk.i64_in _ (by omega)
      have hlen := hO.out.len
      have hlen3 : out.length ≤ 3 := by omega
      obtain ⟨i0, hi0, hy0, hy1, hy2⟩ := info_parts Try.info23
      have HI0 := Lib.hid (And.intro hi0 (And.intro hy0 (And.intro hy1 hy2)))
      have HLEN := Lib.hid hlen
      have HSP := Lib.hid hsp
      have HAT := Lib.hid (And.intro hat0 hat1)
      have HBEL := Lib.hid hbel
      clear hi0 hy0 hy1 hy2 hlen hsp hat hat0 hat1 hps hpa hq1 hbel hm0 hm1
      go_wp2
      obtain ⟨w6, hw6⟩ : ∃ w6, wr.alloc (.cells #[.int .i64 x1, .int .i64 x2] 23) = w6 := ⟨_, rfl⟩
      have hb6 : Below wr.heap.size wr w6 := by rw [← hw6]; exact (Below.refl _ _).alloc (Nat.le_refl _) _
      have hm6 : w6.heap[wr.heap.size]? = some (.cells #[.int .i64 x1, .int .i64 x2] 23 (0, 0)) := by rw [← hw6]; exact alloc_at0 wr _
      have h6 : WW w2 wr.heap.size x1 x2 w6 := ⟨hm6, hO.out.bel.trans (hb6.mono hO.out.bel.size), hO.out.bel.size⟩
      have hown := own_grows hO.out.own hb6
      have hob : ∀ j, (Value.slice A out.length c).ownBlock = some j → w2.heap.size ≤ j ∧ j < wr.heap.size := fun j hj => hO.out.own.lt j hj
      have H6 := Lib.hid h6
      have HOWN := Lib.hid hown
      have HOB := Lib.hid hob
      rw [hw6]
      clear hw6 hb6 hm6 h6 hown hob ha0 ha1
      refine R2.wp_walkT (C := WW w2 wr.heap.size x1 x2) (S := SApp 67 (Value.slice A out.length c).ownBlock) 174 67 (fun W => W.ownsRow w2.heap.size 23 2 (.slice A out.length c) out.length (pairs out)) (by kernel_rfl) (by kernel_rfl) rfl (SApp.refl _ _) (H6.out.next (Below.refl _ _).drew)
        (fun o' W W' hx hp hs _ => own_grows hp (hs.1 hx)) HOWN.out ?_
      simp only []
      repeat
        (refine' R2.WalkR.det (fun _ => rfl) rfl (fun ρ W hW hH hU => ?_) ?_
         rotate_left
         · clear hH hU
           have hcs := fun i => cell_of_row W wr.heap.size i _ _ _ hW.hS
           have HB := Lib.hid (H2.out.1.trans (hW.bel.mono H2.out.1.size))
           have HW := Lib.hid hW
           clear hW
           go_simp
           first
             | (with_reducible exact ⟨rfl, SApp.refl _ _ _ _, HW.out⟩)
             | ((with_reducible show Calls _ _ #[Value.slice P3 _ _, .int .i64 (k : Int)] _ _); go_at_call 33; refine (HAT.out.1 W HB.out).mono ?_; rintro e W1 ⟨rfl, rfl⟩; exact ⟨_, rfl, rfl, SApp.refl _ _ _ _, HW.out⟩)
             | ((with_reducible show Calls _ _ #[Value.slice P3 _ _, .int .i64 ((k : Int) + 1)] _ _); go_at_call 33; refine (HAT.out.2 W HB.out).mono ?_; rintro e W1 ⟨rfl, rfl⟩; exact ⟨_, rfl, rfl, SApp.refl _ _ _ _, HW.out⟩)
             | (go_at_call 36; refine (span_any _ _ W).mono ?_; rintro e W1 ⟨rfl, hB1⟩; exact ⟨_, rfl, rfl, .of hB1, HW.out.next hB1⟩)
         simp only [Act.put, List.setIfInBounds_toArray, List.set_cons_succ, List.set_cons_zero])
      refine' R2.WalkR.tp 67 (NewSl 1 #[.int .i64 (x1 - m), .int .i64 (x2 + n)] 23) (fun _ => rfl) rfl rfl (fun o' v W W' _ hx hv hs _ => hv.keep v W W' (hs.1 hx)) (fun ρ W hW hH hU => ?_) ?_
      · clear hH hU
        have HW := Lib.hid hW
        clear hW
        go_simp
        exact ⟨⟨_, rfl, alloc_at0 _ _⟩, .of ((Below.refl _ _).alloc (Nat.le_refl _) _), HW.out.next ((Below.refl _ _).alloc (Nat.le_refl _) _)⟩
      simp only [Act.put, List.setIfInBounds_toArray, List.set_cons_succ, List.set_cons_zero]
      refine' R2.WalkR.nd (RowIs w2.heap.size 23 2 (out.length + 1) (pairs (out ++ [(x1 - m, x2 + n)]))) (fun _ => rfl) rfl rfl (fun o' v W W' hx _ hv hs _ => ?_) (fun ρ W hW hH hU => ?_) ?_
      · obtain ⟨A', c', hv, ho⟩ := hv
        exact ⟨A', c', hv, own_grows ho (hs.1 hx)⟩
      · obtain ⟨g', hv, hg⟩ := hU.1 _ (.head _) (by first | decide +kernel | (dsimp only; decide +kernel)) rfl
        have ho := hU.2 rfl
        refine gives_app (.tmp 40) (.tmp 66) 48 rfl w2.heap.size 23 i0 _ 2 16 (v := .slice A out.length c) (n := out.length) (xs := pairs out) Try.underlying48 HI0.out.1 HI0.out.2.1 HI0.out.2.2.1 HI0.out.2.2.2 rfl (by omega) rfl ho hv
          (vals_new (vs := pairs [(x1 - m, x2 + n)]) hg (lt_of_heap hg)) (by rw [pairs_len]; rfl) (oneCells_pairs _) (by simp only [maxLen]; omega) (by omega) hW.bel.size (fun v' w' ho' hgr => ?_)
        obtain ⟨A', c', rfl⟩ := own_slice ho'
        refine ⟨⟨A', c', rfl, ?_⟩, ⟨fun hx => absurd rfl hx, hgr⟩, hW.app HOB.out hgr⟩
        rw [pairs_app]
        exact ho'
      simp only [Act.put, List.setIfInBounds_toArray, List.set_cons_succ, List.set_cons_zero]
      refine' R2.WalkR.nd (RowIs w2.heap.size 23 2 (out.length + 1) (pairs (out ++ [(x1 - m, x2 + n)]))) (fun _ => rfl) rfl rfl (fun o' v W W' hx hu hv hs _ => ?_) (fun ρ W hW hH hU => ?_) ?_
      · obtain ⟨A', c', hv, ho⟩ := hv
        exact ⟨A', c', hv, own_grows ho (hs.1 (hu 67 (by first | decide +kernel | (dsimp only; decide +kernel))))⟩
      · have hv := hH _ (.head _) (by first | decide +kernel | (dsimp only; decide +kernel))
        clear hH hU
        have HW := Lib.hid (And.intro hv hW)
        clear hW hv
        go_simp
        exact ⟨HW.out.1, SApp.refl _ _ _ _, HW.out.2⟩
      simp only [Act.put, List.setIfInBounds_toArray, List.set_cons_succ, List.set_cons_zero]
      refine R2.WalkR.nil (fun ρ W hW hH hF => ?_)
      obtain ⟨A', c', hv, ho⟩ := hH _ (.head _)
      have hv' : ρ 8 = .slice A' (out.length + 1) c' := hv
      have hle : (out ++ [(x1 - m, x2 + n)]).length = out.length + 1 := by simp
      have hO2 : WO w2 ys ps (k + 1) A' c' (out ++ [(x1 - m, x2 + n)]) W :=
        ⟨by rw [hle, ← hv']; exact ho, by rw [List.append_assoc]; exact HSP.out, by have := HLEN.out; simp [this], hW.bel⟩
      have HO2 := Lib.hid hO2
      have HLE := Lib.hid hle
      rw [hv']
      clear hH hF hv hv' ho hO2 hW hle
      go_wp2
      go_roundg gg
      case measure => omega
      case rel => exact ⟨k + 1, A', c', out ++ [(x1 - m, x2 + n)], by omega, by go_num, by rw [HLE.out], HO2.out⟩

theorem clumpWider_law (g : Gr) (ps : List (Int × Int)) (ys : List Int) (A1 : Option Addr) (c1 : Nat) (A2 : Option Addr) (c2 : Nat) (P1 : Option Addr) (k1 : Nat) (P3 : Option Addr) (k3 : Nat) (w : World) (hG : GrAt w w.heap.size g A1 c1 A2 c2)
    (hV1 : Vals w w.heap.size P1 (pairs ps)) (hV3 : ByAt w w.heap.size P3 ys) (l1 : ps.length ≤ 9223372036854775807) :
    Calls Try.prog 10 #[grv g A1 c1 A2 c2, .slice P1 ps.length k1, .slice P3 ys.length k3] w fun e w' => e = .returned (.bool true) ∧ Below w.heap.size w w' := by
  cases h : readyB g ps with
  | false => exact clumpWider_idle g ps A1 c1 A2 c2 P1 k1 P3 k3 ys.length w hG hV1 l1 h
  | true => exact clumpWider_main g ps ys A1 c1 A2 c2 P1 k1 P3 k3 w ⟨hG, hV1, hV3⟩ h

end Go.Proofs.Ytanjolmelbipoaa
