/-
  The reference's Run.
-/
import Derived.Test.YtfampdiompjmeaaCeN
namespace Go.Proofs.Ytfampdiompjmeaa
open Go.RowKit Go.Shelf
open R6 (done done_ne done_me upd_ne upd_me)

attribute [local go_sem] gives

theorem allB_inR (lo hi n : Int) : allB lo hi [n] = inR n lo hi := allB_one lo hi n
theorem okBatch_small {t : Bt} {l : List Sl} (h : okBatch t (rws l) = true) : smallL l := by
  obtain ⟨hg, -⟩ := okBatch_good h
  refine ⟨by have := hg.n4; simp [rws] at this; omega, fun s hs => ?_⟩
  have := (hg.rows s.zs (by simp only [rws, List.mem_map]; exact ⟨s, hs, rfl⟩)).l6
  omega

set_option maxRecDepth 100000 in
set_option maxHeartbeats 4000000 in
theorem refRun_bad (t : Bt) (A : Option Addr) (cap : Nat) (l : List Sl) (sp h : Int) (B : Nat) (w : World) (hB : B ≤ w.heap.size) (hz : Rows w B A l) (hl : ∀ s ∈ l, s.zs.length ≤ 9223372036854775807) (hno : runE t (rws l) sp h ≠ 0) :
    Calls Try.prog 26 #[.agg (btcells t (.slice A l.length cap)), .int .i64 sp, .int .i64 h] w (RunPost w t (rws l) sp h) := by
  have hBB : runB t (rws l) sp h = 0 := by simp [runB, hno]
  have hRR : runR t (rws l) sp h = [] := by simp [runR, hno]
  have hck := fun W (hW : Below w.heap.size w W) => refBatch_any t A cap l B W (Nat.le_trans hB hW.size) (hz.below (hW.mono hB)) hl
  have h0 : (w.alloc (.cells (btcells t (.slice A l.length cap)) 28)).heap[w.heap.size]? = _ := alloc_at0 _ _
  have HB0 := Lib.hid h0
  clear h0 hz hl
  rcases (by
    unfold runE at hno ⊢
    cases hb : okBatch t (rws l) with
    | false => exact .inl ⟨rfl, by simp⟩
    | true =>
      rw [hb] at hno
      simp only [if_true, allB_inR] at hno ⊢
      cases h1 : inR sp t.lo t.hi with
      | false => exact .inr (.inl ⟨trivial, by first | rfl | trivial, by simp⟩)
      | true =>
        cases h2 : inR h 0 300 with
        | false => exact .inr (.inr ⟨trivial, by first | rfl | trivial, by first | rfl | trivial, by simp⟩)
        | true => simp [h1, h2] at hno : (okBatch t (rws l) = false ∧ runE t (rws l) sp h = 40) ∨ (okBatch t (rws l) = true ∧ inR sp t.lo t.hi = false ∧ runE t (rws l) sp h = 2) ∨ (okBatch t (rws l) = true ∧ inR sp t.lo t.hi = true ∧ inR h 0 300 = false ∧ runE t (rws l) sp h = 2)) with ⟨h1, hE⟩ | ⟨h1, h2, hE⟩ | ⟨h1, h2, h3, hE⟩
  · rw [h1] at hck
    have HCK := Lib.hid hck
    have HR := Lib.hid (And.intro hE (And.intro hBB hRR))
    clear hck hE hBB hRR h1 hno
    unfold btcells at HCK HB0 ⊢
    go_enter Try.func26, Try.ntmps26
    go_wp2_with (go_at_call 40; refine (HCK.out _ (grow1 w _)).mono ?_; rintro e w1 ⟨rfl, hB1⟩; have H1 := Lib.hid ((grow1 w _).trans (hB1.mono (by simp))); clear hB1)
    go_ret3
    exact ⟨none, 0, [], by rw [HR.out.1, HR.out.2.1]; rfl, by rw [HR.out.2.2]; rfl, ownR_nil _ _, H1.out⟩
  · rw [h1] at hck
    have HCK := Lib.hid hck
    have HR := Lib.hid (And.intro hE (And.intro hBB hRR))
    have H2 := Lib.hid h2
    clear hck hE hBB hRR h1 h2 hno
    unfold btcells at HCK HB0 ⊢
    go_enter Try.func26, Try.ntmps26
    go_wp2_with (first
      | (go_at_call 40; refine (HCK.out _ (grow1 w _)).mono ?_; rintro e w1 ⟨rfl, hB1⟩
         have hc1 := fun i => cell_of_row w1 w.heap.size i _ _ _ ((hB1.block _ (by simp)).trans HB0.out)
         have H1 := Lib.hid ((grow1 w _).trans (hB1.mono (by simp))); clear hB1)
      | (go_at_call 61; refine (refWithin_any _ _ _ _).mono ?_; rintro e w2 ⟨rfl, rfl⟩; rw [H2.out]))
    go_ret3
    exact ⟨none, 0, [], by rw [HR.out.1, HR.out.2.1]; rfl, by rw [HR.out.2.2]; rfl, ownR_nil _ _, H1.out⟩
  · rw [h1] at hck
    have HCK := Lib.hid hck
    have HR := Lib.hid (And.intro hE (And.intro hBB hRR))
    have H2 := Lib.hid h2
    have H3 := Lib.hid h3
    clear hck hE hBB hRR h1 h2 h3 hno
    unfold btcells at HCK HB0 ⊢
    go_enter Try.func26, Try.ntmps26
    go_wp2_with (first
      | (go_at_call 40; refine (HCK.out _ (grow1 w _)).mono ?_; rintro e w1 ⟨rfl, hB1⟩
         have hc1 := fun i => cell_of_row w1 w.heap.size i _ _ _ ((hB1.block _ (by simp)).trans HB0.out)
         have H1 := Lib.hid ((grow1 w _).trans (hB1.mono (by simp))); clear hB1)
      | (go_at_call 61; (with_reducible show Calls _ _ #[.int _ sp, _, _] _ _); refine (refWithin_any _ _ _ _).mono ?_; rintro e w2 ⟨rfl, rfl⟩; rw [H2.out])
      | (go_at_call 61; (with_reducible show Calls _ _ #[.int _ h, _, _] _ _); refine (refWithin_any _ _ _ _).mono ?_; rintro e w2 ⟨rfl, rfl⟩; rw [H3.out]))
    go_ret3
    exact ⟨none, 0, [], by rw [HR.out.1, HR.out.2.1]; rfl, by rw [HR.out.2.2]; rfl, ownR_nil _ _, H1.out⟩

/-- Where the region is that copies the poles. -/
structure CopC (w : World) (x : Nat) (cs : Array Value) (ws : List (List Int)) (kc tc : Nat) (D : Nat → Bool) (σ : Nat → Value) (W : World) : Prop where
  bel : Below w.heap.size w W
  lb : w.heap.size ≤ W.heap.size
  box : W.heap[x]? = some (.cells cs 28 (0, 0))
  res : D kc = true → ∃ A c ls, σ tc = .slice A ls.length c ∧ rws ls = ws ∧ OwnR W w.heap.size (.slice A ls.length c) ls
section
variable {w W W' : World} {x : Nat} {cs : Array Value} {ws : List (List Int)} {kc tc : Nat} {D : Nat → Bool} {σ : Nat → Value}
theorem CopC.move {k : Nat} {d : Option Nat} {u : Value} (h : CopC w x cs ws kc tc D σ W) (hk : runK kc tc k d = true) : CopC w x cs ws kc tc (done D k) (R4.upd σ d u) W := by
  simp only [runK, Bool.not_eq_true', Bool.or_eq_false_iff, beq_eq_false_iff_ne, ne_eq] at hk
  have e1 := done_ne (D := D) (k := k) (j := kc) (by omega)
  have u1 := upd_ne (ρ := σ) (v := u) hk.2
  exact ⟨h.bel, h.lb, h.box, by rw [e1, u1]; exact h.res⟩
end

set_option maxRecDepth 100000 in
set_option maxHeartbeats 8000000 in
theorem refRun_ok (t : Bt) (A : Option Addr) (cap : Nat) (l : List Sl) (sp : Int) (h : Nat) (B : Nat) (w : World) (hB : B ≤ w.heap.size) (hz : Rows w B A l) (hl : ∀ s ∈ l, s.zs.length ≤ 9223372036854775807) (hE : runE t (rws l) sp h = 0) :
    Calls Try.prog 26 #[.agg (btcells t (.slice A l.length cap)), .int .i64 sp, .int .i64 (h : Int)] w (RunPost w t (rws l) sp h) := by
  have hBB : runB t (rws l) sp h = (runS t.water sp (t.borax, rws l) h).1 := by simp [runB, hE]
  have hRR : runR t (rws l) sp h = (runS t.water sp (t.borax, rws l) h).2 := by simp [runR, hE]
  have hE0 := hE
  have hb : okBatch t (rws l) = true := by
    cases hb : okBatch t (rws l) with
    | true => rfl
    | false => simp [runE, hb] at hE
  have hwh : inR sp t.lo t.hi = true ∧ inR (h : Int) 0 300 = true := by
    simp only [runE, hb, if_true, allB_inR] at hE
    by_cases hc : inR sp t.lo t.hi = true ∧ inR (h : Int) 0 300 = true
    · exact hc
    · rw [if_neg hc] at hE; omega
  obtain ⟨hg, g1, g2, g3, -⟩ := okBatch_good hb
  have hsp := inR_iff.1 hwh.1
  have hh3 := inR_iff.1 hwh.2
  have hck := fun W (hW : Below w.heap.size w W) => refBatch_any t A cap l B W (Nat.le_trans hB hW.size) (hz.below (hW.mono hB)) hl
  rw [hb] at hck
  have htw := fun W (hW : Below w.heap.size w W) => twinCells_any A cap l B W (Nat.le_trans hB hW.size) (hz.below (hW.mono hB)) (okBatch_small hb)
  unfold CellsPost at htw
  have hho := fun i A' c' ls W (hr : rws ls = (runS t.water sp (t.borax, rws l) i).2) (hO : OwnR W w.heap.size (.slice A' ls.length c') ls) =>
    refHour_any t.water (runS t.water sp (t.borax, rws l) i).1 sp A' c' ls W.heap.size W (Nat.le_refl _) hO.rows (by omega) (by omega) (by rw [hr]; exact runS_good (by omega) (by omega) hg i)
  have hst : ∀ i, hourS t.water sp ((runS t.water sp (t.borax, rws l) i).1, (runS t.water sp (t.borax, rws l) i).2) = runS t.water sp (t.borax, rws l) (i + 1) := fun i => rfl
  have h0 : runS t.water sp (t.borax, rws l) 0 = (t.borax, rws l) := rfl
  generalize hS : runS t.water sp (t.borax, rws l) = S at hho hst h0 hBB hRR
  have HF := Lib.hid (And.intro hck (And.intro htw (And.intro hho (And.intro hst h0))))
  have HR := Lib.hid (And.intro hE0 (And.intro hBB hRR))
  have HW1 := Lib.hid hwh.1
  have HW2 := Lib.hid hwh.2
  clear hck htw hho hst h0 hBB hRR hE hE0 hwh hz hl hb hg g1 g2 g3 hS
  have hb0 : (w.alloc (.cells (btcells t (.slice A l.length cap)) 28)).heap[w.heap.size]? = _ := alloc_at0 _ _
  have HB0 := Lib.hid hb0
  clear hb0
  unfold btcells at HF HB0 ⊢
  go_enter Try.func26, Try.ntmps26
  go_wp2_with (first
    | (go_at_call 40; refine (HF.out.1 _ (grow1 w _)).mono ?_; rintro e w1 ⟨rfl, hB1⟩
       have hm1 := (hB1.block w.heap.size (by simp)).trans HB0.out
       have hc1 := fun i => cell_of_row w1 w.heap.size i _ _ _ hm1
       have H1 := Lib.hid (And.intro ((grow1 w _).trans (hB1.mono (by simp))) hm1); clear hB1 hm1)
    | (go_at_call 61; (with_reducible show Calls _ _ #[.int _ sp, _, _] _ _); refine (refWithin_any _ _ _ _).mono ?_; rintro e w2 ⟨rfl, rfl⟩; rw [HW1.out])
    | (go_at_call 61; (with_reducible show Calls _ _ #[.int _ (h : Int), _, _] _ _); refine (refWithin_any _ _ _ _).mono ?_; rintro e w2 ⟨rfl, rfl⟩; rw [HW2.out]))
  have hst5 : CopC w w.heap.size #[.int .i64 t.water, .int .i64 t.borax, .slice A l.length cap, .int .i64 t.lo, .int .i64 t.hi, .int .i64 t.need] (rws l) 4 33 (fun _ => false) (fun _ => undef) w1.drew := ⟨H1.out.1.drew, H1.out.1.size, H1.out.2, fun e => by cases e⟩
  have HST := Lib.hid hst5
  clear hst5 hc1
  refine R6.wp_walk (C := CopC w w.heap.size #[.int .i64 t.water, .int .i64 t.borax, .slice A l.length cap, .int .i64 t.lo, .int .i64 t.hi, .int .i64 t.need] (rws l) 4 33) 50 (by kernel_rfl) (by kernel_rfl) rfl ⟨HST.out.bel, HST.out.lb, HST.out.box, fun e => by cases e⟩ ?_
  simp only []
  repeat (first
    | (refine' R6.WalkR.det (fun _ => rfl) (fun D ρ W hK hC => ?_) ?_
       rotate_left
       · have hcb := fun i => cell_of_row W w.heap.size i _ _ _ hC.box
         have HC := Lib.hid hC
         clear hC hK
         go_simp
         first
           | with_reducible exact ⟨rfl, HC.out.move (by decide)⟩
           | fail
       simp only [Act.put, List.setIfInBounds_toArray, List.set_cons_succ, List.set_cons_zero]))
  refine' R6.WalkR.nd (fun _ => rfl) rfl (fun D ρ W hK hC => ?_) ?_
  · have HC := Lib.hid hC
    clear hC hK
    go_simp
    go_at_call 39
    refine (HF.out.2.1 W HC.out.bel).mono ?_
    rintro e W1 ⟨A', c', ls, rfl, hr, hO, hB1⟩
    exact ⟨_, rfl, HC.out.bel.trans (hB1.mono HC.out.lb), Nat.le_trans HC.out.lb hB1.size, (hB1.block _ (lt_of_heap HC.out.box)).trans HC.out.box, fun _ => ⟨A', c', ls, R6.upd_me, hr, hO.less HC.out.lb⟩⟩
  simp only [Act.put, List.setIfInBounds_toArray, List.set_cons_succ, List.set_cons_zero]
  repeat (first
    | (refine' R6.WalkR.det (fun _ => rfl) (fun D ρ W hK hC => ?_) ?_
       rotate_left
       · skip
         have HC := Lib.hid hC
         clear hC hK
         go_simp
         first
           | with_reducible exact ⟨rfl, HC.out.move (by decide)⟩
           | fail
       simp only [Act.put, List.setIfInBounds_toArray, List.set_cons_succ, List.set_cons_zero]))
  refine' R6.WalkR.fn 33 (fun v => v) (fun _ => rfl) (by decide +kernel) (fun D ρ W hK hC => ?_) ?_
  · have HC := Lib.hid hC
    clear hC hK
    go_simp
    first
      | exact HC.out.move (by decide)
      | exact ⟨rfl, HC.out.move (by decide)⟩
  simp only [Act.put, List.setIfInBounds_toArray, List.set_cons_succ, List.set_cons_zero]
  refine R6.WalkR.nil (fun D ρ W hD' hC => ?_)
  obtain ⟨A0, c0, l0, hv0, hr0, hO0⟩ := hC.res (hD' 4 (by decide))
  rw [hv0]
  have H5 := Lib.hid (And.intro hr0 (And.intro hO0 (And.intro hC.bel hC.box)))
  clear hC hD' hr0 hO0 hv0
  go_wp2
  go_loopg [9, 10, 11] h (fun gg s9 s10 s11 wx => ∃ (i : Nat) (A' : Option Addr) (c' : Nat) (ls : List Sl), i + gg = h ∧ s9 = .int .i64 (S i).1 ∧ s10 = .slice A' ls.length c' ∧ s11 = .int .i64 i ∧ Hid (rws ls = (S i).2) ∧ Hid (OwnR wx w.heap.size (.slice A' ls.length c') ls) ∧ Hid (Below w.heap.size w wx) ∧ Hid (wx.heap[w.heap.size]? = some (.cells #[.int .i64 t.water, .int .i64 t.borax, .slice A l.length cap, .int .i64 t.lo, .int .i64 t.hi, .int .i64 t.need] 28 (0, 0))))
  case atStart => exact ⟨0, A0, c0, l0, by omega, by rw [HF.out.2.2.2.2], rfl, rfl, by rw [HF.out.2.2.2.2]; exact H5.out.1, H5.out.2.1, H5.out.2.2.1, H5.out.2.2.2⟩
  case round =>
    obtain ⟨i, A', c', ls, hig, rfl, rfl, rfl, hr, hO, hBr, hbx⟩ := hrel
    cases gk with
    | zero =>
      obtain rfl : i = h := by omega
      go_wp2
      go_ret3
      exact ⟨A', c', ls, by rw [HR.out.1, HR.out.2.1]; rfl, by rw [HR.out.2.2]; exact hr.out, hO.out, hBr.out⟩
    | succ gg =>
      have hiz : (i : Int) < h := by omega
      have hh := HF.out.2.2.1 i A' c' ls wr hr.out hO.out
      rw [hr.out, HF.out.2.2.2.1 i] at hh
      unfold HourPost at hh
      have HH := Lib.hid hh
      have hcb := fun i => cell_of_row wr w.heap.size i _ _ _ hbx.out
      have hws := hBr.out.size
      clear hh
      go_wp2_with
        (go_at_call 62
         refine HH.out.mono ?_
         rintro e w6 ⟨A6, c6, l6, rfl, hr6, hO6, hB6⟩
         have H6 := Lib.hid (And.intro hr6 (And.intro (hO6.less hws) (And.intro (hBr.out.trans (hB6.mono hws)) ((hB6.block _ (lt_of_heap hbx.out)).trans hbx.out))))
         clear hr6 hO6 hB6 hcb)
      go_roundg gg
      case measure => omega
      case rel => exact ⟨i + 1, A6, c6, l6, by omega, rfl, rfl, by go_num, H6.out.1, H6.out.2.1, H6.out.2.2.1, H6.out.2.2.2⟩

theorem refRun_any (t : Bt) (A : Option Addr) (cap : Nat) (l : List Sl) (sp h : Int) (B : Nat) (w : World) (hB : B ≤ w.heap.size) (hz : Rows w B A l) (hl : ∀ s ∈ l, s.zs.length ≤ 9223372036854775807) :
    Calls Try.prog 26 #[.agg (btcells t (.slice A l.length cap)), .int .i64 sp, .int .i64 h] w (RunPost w t (rws l) sp h) := by
  by_cases hE : runE t (rws l) sp h = 0
  · have hb : okBatch t (rws l) = true := by
      cases hb : okBatch t (rws l) with
      | true => rfl
      | false => simp [runE, hb] at hE
    have hh : inR h 0 300 = true := by
      have hE' := hE
      simp only [runE, hb, if_true, allB_inR] at hE'
      by_cases hc : inR sp t.lo t.hi = true ∧ inR h 0 300 = true
      · exact hc.2
      · rw [if_neg hc] at hE'; omega
    have := inR_iff.1 hh
    obtain ⟨n, rfl⟩ : ∃ n : Nat, h = (n : Int) := ⟨h.toNat, by omega⟩
    exact refRun_ok t A cap l sp n B w hB hz hl hE
  · exact refRun_bad t A cap l sp h B w hB hz hl hE

end Go.Proofs.Ytfampdiompjmeaa
