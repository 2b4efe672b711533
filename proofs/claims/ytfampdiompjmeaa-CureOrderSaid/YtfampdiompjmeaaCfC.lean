/-
  The law CureKept.
-/
import Derived.Test.YtfampdiompjmeaaCfB
namespace Go.Proofs.Ytfampdiompjmeaa
open Go.RowKit Go.Shelf
open R6 (done done_ne done_me upd_ne upd_me)

attribute [local go_sem] gives

theorem tup3_0 (a b c : Value) : tupAt (.tuple #[a, b, c]) 0 = a := rfl
theorem tup3_1 (a b c : Value) : tupAt (.tuple #[a, b, c]) 1 = b := rfl
theorem tup3_2 (a b c : Value) : tupAt (.tuple #[a, b, c]) 2 = c := rfl

/-- The batch lies in its box. -/
structure BoxW (w : World) (cs : Array Value) (W : World) : Prop where
  bel : Below w.heap.size w W
  b0 : W.heap[w.heap.size]? = some (.cells cs 28 (0, 0))
  lt : w.heap.size < W.heap.size
theorem BoxW.next {w W W' : World} {cs : Array Value} (h : BoxW w cs W) (hg : Grows W W') : BoxW w cs W' :=
  ⟨h.bel.trans (hg.mono h.bel.size), (hg.block _ h.lt).trans h.b0, Nat.lt_of_lt_of_le h.lt hg.size⟩
theorem BoxW.start (w : World) (cs : Array Value) : BoxW w cs (w.alloc (.cells cs 28)) := ⟨grow1 _ _, alloc_at0 _ _, by simp⟩

theorem pickL_nat {lo hi n : Int} (h : lo ≤ hi) : allB lo hi [pickL lo hi n] = true := by
  have := pickL_bnd (n := n) h
  exact allB_iff.2 this
theorem mod301 (h : Int) : 0 ≤ h % 301 ∧ h % 301 ≤ 300 := by omega

/-- What a run of a valid batch tells. -/
structure RunIs (t : Bt) (ws : List (List Int)) (sp : Int) (n : Nat) : Prop where
  e : runE t ws sp n = 0
  b : runB t ws sp n = (runS t.water sp (t.borax, ws) n).1
  r : runR t ws sp n = (runS t.water sp (t.borax, ws) n).2
  good : GoodS t.water (runS t.water sp (t.borax, ws) n)
  mass : (runS t.water sp (t.borax, ws) n).1 + massL (runS t.water sp (t.borax, ws) n).2 = t.borax + massL ws
  len : lens (runS t.water sp (t.borax, ws) n).2 = lens ws
theorem runIs_of {t : Bt} {ws : List (List Int)} {sp : Int} {n : Nat} (hb : okBatch t ws = true) (h1 : t.lo ≤ sp) (h2 : sp ≤ t.hi) (hn : n ≤ 300) : RunIs t ws sp n := by
  obtain ⟨hg, g1, g2, g3, -⟩ := okBatch_good hb
  have hE : runE t ws sp n = 0 := by
    have e1 : allB t.lo t.hi [sp] = true := allB_iff.2 ⟨h1, h2⟩
    have e2 : allB 0 300 [(n : Int)] = true := allB_iff.2 ⟨by omega, by omega⟩
    simp [runE, hb, e1, e2]
  exact ⟨hE, by simp [runB, hE], by simp [runR, hE], runS_good (by omega) (by omega) hg n, mass_run _ _ _ _, lens_run _ _ _ _⟩
theorem massL_bnd {W : Int} {st : St} (h : GoodS W st) : 0 ≤ massL st.2 ∧ massL st.2 ≤ 240000 := by
  have key : ∀ (ws : List (List Int)), (∀ r ∈ ws, okRow r) → 0 ≤ massL ws ∧ massL ws ≤ 60000 * ws.length := by
    intro ws
    induction ws with
    | nil => intro _; simp [massL]
    | cons r ws ih =>
      intro hr
      have i1 := ih (fun x hx => hr x (List.mem_cons_of_mem _ hx))
      have ho := hr r (List.mem_cons_self ..)
      have hs := sum_take_bnd (lo := 0) (hi := 10000) (zs := r) (fun k hk => ⟨ho.b0 k, ho.b1 k⟩) r.length (Nat.le_refl _)
      rw [List.take_length] at hs
      have hl := ho.l6
      unfold massL at i1 ⊢
      simp only [List.map_cons, List.sum_cons, List.length_cons]
      omega
  have := key st.2 h.rows
  have := h.n4
  omega

set_option maxRecDepth 100000 in
set_option maxHeartbeats 8000000 in
theorem cureKept_no (t : Bt) (A : Option Addr) (cap : Nat) (l : List Sl) (s h : Int) (w : World) (hz : Rows w w.heap.size A l) (hll : l.length ≤ 9223372036854775807) (hl : ∀ s ∈ l, s.zs.length ≤ 9223372036854775807) (hno : okBatch t (rws l) = false) :
    Calls Try.prog 7 #[.agg (btcells t (.slice A l.length cap)), .int .u8 s, .int .u16 h] w fun e w' => e = .returned (.bool true) ∧ Below w.heap.size w w' := by
  have hrd := fun W (hW : Below w.heap.size w W) => ready4_any t A cap l w.heap.size W hW.size (hz.below hW) hll hl
  rw [hno] at hrd
  have h0 := BoxW.start w (btcells t (.slice A l.length cap))
  have HRD := Lib.hid hrd
  have H0 := Lib.hid h0
  clear hrd hz hll hl hno h0
  unfold btcells at H0 HRD ⊢
  go_enter Try.func7, Try.ntmps7
  go_wp2_with (first
    | (go_at_call 14; refine (alive_any _).mono ?_; rintro e w2 ⟨rfl, hB2⟩
       have h2 := H0.out.next hB2
       have hc2 := fun i => cell_of_row w2 w.heap.size i _ _ _ h2.b0
       have H2 := Lib.hid h2; clear hB2 h2)
    | (go_at_call 36; refine (HRD.out w2 H2.out.bel).mono ?_; rintro e w3 ⟨rfl, hB3⟩; have H3 := Lib.hid (H2.out.next hB3); clear hB3))
  go_ret
  exact ⟨rfl, H3.out.bel⟩

set_option maxRecDepth 100000 in
set_option maxHeartbeats 8000000 in
theorem cureKept_main (t : Bt) (A : Option Addr) (cap : Nat) (l : List Sl) (s h : Int) (w : World) (hz : Rows w w.heap.size A l) (hok : okBatch t (rws l) = true) (s0 : 0 ≤ s) (s1 : s < 256) (h0 : 0 ≤ h) (h1 : h < 65536) :
    Calls Try.prog 7 #[.agg (btcells t (.slice A l.length cap)), .int .u8 s, .int .u16 h] w fun e w' => e = .returned (.bool true) ∧ Below w.heap.size w w' := by
  have hsh := okBatch_shortL hok
  obtain ⟨hgd, g1, g2, g3, g4, -⟩ := okBatch_good hok
  have hl4 : l.length ≤ 4 := by have := hgd.n4; simpa [rws] using this
  have hrd := fun W (hW : Below w.heap.size w W) => ready4_any t A cap l w.heap.size W hW.size (hz.below hW) (by omega) (fun x hx => by have := hsh.2 x hx; omega)
  rw [hok] at hrd
  have hpk := pickL_bnd (n := s) g2
  have hm := mod301 h
  obtain ⟨n, hn⟩ : ∃ n : Nat, h % 301 = (n : Int) := ⟨(h % 301).toNat, by omega⟩
  have hpi := fun W => pick_any t.lo t.hi s (by omega) g2 (by omega) s0 (by omega) W
  have hRI := runIs_of (ws := rws l) (sp := pickL t.lo t.hi s) (n := n) hok hpk.1 hpk.2 (by omega)
  have hru := fun W (hW : Below w.heap.size w W) => run_any t A cap l (pickL t.lo t.hi s) n w.heap.size W hW.size (hz.below hW) hsh
  unfold RunPost at hru
  generalize pickL t.lo t.hi s = sp at hpi hRI hru
  have hce := fun W (hW : Below w.heap.size w W) => cells4_any A cap l w.heap.size W hW.size (hz.below hW) hl4 hgd.rows
  have hM := massL_bnd hgd
  have hM' := massL_bnd hRI.good
  have hN0 := hRI.good.b0
  have hmass := hRI.mass
  have hbx := hgd.b0
  simp only at hbx hM
  have hbo : t.borax ≤ 100000 := by
    simp only [okBatch, okHead, Bool.and_eq_true, allB_iff] at hok
    omega
  have hE := hRI.e
  have hB := hRI.b
  have hR := hRI.r
  have hlen := hRI.len
  have hgr := hRI.good
  have hn4 := hRI.good.n4
  generalize runS t.water sp (t.borax, rws l) n = st at hmass hE hB hR hlen hM' hN0 hgr hn4
  rw [hB, hE, hR] at hru
  have hnew : ∀ ls : List Sl, rws ls = st.2 → ls.length = l.length ∧ ∀ k (hk : k < l.length) (hk' : k < ls.length), ls[k].zs.length = l[k].zs.length := fun ls e => by
    have e1 : lens (rws ls) = lens (rws l) := by rw [e]; exact hlen
    have e2 := lens_len e1
    refine ⟨by simpa [rws] using e2, fun k hk hk' => ?_⟩
    have := lens_at e1 k
    simpa [rowAt, rws, hk, hk'] using this
  have hst1 : st.1 = t.borax + massL (rws l) - massL st.2 := by omega
  rw [hst1] at hru hN0
  have hx1 : IntKind.u32.wrap s = s := IntWalk.u32_in _ (by omega)
  have hx2 : IntKind.i64.wrap h = h := IntWalk.i64_in _ (by omega)
  have hx3 : h.tmod 301 = (n : Int) := by rw [Int.tmod_eq_emod_of_nonneg h0, hn]
  have hx4 : IntKind.i64.wrap (n : Int) = n := IntWalk.i64_in _ (by omega)
  have hce2 := fun (ls : List Sl) (A' : Option Addr) (c' : Nat) (W : World) (e : rws ls = st.2) (hR' : Rows W W.heap.size A' ls) => by
    have := cells4_any A' c' ls W.heap.size W (Nat.le_refl _) hR' (by have := hnew ls e; omega) (by rw [e]; exact hgr.rows)
    rw [e] at this
    exact this
  generalize massL st.2 = M' at hru hM' hmass hst1 hN0 hce2
  generalize massL (rws l) = M at hru hM hmass hst1 hN0 hce
  obtain ⟨m0, m1⟩ := hM
  obtain ⟨n0, n1⟩ := hM'
  have HF := Lib.hid (And.intro hrd (And.intro hpi (And.intro hru (And.intro hce (And.intro hce2 hnew)))))
  have HZ := Lib.hid hz
  have hb0 := BoxW.start w (btcells t (.slice A l.length cap))
  have H0 := Lib.hid hb0
  clear hrd hpi hru hce hce2 hnew hz hok hsh hgd g1 g2 g3 g4 hpk hm hn hRI hmass hst1 hE hB hR hlen hgr hn4 hb0
  unfold btcells at H0 HF ⊢
  go_enter Try.func7, Try.ntmps7
  go_wp2_with (first
    | (go_at_call 14; refine (alive_any _).mono ?_; rintro e w2 ⟨rfl, hB2⟩
       have h2 := H0.out.next hB2
       have hc2 := fun i => cell_of_row w2 w.heap.size i _ _ _ h2.b0
       have H2 := Lib.hid h2; clear hB2 h2)
    | (go_at_call 36; refine (HF.out.1 w2 H2.out.bel).mono ?_; rintro e w3 ⟨rfl, hB3⟩; have H3 := Lib.hid (H2.out.next hB3); clear hB3 hc2))
  refine R6.wp_walk (C := ResC w.heap.size w w.heap.size #[.int .i64 t.water, .int .i64 t.borax, .slice A l.length cap, .int .i64 t.lo, .int .i64 t.hi, .int .i64 t.need] 28 (fun v W => ∃ A' c' ls, v = .tuple #[.int .i64 (t.borax + M - M'), .slice A' ls.length c', .int .i64 0] ∧ rws ls = st.2 ∧ OwnR W w.heap.size (.slice A' ls.length c') ls) 9 33) 95 (by kernel_rfl) (by kernel_rfl) rfl
    (ResC.start H3.out.bel H3.out.bel.size H3.out.b0 rfl) ?_
  simp only []
  repeat (first
    | (refine' R6.WalkR.det (fun _ => rfl) (fun D ρ W hK hC => ?_) ?_
       rotate_left
       · have hcb := fun i => cell_of_row W w.heap.size i _ _ _ hC.box
         have HC := Lib.hid hC
         clear hC hK
         go_simp
         first
           | with_reducible exact ⟨rfl, HC.out.move (by decide)⟩
           | (go_at_call 37; refine (HF.out.2.1 W).mono ?_; rintro e W1 ⟨rfl, hB1⟩; exact ⟨_, rfl, rfl, HC.out.next hB1 (by decide) (fun v ⟨a, b, c, d, e, f⟩ => ⟨a, b, c, d, e, f.grows hB1⟩)⟩)
       simp only [Act.put, List.setIfInBounds_toArray, List.set_cons_succ, List.set_cons_zero]))
  refine' R6.WalkR.nd (fun _ => rfl) rfl (fun D ρ W hK hC => ?_) ?_
  · have HC := Lib.hid hC
    clear hC hK
    go_simp
    go_at_call 17
    refine (HF.out.2.2.1 W HC.out.bel).mono ?_
    rintro e W1 ⟨A', c', ls, rfl, hr, hO, hB1⟩
    exact ⟨_, rfl, HC.out.made hB1 ⟨A', c', ls, rfl, hr, hO.less HC.out.lb⟩⟩
  simp only [Act.put, List.setIfInBounds_toArray, List.set_cons_succ, List.set_cons_zero]
  refine' R6.WalkR.fn 33 (fun v => v) (fun _ => rfl) (by first | decide +kernel | (dsimp only; decide +kernel)) (fun D ρ W hK hC => ?_) ?_
  · obtain ⟨A', c', ls, hv, -⟩ := hC.res (hK.pre 9 (by first | decide +kernel | (dsimp only; decide +kernel)))
    have HC := Lib.hid hC
    clear hC hK
    go_simp
    first
      | exact HC.out.move (by decide)
      | exact ⟨by rw [hv]; rfl, HC.out.move (by decide)⟩
      | exact ⟨rfl, HC.out.move (by decide)⟩
  simp only [Act.put, List.setIfInBounds_toArray, List.set_cons_succ, List.set_cons_zero]
  refine' R6.WalkR.fn 33 (fun v => tupAt v 0) (fun _ => rfl) (by first | decide +kernel | (dsimp only; decide +kernel)) (fun D ρ W hK hC => ?_) ?_
  · obtain ⟨A', c', ls, hv, -⟩ := hC.res (hK.pre 9 (by first | decide +kernel | (dsimp only; decide +kernel)))
    have HC := Lib.hid hC
    clear hC hK
    go_simp
    first
      | exact HC.out.move (by decide)
      | exact ⟨by rw [hv]; rfl, HC.out.move (by decide)⟩
      | exact ⟨rfl, HC.out.move (by decide)⟩
  simp only [Act.put, List.setIfInBounds_toArray, List.set_cons_succ, List.set_cons_zero]
  refine' R6.WalkR.fn 33 (fun v => tupAt v 1) (fun _ => rfl) (by first | decide +kernel | (dsimp only; decide +kernel)) (fun D ρ W hK hC => ?_) ?_
  · obtain ⟨A', c', ls, hv, -⟩ := hC.res (hK.pre 9 (by first | decide +kernel | (dsimp only; decide +kernel)))
    have HC := Lib.hid hC
    clear hC hK
    go_simp
    first
      | exact HC.out.move (by decide)
      | exact ⟨by rw [hv]; rfl, HC.out.move (by decide)⟩
      | exact ⟨rfl, HC.out.move (by decide)⟩
  simp only [Act.put, List.setIfInBounds_toArray, List.set_cons_succ, List.set_cons_zero]
  refine' R6.WalkR.fn 33 (fun v => tupAt v 2) (fun _ => rfl) (by first | decide +kernel | (dsimp only; decide +kernel)) (fun D ρ W hK hC => ?_) ?_
  · obtain ⟨A', c', ls, hv, -⟩ := hC.res (hK.pre 9 (by first | decide +kernel | (dsimp only; decide +kernel)))
    have HC := Lib.hid hC
    clear hC hK
    go_simp
    first
      | exact HC.out.move (by decide)
      | exact ⟨by rw [hv]; rfl, HC.out.move (by decide)⟩
      | exact ⟨rfl, HC.out.move (by decide)⟩
  simp only [Act.put, List.setIfInBounds_toArray, List.set_cons_succ, List.set_cons_zero]
  refine' R6.WalkR.fn 33 (fun v => tupAt v 0) (fun _ => rfl) (by first | decide +kernel | (dsimp only; decide +kernel)) (fun D ρ W hK hC => ?_) ?_
  · obtain ⟨A', c', ls, hv, -⟩ := hC.res (hK.pre 9 (by first | decide +kernel | (dsimp only; decide +kernel)))
    have HC := Lib.hid hC
    clear hC hK
    go_simp
    first
      | exact HC.out.move (by decide)
      | exact ⟨by rw [hv]; rfl, HC.out.move (by decide)⟩
      | exact ⟨rfl, HC.out.move (by decide)⟩
  simp only [Act.put, List.setIfInBounds_toArray, List.set_cons_succ, List.set_cons_zero]
  refine' R6.WalkR.fn 33 (fun v => tupAt v 1) (fun _ => rfl) (by first | decide +kernel | (dsimp only; decide +kernel)) (fun D ρ W hK hC => ?_) ?_
  · obtain ⟨A', c', ls, hv, -⟩ := hC.res (hK.pre 9 (by first | decide +kernel | (dsimp only; decide +kernel)))
    have HC := Lib.hid hC
    clear hC hK
    go_simp
    first
      | exact HC.out.move (by decide)
      | exact ⟨by rw [hv]; rfl, HC.out.move (by decide)⟩
      | exact ⟨rfl, HC.out.move (by decide)⟩
  simp only [Act.put, List.setIfInBounds_toArray, List.set_cons_succ, List.set_cons_zero]
  refine' R6.WalkR.fn 33 (fun v => tupAt v 2) (fun _ => rfl) (by first | decide +kernel | (dsimp only; decide +kernel)) (fun D ρ W hK hC => ?_) ?_
  · obtain ⟨A', c', ls, hv, -⟩ := hC.res (hK.pre 9 (by first | decide +kernel | (dsimp only; decide +kernel)))
    have HC := Lib.hid hC
    clear hC hK
    go_simp
    first
      | exact HC.out.move (by decide)
      | exact ⟨by rw [hv]; rfl, HC.out.move (by decide)⟩
      | exact ⟨rfl, HC.out.move (by decide)⟩
  simp only [Act.put, List.setIfInBounds_toArray, List.set_cons_succ, List.set_cons_zero]
  refine R6.WalkR.nil (fun D ρ W4 hD' hC => ?_)
  obtain ⟨A', c', ls, hv, hr, hO⟩ := hC.res (hD' 9 (by decide))
  obtain ⟨hnl, hnk⟩ := HF.out.2.2.2.2.2 ls hr
  rw [hnl] at hv
  simp only [hv, tup3_0, tup3_1, tup3_2]
  have hc4 := fun i => cell_of_row W4 w.heap.size i _ _ _ hC.box
  have hcl := HF.out.2.2.2.2.1 ls A' c' W4 hr hO.rows
  rw [hnl] at hcl
  have H4 := Lib.hid (And.intro hC.bel (And.intro hC.box (And.intro hO.rows (And.intro hnl (And.intro hnk hcl)))))
  clear hv hC hD' hr hO hnl hnk hcl
  go_wp2_with (first
    | (go_at_call 38; (with_reducible show Calls _ _ #[.slice A _ _] _ _); refine (HF.out.2.2.2.1 W4 H4.out.1).mono ?_; rintro e w5 ⟨rfl, rfl⟩)
    | (go_at_call 38; refine H4.out.2.2.2.2.2.mono ?_; rintro e w5 ⟨rfl, rfl⟩))
  go_loopg [78] l.length (fun gg s78 wx => ∃ k : Nat, k + gg = l.length ∧ s78 = .int .i64 k ∧ Hid (Grows W4 wx))
  case atStart => exact ⟨0, by omega, rfl, Below.refl _ _⟩
  case round =>
    obtain ⟨k, hkg, rfl, hG⟩ := hrel
    clear hc4
    cases gk with
    | zero =>
      have hkn : ¬ (k : Int) < l.length := by omega
      go_wp2
      go_ret
      exact ⟨rfl, H4.out.1.trans (hG.out.mono H4.out.1.size)⟩
    | succ gg =>
      have hk : k < l.length := by omega
      have hkz : (k : Int) < l.length := by omega
      have hk' : k < ls.length := by rw [H4.out.2.2.2.1]; exact hk
      have hlk := H4.out.2.2.2.2.1 k hk hk'
      obtain ⟨ab, off, hA, hcB, hc⟩ := HZ.out.va (by rw [slvs_len]; omega)
      subst hA
      have hy := hc k _ (slvs_at l k hk)
      obtain ⟨cb, of2, hA2, hcB2, hc2⟩ := H4.out.2.2.1.va (by rw [slvs_len]; omega)
      subst hA2
      have hy2 := hc2 k _ (slvs_at ls k hk')
      generalize l[k] = y at hy hlk
      generalize ls[k] = y2 at hy2 hlk
      obtain ⟨yA, yc, ys⟩ := y
      obtain ⟨zA, zc, zs⟩ := y2
      unfold slv at hy hy2
      simp only at hy hy2 hlk
      rw [hlk] at hy2
      have HY := Lib.hid (And.intro hy (And.intro hcB (And.intro hy2 hcB2)))
      clear hc hc2 hy hy2 hcB hcB2 hlk
      go_wp2
      refine R6.wp_walk (C := RdC wr) 95 (by kernel_rfl) (by kernel_rfl) rfl ⟨(Below.refl _ _).drew, rfl⟩ ?_
      simp only []
      repeat (first
        | (refine' R6.WalkR.det (fun _ => rfl) (fun D ρ W hK hC => ?_) ?_
           rotate_left
           · have hWW : Grows W4 W := hG.out.trans (hC.bel.mono hG.out.size)
             have hcb := fun i => cell_of_row W w.heap.size i _ _ _ ((hWW.block _ (lt_of_heap H4.out.2.1)).trans H4.out.2.1)
             have hca := ((H4.out.1.trans (hWW.mono H4.out.1.size)).cell (p := ⟨ab, off + k, none⟩) HY.out.2.1).trans HY.out.1
             have hcx := (hWW.cell (p := ⟨cb, of2 + k, none⟩) HY.out.2.2.2).trans HY.out.2.2.1
             clear hWW
             have HC := Lib.hid hC
             clear hC hK
             go_simp
             first
               | with_reducible exact ⟨rfl, HC.out.move⟩
               | fail
           simp only [Act.put, List.setIfInBounds_toArray, List.set_cons_succ, List.set_cons_zero]))
      refine R6.WalkR.nil (fun D ρ W' hD' hC => ?_)
      have HG := Lib.hid (hG.out.trans (hC.bel.mono hG.out.size))
      clear hC hD'
      go_wp2
      go_roundg gg
      case measure => omega
      case rel => exact ⟨k + 1, by omega, by go_num, HG.out⟩

end Go.Proofs.Ytfampdiompjmeaa
