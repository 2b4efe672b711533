/-
  The program's Run.
-/
import Derived.Test.YtfampdiompjmeaaCeI
import Derived.Test.YtfampdiompjmeaaCeBv
namespace Go.Proofs.Ytfampdiompjmeaa
open Go.RowKit Go.Shelf
open R6 (done done_ne done_me upd_ne upd_me)

attribute [local go_sem] gives

theorem allB_iff {lo hi n : Int} : allB lo hi [n] = true ↔ lo ≤ n ∧ n ≤ hi := by simp [allB, inR_iff]
theorem okPole_row {zs : List Int} (h : okPole zs = true) : okRow zs := by
  simp only [okPole, Bool.and_eq_true, allB_iff] at h
  obtain ⟨⟨h1, h2⟩, h3⟩ := h
  have hb : ∀ k, 0 ≤ atR zs k ∧ atR zs k ≤ 1000 := fun k => by
    by_cases hk : k < zs.length
    · have : zs[k] ∈ zs := List.getElem_mem hk
      have := (List.all_eq_true.1 h3) _ this
      rw [inR_iff] at this
      simp only [atR, List.getElem?_eq_getElem hk, Option.getD_some]
      exact this
    · rw [atR_out hk]; omega
  exact ⟨by omega, by omega, fun k => (hb k).1, fun k => by have := (hb k).2; omega⟩
theorem okBatch_good {t : Bt} {ws : List (List Int)} (h : okBatch t ws = true) : GoodS t.water (t.borax, ws) ∧ 1 ≤ t.lo ∧ t.lo ≤ t.hi ∧ t.hi ≤ 250 ∧ 1 ≤ ws.length ∧ 1 ≤ t.need ∧ t.need ≤ 1000 := by
  simp only [okBatch, okHead, Bool.and_eq_true, allB_iff, okS, decide_eq_true_eq] at h
  obtain ⟨⟨⟨⟨⟨h1, h2⟩, h3⟩, h4⟩, h5, h6⟩, h7⟩ := h
  have h6' : 1 ≤ t.lo ∧ t.hi ≤ 250 := by
    simp only [allB, List.all_cons, List.all_nil, Bool.and_true, Bool.and_eq_true, inR_iff] at h6
    omega
  refine ⟨⟨h1.1, h1.2, h2.1, ?_, ?_, fun r hr => okPole_row ((List.all_eq_true.1 h4) r hr)⟩, h6'.1, h5, h6'.2, by omega, h7.1, h7.2⟩
  · simp only
    have : t.borax / t.water < 10001 := by
      refine Int.ediv_lt_of_lt_mul (by omega) ?_
      have : 10001 * 10 ≤ 10001 * t.water := Int.mul_le_mul_of_nonneg_left h1.1 (by omega)
      omega
    omega
  · simp only; omega

/-- What Run returns. -/
def runE (t : Bt) (ws : List (List Int)) (sp h : Int) : Int := if okBatch t ws = true then (if allB t.lo t.hi [sp] = true ∧ allB 0 300 [h] = true then 0 else 2) else 40
def runB (t : Bt) (ws : List (List Int)) (sp h : Int) : Int := if runE t ws sp h = 0 then (runS t.water sp (t.borax, ws) h.toNat).1 else 0
def runR (t : Bt) (ws : List (List Int)) (sp h : Int) : List (List Int) := if runE t ws sp h = 0 then (runS t.water sp (t.borax, ws) h.toNat).2 else []
def RunPost (w : World) (t : Bt) (ws : List (List Int)) (sp h : Int) (e : Ending) (w' : World) : Prop :=
  ∃ A c ls, e = .returned (.tuple #[.int .i64 (runB t ws sp h), .slice A ls.length c, .int .i64 (runE t ws sp h)]) ∧ rws ls = runR t ws sp h ∧ OwnR w' w.heap.size (.slice A ls.length c) ls ∧ Below w.heap.size w w'
theorem ownR_nil (W : World) (base : Nat) : OwnR W base (.slice none 0 0) [] := ⟨⟨rfl, .inl ⟨rfl, rfl⟩⟩, fun s hs => by cases hs⟩

/-- Where the last region is. -/
structure RunC (w : World) (x : Nat) (V : List Value) (ws : List (List Int)) (kc tc : Nat) (D : Nat → Bool) (σ : Nat → Value) (W : World) : Prop where
  bel : Below w.heap.size w W
  lb : w.heap.size ≤ W.heap.size
  box : W.heap[x]? = some (.cells V.toArray 92 (0, 0))
  res : D kc = true → ∃ A c ls, σ tc = .slice A ls.length c ∧ rws ls = ws ∧ OwnR W w.heap.size (.slice A ls.length c) ls
def runK (kc tc k : Nat) (d : Option Nat) : Bool := !(k == kc || d == some tc)
section
variable {w W W' : World} {x : Nat} {V : List Value} {ws : List (List Int)} {kc tc : Nat} {D : Nat → Bool} {σ : Nat → Value}
theorem RunC.move {k : Nat} {d : Option Nat} {u : Value} (h : RunC w x V ws kc tc D σ W) (hk : runK kc tc k d = true) : RunC w x V ws kc tc (done D k) (R4.upd σ d u) W := by
  simp only [runK, Bool.not_eq_true', Bool.or_eq_false_iff, beq_eq_false_iff_ne, ne_eq] at hk
  have e1 := done_ne (D := D) (k := k) (j := kc) (by omega)
  have u1 := upd_ne (ρ := σ) (v := u) hk.2
  exact ⟨h.bel, h.lb, h.box, by rw [e1, u1]; exact h.res⟩
end

set_option maxRecDepth 100000 in
set_option maxHeartbeats 8000000 in
theorem run_bad (t : Bt) (A : Option Addr) (cap : Nat) (l : List Sl) (sp h : Int) (B : Nat) (w : World) (hB : B ≤ w.heap.size) (hz : Rows w B A l) (hl : shortL l) (hb : okBatch t (rws l) = false) :
    Calls Try.prog 17 #[.agg (btcells t (.slice A l.length cap)), .int .i64 sp, .int .i64 h] w (RunPost w t (rws l) sp h) := by
  have hE : runE t (rws l) sp h = 40 := by simp [runE, hb]
  have hBB : runB t (rws l) sp h = 0 := by simp [runB, hE]
  have hRR : runR t (rws l) sp h = [] := by simp [runR, hE]
  have hck := fun W (hW : Below w.heap.size w W) => check_any t A cap l B W (Nat.le_trans hB hW.size) (hz.below (hW.mono hB)) hl
  simp only [checkE, hb, Bool.false_eq_true, if_false] at hck
  have HCK := Lib.hid hck
  have HR := Lib.hid (And.intro hE (And.intro hBB hRR))
  clear hck hE hBB hRR hz hl hb
  unfold btcells at HCK ⊢
  go_enter Try.func17, Try.ntmps17
  go_wp2_with (go_at_call 23; refine (HCK.out _ (grow1 w _)).mono ?_; rintro e w1 ⟨rfl, hB1⟩; have H1 := Lib.hid ((grow1 w _).trans (hB1.mono (by simp))); clear hB1)
  go_ret3
  exact ⟨none, 0, [], by rw [HR.out.1, HR.out.2.1]; rfl, by rw [HR.out.2.2]; rfl, ownR_nil _ _, H1.out⟩

set_option maxRecDepth 100000 in
set_option maxHeartbeats 8000000 in
theorem run_arg (t : Bt) (A : Option Addr) (cap : Nat) (l : List Sl) (sp h : Int) (B : Nat) (w : World) (hB : B ≤ w.heap.size) (hz : Rows w B A l) (hl : shortL l) (hb : okBatch t (rws l) = true) (hno : ¬ (allB t.lo t.hi [sp] = true ∧ allB 0 300 [h] = true)) :
    Calls Try.prog 17 #[.agg (btcells t (.slice A l.length cap)), .int .i64 sp, .int .i64 h] w (RunPost w t (rws l) sp h) := by
  have hE : runE t (rws l) sp h = 2 := by simp only [runE, hb, if_true, if_neg hno]
  have hBB : runB t (rws l) sp h = 0 := by simp [runB, hE]
  have hRR : runR t (rws l) sp h = [] := by simp [runR, hE]
  have hck := fun W (hW : Below w.heap.size w W) => check_any t A cap l B W (Nat.le_trans hB hW.size) (hz.below (hW.mono hB)) hl
  simp only [checkE, hb, if_true] at hck
  have hwi := fun W => within_new t.lo t.hi sp (W.alloc (.cells #[.int .i64 sp] 3)) W.heap.size (alloc_at0 W _)
  have hho := fun W => validHours_any h W
  have HCK := Lib.hid hck
  have HR := Lib.hid (And.intro hE (And.intro hBB hRR))
  clear hck hE hBB hRR hz hl hb
  have h0 : (w.alloc (.cells (btcells t (.slice A l.length cap)) 28)).heap[w.heap.size]? = _ := alloc_at0 _ _
  have HB0 := Lib.hid h0
  clear h0
  unfold btcells at HCK HB0 ⊢
  cases hw : allB t.lo t.hi [sp] with
  | false =>
    rw [hw] at hwi
    have HWI := Lib.hid hwi
    clear hwi hho hno hw
    go_enter Try.func17, Try.ntmps17
    go_wp2_with (first
      | (go_at_call 23; refine (HCK.out _ (grow1 w _)).mono ?_; rintro e w1 ⟨rfl, hB1⟩
         have hc1 := fun i => cell_of_row w1 w.heap.size i _ _ _ ((hB1.block _ (by simp)).trans HB0.out)
         have H1 := Lib.hid ((grow1 w _).trans (hB1.mono (by simp))); clear hB1)
      | (go_at_call 45; refine (HWI.out _).mono ?_; rintro e w2 ⟨rfl, hB2⟩; have H2 := Lib.hid (H1.out.trans ((grow1 w1 _).trans (hB2.mono (by simp)) |>.mono H1.out.size)); clear hB2))
    go_ret3
    exact ⟨none, 0, [], by rw [HR.out.1, HR.out.2.1]; rfl, by rw [HR.out.2.2]; rfl, ownR_nil _ _, H2.out⟩
  | true =>
    have hh : allB 0 300 [h] = false := by
      cases e : allB 0 300 [h] with
      | false => rfl
      | true => exact absurd ⟨hw, e⟩ hno
    rw [hw] at hwi
    rw [hh] at hho
    have HWI := Lib.hid hwi
    have HHO := Lib.hid hho
    clear hwi hho hno hw hh
    go_enter Try.func17, Try.ntmps17
    go_wp2_with (first
      | (go_at_call 23; refine (HCK.out _ (grow1 w _)).mono ?_; rintro e w1 ⟨rfl, hB1⟩
         have hc1 := fun i => cell_of_row w1 w.heap.size i _ _ _ ((hB1.block _ (by simp)).trans HB0.out)
         have H1 := Lib.hid ((grow1 w _).trans (hB1.mono (by simp))); clear hB1)
      | (go_at_call 45; refine (HWI.out _).mono ?_; rintro e w2 ⟨rfl, hB2⟩; have H2 := Lib.hid (H1.out.trans ((grow1 w1 _).trans (hB2.mono (by simp)) |>.mono H1.out.size)); clear hB2)
      | (go_at_call 46; refine (HHO.out _).mono ?_; rintro e w3 ⟨rfl, hB3⟩; have H3 := Lib.hid (H2.out.trans (hB3.mono H2.out.size)); clear hB3))
    go_ret3
    exact ⟨none, 0, [], by rw [HR.out.1, HR.out.2.1]; rfl, by rw [HR.out.2.2]; rfl, ownR_nil _ _, H3.out⟩

set_option maxRecDepth 100000 in
set_option maxHeartbeats 8000000 in
theorem run_ok (t : Bt) (A : Option Addr) (cap : Nat) (l : List Sl) (sp : Int) (h : Nat) (B : Nat) (w : World) (hB : B ≤ w.heap.size) (hz : Rows w B A l) (hl : shortL l) (hb : okBatch t (rws l) = true) (hw : allB t.lo t.hi [sp] = true) (hh : allB 0 300 [(h : Int)] = true) :
    Calls Try.prog 17 #[.agg (btcells t (.slice A l.length cap)), .int .i64 sp, .int .i64 (h : Int)] w (RunPost w t (rws l) sp h) := by
  have hE : runE t (rws l) sp h = 0 := by simp [runE, hb, hw, hh]
  have hBB : runB t (rws l) sp h = (runS t.water sp (t.borax, rws l) h).1 := by simp [runB, hE]
  have hRR : runR t (rws l) sp h = (runS t.water sp (t.borax, rws l) h).2 := by simp [runR, hE]
  obtain ⟨hg, g1, g2, g3, g4, -⟩ := okBatch_good hb
  have hsp := allB_iff.1 hw
  have hh3 := allB_iff.1 hh
  have h4 : l.length ≤ 4 := by have := hg.n4; simpa [rws] using this
  have h6 : ∀ s ∈ l, 1 ≤ s.zs.length ∧ s.zs.length ≤ 6 := fun s hs => by
    have := hg.rows s.zs (by simp only [rws, List.mem_map]; exact ⟨s, hs, rfl⟩)
    exact ⟨this.l1, this.l6⟩
  have hck := fun W (hW : Below w.heap.size w W) => check_any t A cap l B W (Nat.le_trans hB hW.size) (hz.below (hW.mono hB)) hl
  simp only [checkE, hb, if_true] at hck
  have hwi := fun W => within_new t.lo t.hi sp (W.alloc (.cells #[.int .i64 sp] 3)) W.heap.size (alloc_at0 W _)
  have hho := fun W => validHours_any h W
  rw [hw] at hwi
  rw [hh] at hho
  have hat := fun W (hW : Below w.heap.size w W) => atWork_any t A cap l B W (Nat.le_trans hB hW.size) (hz.below (hW.mono hB)) h4 h6
  have haf := fun W (hW : Below w.heap.size w W) => after_any t A cap l sp (t.borax, rws l) h B W (Nat.le_trans hB hW.size) (hz.below (hW.mono hB)) (by omega) (by omega) hg rfl (by omega)
  have hce := fun W (hW : Below w.heap.size w W) => cells_any t A cap l (runS t.water sp (t.borax, rws l) h) B W (Nat.le_trans hB hW.size) (hz.below (hW.mono hB)) h4 (fun s hs => (h6 s hs).2) (lens_run _ _ _ _)
  have hlen : (bs t (.slice A l.length cap) (runS t.water sp (t.borax, rws l) h)).length = 30 := bv_len _ _ _ _
  have hone : ∀ v ∈ bs t (.slice A l.length cap) (runS t.water sp (t.borax, rws l) h), v.oneCell' = true := bv_one _ _ _ _ _ _
  have hV1 : (bs t (.slice A l.length cap) (runS t.water sp (t.borax, rws l) h)).toArray[1]? = some (.int .i64 (runS t.water sp (t.borax, rws l) h).1) := rfl
  rw [← hBB] at hV1
  unfold CellsPost at hce
  rw [← hRR] at hce
  generalize bs t (.slice A l.length cap) (runS t.water sp (t.borax, rws l) h) = V at haf hce hlen hone hV1
  generalize bs t (.slice A l.length cap) (t.borax, rws l) = V0 at hat haf
  have HCK := Lib.hid hck
  have HF := Lib.hid (And.intro hat (And.intro haf hce))
  have HV := Lib.hid (And.intro hlen (And.intro hone (And.intro hV1 hE)))
  have HWI := Lib.hid hwi
  have HHO := Lib.hid hho
  clear hck hBB hRR hz hl hb hat haf hce hlen hone hV1 hwi hho hw hh hg g1 g2 g3 g4 hsp hh3 h4 h6 hE
  have h0 : (w.alloc (.cells (btcells t (.slice A l.length cap)) 28)).heap[w.heap.size]? = _ := alloc_at0 _ _
  have HB0 := Lib.hid h0
  clear h0
  unfold btcells at HCK HB0 HF ⊢
  go_enter Try.func17, Try.ntmps17
  go_wp2_with (first
    | (go_at_call 23; refine (HCK.out _ (grow1 w _)).mono ?_; rintro e w1 ⟨rfl, hB1⟩
       have hc1 := fun i => cell_of_row w1 w.heap.size i _ _ _ ((hB1.block _ (by simp)).trans HB0.out)
       have hb1 := (hB1.block _ (by simp)).trans HB0.out
       have H1 := Lib.hid (And.intro ((grow1 w _).trans (hB1.mono (by simp))) hb1); clear hB1 hb1)
    | (go_at_call 45; refine (HWI.out _).mono ?_; rintro e w2 ⟨rfl, hB2⟩; have H2 := Lib.hid ((grow1 w1 _).trans (hB2.mono (by simp))); clear hB2)
    | (go_at_call 46; refine (HHO.out _).mono ?_; rintro e w3 ⟨rfl, hB3⟩
       have hB13 := H2.out.trans (hB3.mono H2.out.size)
       have hc3 := fun i => cell_of_row w3 w.heap.size i _ _ _ ((hB13.block _ (lt_of_heap H1.out.2)).trans H1.out.2)
       have H3 := Lib.hid (H1.out.1.trans (hB13.mono H1.out.1.size)); clear hB3 hc1 hB13)
    | (go_at_call 47; refine (HF.out.1 _ H3.out).mono ?_; rintro e w4 ⟨rfl, hB4⟩; have H4 := Lib.hid (H3.out.trans (hB4.mono H3.out.size)); clear hB4 hc3)
    | (go_at_call 48; refine (HF.out.2.1 _ H4.out).mono ?_; rintro e w5 ⟨rfl, hB5⟩; have H5 := Lib.hid (H4.out.trans (hB5.mono H4.out.size)); clear hB5)
    | (show wpList _ _ _ (Oper.mk none (Op.store _ (Operand.tmp 10) (Operand.tmp 31)) _ _ _ _ :: _) _ _
       refine wpList_store_blk 92 (.tmp 10) (.tmp 31) (cs := V) (L := [.int .i64 0, .int .i64 0, .slice none 0 0, .int .i64 0, .int .i64 0, .int .i64 0, .int .i64 0, .int .i64 0, .int .i64 0, .int .i64 0, .int .i64 0, .int .i64 0, .int .i64 0, .int .i64 0, .int .i64 0, .int .i64 0, .int .i64 0, .int .i64 0, .int .i64 0, .int .i64 0, .int .i64 0, .int .i64 0, .int .i64 0, .int .i64 0, .int .i64 0, .int .i64 0, .int .i64 0, .int .i64 0, .int .i64 0, .int .i64 0]) rfl rfl rfl rfl rfl (alloc_at0 _ _) (by rw [HV.out.1]; simp) HV.out.2.1 (by rw [HV.out.1]; exact rowBatch) ?_
       intro w6 hP6 hM6
       rw [splice_whole (by rw [HV.out.1]; rfl)] at hM6
       have H6 := Lib.hid (And.intro ((H5.out.alloc H5.out.size _).trans (hP6.below H5.out.size)) hM6)
       clear hP6 hM6))
  have hst : RunC w w5.heap.size V (runR t (rws l) sp h) 4 36 (fun _ => false) (fun _ => undef) w6.drew := ⟨H6.out.1.drew, H6.out.1.size, H6.out.2, fun e => by cases e⟩
  have HST := Lib.hid hst
  clear hst
  refine R6.wp_walk (C := RunC w w5.heap.size V (runR t (rws l) sp h) 4 36) 37 (by kernel_rfl) (by kernel_rfl) rfl ⟨HST.out.bel, HST.out.lb, HST.out.box, fun e => by cases e⟩ ?_
  simp only []
  repeat (first
    | (refine' R6.WalkR.det (fun _ => rfl) (fun D ρ W hK hC => ?_) ?_
       rotate_left
       · have hcb := (cell_of_row W w5.heap.size 1 _ _ _ hC.box).trans HV.out.2.2.1
         have HC := Lib.hid hC
         clear hC hK
         go_simp
         first
           | with_reducible exact ⟨rfl, HC.out.move (by decide)⟩
           | fail
       simp only [Act.put, List.setIfInBounds_toArray, List.set_cons_succ, List.set_cons_zero]))
  refine' R6.WalkR.det (c := .agg V.toArray) (fun _ => rfl) (fun D ρ W hK hC => ?_) ?_
  · have HC := Lib.hid hC
    clear hC hK
    refine gives_load_blk 92 (.tmp 10) rfl rfl HC.out.box V (fun j v hj => by rw [Nat.zero_add, List.getElem?_toArray]; exact hj) (by rw [HV.out.1]; exact rowBatch) ⟨rfl, HC.out.move (by decide)⟩
  simp only [Act.put, List.setIfInBounds_toArray, List.set_cons_succ, List.set_cons_zero]
  refine' R6.WalkR.nd (fun _ => rfl) rfl (fun D ρ W hK hC => ?_) ?_
  · have HC := Lib.hid hC
    clear hC hK
    go_simp
    go_at_call 49
    refine (HF.out.2.2 W HC.out.bel).mono ?_
    rintro e W1 ⟨A', c', ls, rfl, hr, hO, hB1⟩
    exact ⟨_, rfl, HC.out.bel.trans (hB1.mono HC.out.lb), Nat.le_trans HC.out.lb hB1.size, (hB1.block _ (lt_of_heap HC.out.box)).trans HC.out.box, fun _ => ⟨A', c', ls, R6.upd_me, hr, hO.less HC.out.lb⟩⟩
  simp only [Act.put, List.setIfInBounds_toArray, List.set_cons_succ, List.set_cons_zero]
  repeat (first
    | (refine' R6.WalkR.det (fun _ => rfl) (fun D ρ W hK hC => ?_) ?_
       rotate_left
       · skip
         have HC := Lib.hid hC
         clear hC hK
         go_simp
         first
           | with_reducible exact ⟨rfl, HC.out.move (by decide)⟩
           | fail
       simp only [Act.put, List.setIfInBounds_toArray, List.set_cons_succ, List.set_cons_zero]))
  refine' R6.WalkR.fn 36 (fun v => v) (fun _ => rfl) (by decide +kernel) (fun D ρ W hK hC => ?_) ?_
  · have HC := Lib.hid hC
    clear hC hK
    go_simp
    first
      | exact HC.out.move (by decide)
      | exact ⟨rfl, HC.out.move (by decide)⟩
  simp only [Act.put, List.setIfInBounds_toArray, List.set_cons_succ, List.set_cons_zero]
  repeat (first
    | (refine' R6.WalkR.det (fun _ => rfl) (fun D ρ W hK hC => ?_) ?_
       rotate_left
       · skip
         have HC := Lib.hid hC
         clear hC hK
         go_simp
         first
           | with_reducible exact ⟨rfl, HC.out.move (by decide)⟩
           | fail
       simp only [Act.put, List.setIfInBounds_toArray, List.set_cons_succ, List.set_cons_zero]))
  refine R6.WalkR.nil (fun D ρ W hD' hC => ?_)
  obtain ⟨A', c', ls, hv, hr, hO⟩ := hC.res (hD' 4 (by decide))
  rw [hv]
  have HE := Lib.hid (And.intro hr (And.intro hO hC.bel))
  clear hC hD' hr hO hv
  go_wp2
  go_ret3
  exact ⟨A', c', ls, by rw [HV.out.2.2.2]; rfl, HE.out.1, HE.out.2.1, HE.out.2.2⟩

theorem run_any (t : Bt) (A : Option Addr) (cap : Nat) (l : List Sl) (sp h : Int) (B : Nat) (w : World) (hB : B ≤ w.heap.size) (hz : Rows w B A l) (hl : shortL l) :
    Calls Try.prog 17 #[.agg (btcells t (.slice A l.length cap)), .int .i64 sp, .int .i64 h] w (RunPost w t (rws l) sp h) := by
  cases hb : okBatch t (rws l) with
  | false => exact run_bad t A cap l sp h B w hB hz hl hb
  | true =>
    by_cases hc : allB t.lo t.hi [sp] = true ∧ allB 0 300 [h] = true
    · have h0 := allB_iff.1 hc.2
      obtain ⟨n, rfl⟩ : ∃ n : Nat, h = (n : Int) := ⟨h.toNat, by omega⟩
      exact run_ok t A cap l sp n B w hB hz hl hb hc.1 hc.2
    · exact run_arg t A cap l sp h B w hB hz hl hb hc

end Go.Proofs.Ytfampdiompjmeaa
