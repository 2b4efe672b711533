import Derived.Test.YtnjgibbfcigbfaaGreatQF9
import Derived.Test.YtnjgibbfcigbfaaGreatQF10
import Derived.Test.YtnjgibbfcigbfaaGreatQF3
set_option linter.all false
set_option maxRecDepth 100000
set_option maxHeartbeats 64000000
namespace Go.Proofs.YtnjgibbfcigbfaaGreat
open Go.RowKit Go.Shelf
open R6 (done zAg zAj upd_ne upd_me)
attribute [local go_sem] gives
theorem allB_iff {lo hi n : Int} : allB lo hi [n] = true ↔ lo ≤ n ∧ n ≤ hi := by simp [allB, inR_iff]
theorem zPq {zs : List Int} (h : okPole zs = true) : okRow zs := by
 simp only [okPole, Bool.and_eq_true, allB_iff] at h; obtain ⟨⟨h1, h2⟩, h3⟩ := h
 have hb : ∀ k, 0 ≤ atR zs k ∧ atR zs k ≤ 1000 := fun k => by
  by_cases hk : k < zs.length
  · have : zs[k] ∈ zs := List.getElem_mem hk
    have := (List.all_eq_true.1 h3) _ this; rw [inR_iff] at this; simp only [atR, List.getElem?_eq_getElem hk, Option.getD_some]; exact this
  · rw [zGh hk]; omega
 exact ⟨by omega, by omega, fun k => (hb k).1, fun k => by have := (hb k).2; omega⟩
theorem zCr {t : Bt} {ws : List (List Int)} (h : zA6 t ws = true) : GoodS t.water (t.borax, ws) ∧ 1 ≤ t.lo ∧ t.lo ≤ t.hi ∧ t.hi ≤ 250 ∧ 1 ≤ ws.length ∧ 1 ≤ t.need ∧ t.need ≤ 1000 := by
 simp only [zA6, okHead, Bool.and_eq_true, allB_iff, okS, decide_eq_true_eq] at h; obtain ⟨⟨⟨⟨⟨h1, h2⟩, h3⟩, h4⟩, h5, h6⟩, h7⟩ := h
 have h6' : 1 ≤ t.lo ∧ t.hi ≤ 250 := by
  simp only [allB, List.all_cons, List.all_nil, Bool.and_true, Bool.and_eq_true, inR_iff] at h6; omega
 refine ⟨⟨h1.1, h1.2, h2.1, ?_, ?_, fun r hr => zPq ((List.all_eq_true.1 h4) r hr)⟩, h6'.1, h5, h6'.2, by omega, h7.1, h7.2⟩
 · simp only
   have : t.borax / t.water < 10001 := by
    refine Int.ediv_lt_of_lt_mul (by omega) ?_
    have : 10001 * 10 ≤ 10001 * t.water := Int.mul_le_mul_of_nonneg_left h1.1 (by omega)
    omega
   omega
 · simp only; omega
def runE (t : Bt) (ws : List (List Int)) (sp h : Int) : Int := if zA6 t ws = true then (if allB t.lo t.hi [sp] = true ∧ allB 0 300 [h] = true then 0 else 2) else 40
def runB (t : Bt) (ws : List (List Int)) (sp h : Int) : Int := if runE t ws sp h = 0 then (runS t.water sp (t.borax, ws) h.toNat).1 else 0
def runR (t : Bt) (ws : List (List Int)) (sp h : Int) : List (List Int) := if runE t ws sp h = 0 then (runS t.water sp (t.borax, ws) h.toNat).2 else []
def RunPost (w : World) (t : Bt) (ws : List (List Int)) (sp h : Int) (e : Ending) (w' : World) : Prop :=
 ∃ A c ls, e = .returned (.tuple #[.int .i64 (runB t ws sp h), .slice A ls.length c, .int .i64 (runE t ws sp h)]) ∧ rws ls = runR t ws sp h ∧ OwnR w' w.heap.size (.slice A ls.length c) ls ∧ Grows w w'
theorem zKb (W : World) (base : Nat) : OwnR W base (.slice none 0 0) [] := ⟨⟨rfl, .inl ⟨rfl, rfl⟩⟩, fun s hs => by cases hs⟩
structure RunC (w : World) (x : Nat) (V : List Value) (ws : List (List Int)) (kc tc : Nat) (D : Nat → Bool) (σ : Nat → Value) (W : World) : Prop where
 bel : Grows w W
 lb : w.heap.size ≤ W.heap.size
 box : W.heap[x]? = some (.cells V.toArray 152 (0, 0))
 res : D kc = true → ∃ A c ls, σ tc = .slice A ls.length c ∧ rws ls = ws ∧ OwnR W w.heap.size (.slice A ls.length c) ls
def runK (kc tc k : Nat) (d : Option Nat) : Bool := !(k == kc || d == some tc)
section
variable {w W W' : World} {x : Nat} {V : List Value} {ws : List (List Int)} {kc tc : Nat} {D : Nat → Bool} {σ : Nat → Value}
theorem RunC.move {k : Nat} {d : Option Nat} {u : Value} (h : RunC w x V ws kc tc D σ W) (hk : runK kc tc k d = true) : RunC w x V ws kc tc (done D k) (R4.upd σ d u) W := by
 simp only [runK, Bool.not_eq_true', Bool.or_eq_false_iff, beq_eq_false_iff_ne, ne_eq] at hk; have e1 := zAg (D := D) (k := k) (j := kc) (by omega)
 have u1 := upd_ne (ρ := σ) (v := u) hk.2; exact ⟨h.bel, h.lb, h.box, by rw [e1, u1]; exact h.res⟩
end
theorem run_bad (t : Bt) (A : Option Addr) (cap : Nat) (l : List Sl) (sp h : Int) (B : Nat) (w : World) (hB : B ≤ w.heap.size) (hz : Rows w B A l) (hl : shortL l) (hb : zA6 t (rws l) = false) :
 Calls Tryz.prog 41 #[.agg (zAt t (.slice A l.length cap)), .int .i64 sp, .int .i64 h] w (RunPost w t (rws l) sp h) := by
 have hE : runE t (rws l) sp h = 40 := by simp [runE, hb]
 have hBB : runB t (rws l) sp h = 0 := by simp [runB, hE]
 have hRR : runR t (rws l) sp h = [] := by simp [runR, hE]
 have hck := fun W (hW : Grows w W) => zCp t A cap l B W (Nat.le_trans hB hW.size) (hz.below (hW.mono hB)) hl
 simp only [checkE, hb, Bool.false_eq_true, if_false] at hck; have HCK := zzh hck; have HR := zz3 hE hBB hRR; clear hck hE hBB hRR hz hl hb; unfold zAt at HCK ⊢
 go_enter Tryz.func41, Tryz.ntmps41
 go_wp2_with (go_at_call 68; refine (HCK.out _ (grow1 w _)).mono ?_; rintro e w1 ⟨rfl, hB1⟩; have H1 := zzh ((grow1 w _).trans (hB1.mono (by simp))); clear hB1)
 go_ret3
 exact ⟨none, 0, [], by rw [HR.out.1, HR.out.2.1]; rfl, by rw [HR.out.2.2]; rfl, zKb _ _, H1.out⟩
theorem run_arg (t : Bt) (A : Option Addr) (cap : Nat) (l : List Sl) (sp h : Int) (B : Nat) (w : World) (hB : B ≤ w.heap.size) (hz : Rows w B A l) (hl : shortL l) (hb : zA6 t (rws l) = true) (hno : ¬ (allB t.lo t.hi [sp] = true ∧ allB 0 300 [h] = true)) :
 Calls Tryz.prog 41 #[.agg (zAt t (.slice A l.length cap)), .int .i64 sp, .int .i64 h] w (RunPost w t (rws l) sp h) := by
 have hE : runE t (rws l) sp h = 2 := by simp only [runE, hb, if_true, if_neg hno]
 have hBB : runB t (rws l) sp h = 0 := by simp [runB, hE]
 have hRR : runR t (rws l) sp h = [] := by simp [runR, hE]
 have hck := fun W (hW : Grows w W) => zCp t A cap l B W (Nat.le_trans hB hW.size) (hz.below (hW.mono hB)) hl
 simp only [checkE, hb, if_true] at hck; have hwi := fun W => zBe t.lo t.hi sp (W.alloc (.cells #[.int .i64 sp] 3)) W.heap.size (zAd W _)
 have hho := fun W => zCn h W
 have HCK := zzh hck; have HR := zz3 hE hBB hRR; clear hck hE hBB hRR hz hl hb; have h0 : (w.alloc (.cells (zAt t (.slice A l.length cap)) 63)).heap[w.heap.size]? = _ := zAd _ _; have HB0 := zzh h0; clear h0; unfold zAt at HCK HB0 ⊢; cases hw : allB t.lo t.hi [sp] with
 | false =>
   rw [hw] at hwi; have HWI := zzh hwi; clear hwi hho hno hw
   go_enter Tryz.func41, Tryz.ntmps41
   go_wp2_with (first
    | (go_at_call 68; refine (HCK.out _ (grow1 w _)).mono ?_; rintro e w1 ⟨rfl, hB1⟩; have hc1 := fun i => cell_of_row w1 w.heap.size i _ _ _ ((hB1.block _ (by simp)).trans HB0.out)
       have H1 := zzh ((grow1 w _).trans (hB1.mono (by simp))); clear hB1)
    | (go_at_call 71; refine (HWI.out _).mono ?_; rintro e w2 ⟨rfl, hB2⟩; have H2 := zzh (H1.out.trans ((grow1 w1 _).trans (hB2.mono (by simp)) |>.mono H1.out.size)); clear hB2))
   go_ret3
   exact ⟨none, 0, [], by rw [HR.out.1, HR.out.2.1]; rfl, by rw [HR.out.2.2]; rfl, zKb _ _, H2.out⟩
 | true =>
   have hh : allB 0 300 [h] = false := by
    cases e : allB 0 300 [h] with
    | false => rfl
    | true => exact absurd ⟨hw, e⟩ hno
   rw [hw] at hwi; rw [hh] at hho; have HWI := zzh hwi; have HHO := zzh hho; clear hwi hho hno hw hh
   go_enter Tryz.func41, Tryz.ntmps41
   go_wp2_with (first
    | (go_at_call 68; refine (HCK.out _ (grow1 w _)).mono ?_; rintro e w1 ⟨rfl, hB1⟩; have hc1 := fun i => cell_of_row w1 w.heap.size i _ _ _ ((hB1.block _ (by simp)).trans HB0.out)
       have H1 := zzh ((grow1 w _).trans (hB1.mono (by simp))); clear hB1)
    | (go_at_call 71; refine (HWI.out _).mono ?_; rintro e w2 ⟨rfl, hB2⟩; have H2 := zzh (H1.out.trans ((grow1 w1 _).trans (hB2.mono (by simp)) |>.mono H1.out.size)); clear hB2)
    | (go_at_call 72; refine (HHO.out _).mono ?_; rintro e w3 ⟨rfl, hB3⟩; have H3 := zzh (H2.out.trans (hB3.mono H2.out.size)); clear hB3))
   go_ret3
   exact ⟨none, 0, [], by rw [HR.out.1, HR.out.2.1]; rfl, by rw [HR.out.2.2]; rfl, zKb _ _, H3.out⟩
theorem run_ok (t : Bt) (A : Option Addr) (cap : Nat) (l : List Sl) (sp : Int) (h : Nat) (B : Nat) (w : World) (hB : B ≤ w.heap.size) (hz : Rows w B A l) (hl : shortL l) (hb : zA6 t (rws l) = true) (hw : allB t.lo t.hi [sp] = true) (hh : allB 0 300 [(h : Int)] = true) :
 Calls Tryz.prog 41 #[.agg (zAt t (.slice A l.length cap)), .int .i64 sp, .int .i64 (h : Int)] w (RunPost w t (rws l) sp h) := by
 have hE : runE t (rws l) sp h = 0 := by simp [runE, hb, hw, hh]
 have hBB : runB t (rws l) sp h = (runS t.water sp (t.borax, rws l) h).1 := by simp [runB, hE]
 have hRR : runR t (rws l) sp h = (runS t.water sp (t.borax, rws l) h).2 := by simp [runR, hE]
 obtain ⟨hg, g1, g2, g3, g4, -⟩ := zCr hb; have hsp := allB_iff.1 hw; have hh3 := allB_iff.1 hh; have h4 : l.length ≤ 4 := by have := hg.n4; simpa [rws] using this
 have h6 : ∀ s ∈ l, 1 ≤ s.zs.length ∧ s.zs.length ≤ 6 := fun s hs => by
  have := hg.rows s.zs (by simp only [rws, List.mem_map]; exact ⟨s, hs, rfl⟩)
  exact ⟨this.l1, this.l6⟩
 have hck := fun W (hW : Grows w W) => zCp t A cap l B W (Nat.le_trans hB hW.size) (hz.below (hW.mono hB)) hl
 simp only [checkE, hb, if_true] at hck; have hwi := fun W => zBe t.lo t.hi sp (W.alloc (.cells #[.int .i64 sp] 3)) W.heap.size (zAd W _)
 have hho := fun W => zCn h W
 rw [hw] at hwi; rw [hh] at hho; have hat := fun W (hW : Grows w W) => zF6 t A cap l B W (Nat.le_trans hB hW.size) (hz.below (hW.mono hB)) h4 h6
 have haf := fun W (hW : Grows w W) => zRg t A cap l sp (t.borax, rws l) h B W (Nat.le_trans hB hW.size) (hz.below (hW.mono hB)) (by omega) (by omega) hg rfl (by omega)
 have hce := fun W (hW : Grows w W) => zRf t A cap l (runS t.water sp (t.borax, rws l) h) B W (Nat.le_trans hB hW.size) (hz.below (hW.mono hB)) h4 (fun s hs => (h6 s hs).2) (zDx _ _ _ _)
 have hlen : (bs t (.slice A l.length cap) (runS t.water sp (t.borax, rws l) h)).length = 30 := zE6 _ _ _ _; have hone : ∀ v ∈ bs t (.slice A l.length cap) (runS t.water sp (t.borax, rws l) h), v.oneCell' = true := zI6 _ _ _ _ _ _; have hV1 : (bs t (.slice A l.length cap) (runS t.water sp (t.borax, rws l) h)).toArray[1]? = some (.int .i64 (runS t.water sp (t.borax, rws l) h).1) := rfl; rw [← hBB] at hV1; unfold CellsPost at hce; rw [← hRR] at hce; generalize bs t (.slice A l.length cap) (runS t.water sp (t.borax, rws l) h) = V at haf hce hlen hone hV1; generalize bs t (.slice A l.length cap) (t.borax, rws l) = V0 at hat haf; have HCK := zzh hck; have HF := zz3 hat haf hce; have HV := zz4 hlen hone hV1 hE; have HWI := zzh hwi; have HHO := zzh hho; clear hck hBB hRR hz hl hb hat haf hce hlen hone hV1 hwi hho hw hh hg g1 g2 g3 g4 hsp hh3 h4 h6 hE; have h0 : (w.alloc (.cells (zAt t (.slice A l.length cap)) 63)).heap[w.heap.size]? = _ := zAd _ _; have HB0 := zzh h0; clear h0; unfold zAt at HCK HB0 HF ⊢
 go_enter Tryz.func41, Tryz.ntmps41
 go_wp2_with (first
  | (go_at_call 68; refine (HCK.out _ (grow1 w _)).mono ?_; rintro e w1 ⟨rfl, hB1⟩; have hc1 := fun i => cell_of_row w1 w.heap.size i _ _ _ ((hB1.block _ (by simp)).trans HB0.out)
     have hb1 := (hB1.block _ (by simp)).trans HB0.out
     have H1 := zz2 ((grow1 w _).trans (hB1.mono (by simp))) hb1; clear hB1 hb1)
  | (go_at_call 71; refine (HWI.out _).mono ?_; rintro e w2 ⟨rfl, hB2⟩; have H2 := zzh ((grow1 w1 _).trans (hB2.mono (by simp))); clear hB2)
  | (go_at_call 72; refine (HHO.out _).mono ?_; rintro e w3 ⟨rfl, hB3⟩; have hB13 := H2.out.trans (hB3.mono H2.out.size); have hc3 := fun i => cell_of_row w3 w.heap.size i _ _ _ ((hB13.block _ (zAa H1.out.2)).trans H1.out.2)
     have H3 := zzh (H1.out.1.trans (hB13.mono H1.out.1.size)); clear hB3 hc1 hB13)
  | (go_at_call 69; refine (HF.out.1 _ H3.out).mono ?_; rintro e w4 ⟨rfl, hB4⟩; have H4 := zzh (H3.out.trans (hB4.mono H3.out.size)); clear hB4 hc3)
  | (go_at_call 73; refine (HF.out.2.1 _ H4.out).mono ?_; rintro e w5 ⟨rfl, hB5⟩; have H5 := zzh (H4.out.trans (hB5.mono H4.out.size)); clear hB5)
  | (refine zAb 152 (.tmp 10) (.tmp 31) (cs := V) (L := [.int .i64 0, .int .i64 0, .slice none 0 0, .int .i64 0, .int .i64 0, .int .i64 0, .int .i64 0, .int .i64 0, .int .i64 0, .int .i64 0, .int .i64 0, .int .i64 0, .int .i64 0, .int .i64 0, .int .i64 0, .int .i64 0, .int .i64 0, .int .i64 0, .int .i64 0, .int .i64 0, .int .i64 0, .int .i64 0, .int .i64 0, .int .i64 0, .int .i64 0, .int .i64 0, .int .i64 0, .int .i64 0, .int .i64 0, .int .i64 0]) rfl rfl rfl rfl rfl (zAd _ _) (by rw [HV.out.1]; simp) HV.out.2.1 (by rw [HV.out.1]; exact zAz) ?_
     intro w6 hP6 hM6; rw [zAe (by rw [HV.out.1]; rfl)] at hM6
     have H6 := zz2 ((H5.out.alloc H5.out.size _).trans (hP6.below H5.out.size)) hM6; clear hP6 hM6))
 have hst : RunC w w5.heap.size V (runR t (rws l) sp h) 4 36 (fun _ => false) (fun _ => undef) w6.drew := ⟨H6.out.1.drew, H6.out.1.size, H6.out.2, fun e => by cases e⟩
 have HST := zzh hst; clear hst; refine R6.wp_walk (C := RunC w w5.heap.size V (runR t (rws l) sp h) 4 36) 37 (by kernel_rfl) (by kernel_rfl) rfl ⟨HST.out.bel, HST.out.lb, HST.out.box, fun e => by cases e⟩ ?_
 simp only []
 repeat (first
  | (refine' R6.WalkR.det (fun _ => rfl) (fun D ρ W hK hC => ?_) ?_
     rotate_left
     · have hcb := (cell_of_row W w5.heap.size 1 _ _ _ hC.box).trans HV.out.2.2.1; have HC := zzh hC; clear hC hK; go_simp
       first
        | with_reducible exact ⟨rfl, HC.out.move (by decide)⟩
        | fail
     simp only [Act.put, zza, zzb, zzc]))
 refine' R6.WalkR.det (c := .agg V.toArray) (fun _ => rfl) (fun D ρ W hK hC => ?_) ?_
 · have HC := zzh hC; clear hC hK; refine zAk 152 (.tmp 10) rfl rfl HC.out.box V (fun j v hj => by rw [Nat.zero_add, List.getElem?_toArray]; exact hj) (by rw [HV.out.1]; exact zAz) ⟨rfl, HC.out.move (by decide)⟩
 simp only [Act.put, zza, zzb, zzc]; refine' R6.WalkR.nd (fun _ => rfl) rfl (fun D ρ W hK hC => ?_) ?_
 · have HC := zzh hC; clear hC hK; go_simp; go_at_call 74; refine (HF.out.2.2 W HC.out.bel).mono ?_; rintro e W1 ⟨A', c', ls, rfl, hr, hO, hB1⟩; exact ⟨_, rfl, HC.out.bel.trans (hB1.mono HC.out.lb), Nat.le_trans HC.out.lb hB1.size, (hB1.block _ (zAa HC.out.box)).trans HC.out.box, fun _ => ⟨A', c', ls, R6.upd_me, hr, hO.less HC.out.lb⟩⟩
 simp only [Act.put, zza, zzb, zzc]
 repeat (first
  | (refine' R6.WalkR.det (fun _ => rfl) (fun D ρ W hK hC => ?_) ?_
     rotate_left
     · skip
       have HC := zzh hC; clear hC hK; go_simp
       first
        | with_reducible exact ⟨rfl, HC.out.move (by decide)⟩
        | fail
     simp only [Act.put, zza, zzb, zzc]))
 refine' R6.WalkR.fn 36 (fun v => v) (fun _ => rfl) (by decide +kernel) (fun D ρ W hK hC => ?_) ?_
 · have HC := zzh hC; clear hC hK; go_simp
   first
    | exact HC.out.move (by decide)
    | exact ⟨rfl, HC.out.move (by decide)⟩
 simp only [Act.put, zza, zzb, zzc]
 repeat (first
  | (refine' R6.WalkR.det (fun _ => rfl) (fun D ρ W hK hC => ?_) ?_
     rotate_left
     · skip
       have HC := zzh hC; clear hC hK; go_simp
       first
        | with_reducible exact ⟨rfl, HC.out.move (by decide)⟩
        | fail
     simp only [Act.put, zza, zzb, zzc]))
 refine R6.WalkR.nil (fun D ρ W hD' hC => ?_)
 obtain ⟨A', c', ls, hv, hr, hO⟩ := hC.res (hD' 4 (by decide))
 rw [hv]; have HE := zz3 hr hO hC.bel; clear hC hD' hr hO hv; go_wp2
 go_ret3
 exact ⟨A', c', ls, by rw [HV.out.2.2.2]; rfl, HE.out.1, HE.out.2.1, HE.out.2.2⟩
theorem run_any (t : Bt) (A : Option Addr) (cap : Nat) (l : List Sl) (sp h : Int) (B : Nat) (w : World) (hB : B ≤ w.heap.size) (hz : Rows w B A l) (hl : shortL l) :
 Calls Tryz.prog 41 #[.agg (zAt t (.slice A l.length cap)), .int .i64 sp, .int .i64 h] w (RunPost w t (rws l) sp h) := by
 cases hb : zA6 t (rws l) with
 | false => exact run_bad t A cap l sp h B w hB hz hl hb
 | true =>
   by_cases hc : allB t.lo t.hi [sp] = true ∧ allB 0 300 [h] = true
   · have h0 := allB_iff.1 hc.2; obtain ⟨n, rfl⟩ : ∃ n : Nat, h = (n : Int) := ⟨h.toNat, by omega⟩
     exact run_ok t A cap l sp n B w hB hz hl hb hc.1 hc.2
   · exact run_arg t A cap l sp h B w hB hz hl hb hc
end Go.Proofs.YtnjgibbfcigbfaaGreat
namespace Go.Proofs.YtnjgibbfcigbfaaGreat
open Go.RowKit Go.Shelf
attribute [local go_sem] gives
def greatB (l : List Sl) : Bool := decide (8 < l.length) || l.any fun s => decide (12 < s.zs.length)
theorem zRz (t : Bt) (A : Option Addr) (cap : Nat) (l : List Sl) (B : Nat) (w : World) (hB : B ≤ w.heap.size) (hz : Rows w B A l) (hl : l.length ≤ 9223372036854775807) :
 Calls Tryz.prog 43 #[.agg (zAt t (.slice A l.length cap))] w fun e w' => e = .returned (.bool (greatB l)) ∧ Grows w w' := by
 unfold zAt; have HZ := zzh hz; obtain ⟨w1, hw1⟩ : ∃ w1, w.alloc (.cells #[.int .i64 t.water, .int .i64 t.borax, .slice A l.length cap, .int .i64 t.lo, .int .i64 t.hi, .int .i64 t.need] 63) = w1 := ⟨_, rfl⟩; have hbw : Grows w w1 := by rw [← hw1]; exact grow1 _ _
 have hc1 := fun i => cell_of_row w1 w.heap.size i _ _ _ (show w1.heap[w.heap.size]? = some (.cells #[.int .i64 t.water, .int .i64 t.borax, .slice A l.length cap, .int .i64 t.lo, .int .i64 t.hi, .int .i64 t.need] 63 (0, 0)) by rw [← hw1]; exact zAd _ _)
 have HBW := zzh hbw; clear hbw hz
 by_cases h8 : 8 < l.length
 · have e : greatB l = true := by simp [greatB, h8]
   have h8z : (8 : Int) < l.length := by omega
   rw [e]; clear e
   go_enter Tryz.func43, Tryz.ntmps43
   go_wp2; go_ret
   exact ⟨rfl, HBW.out⟩
 · have e : greatB l = l.any fun s => decide (12 < s.zs.length) := by simp [greatB, h8]
   have h8z : ¬ (8 : Int) < l.length := by omega
   rw [e]; clear e; have hP : ∃ P : Sl → Bool, P = fun s => decide (12 < s.zs.length) := ⟨_, rfl⟩
   obtain ⟨P, hP⟩ := hP; rw [← hP]; have HPP := zzh hP; clear hP
   go_enter Tryz.func43, Tryz.ntmps43
   go_wp2
   go_loopg [3] l.length (fun gg s3 wx => ∃ k : Nat, k + gg = l.length ∧ s3 = .int .i64 k ∧ Hid ((l.drop k).any P = l.any P) ∧ wx = w1)
   case atStart => exact ⟨0, by omega, rfl, rfl, rfl⟩
   case round =>
    obtain ⟨k, hkg, rfl, hI, rfl⟩ := hrel; cases gk with
    | zero =>
      obtain rfl : k = l.length := by omega
      go_wp2; go_ret
      refine ⟨?_, HBW.out⟩; rw [← hI.out, List.drop_length]
      rfl
    | succ gg =>
      have hk : k < l.length := by omega
      have hkz : (k : Int) < l.length := by omega
      obtain ⟨c, off, hA, hcB, hc⟩ := HZ.out.va (by rw [zCm]; omega)
      subst hA; have hc0 : wr.cell? ⟨c, off + k, none⟩ = _ := (HBW.out.cell (p := ⟨c, off + k, none⟩) (by simp; omega)).trans (hc k _ (zEx l k hk))
      have hst : (l.drop k).any P = (P l[k] || (l.drop (k + 1)).any P) := by rw [List.drop_eq_getElem_cons hk]; rfl
      rw [hI.out] at hst; have hpp := congrFun HPP.out l[k]; generalize l[k] = y at hc0 hst hpp; unfold slv at hc0; have HST := zzh hst; clear hc hst
      by_cases hp : 12 < y.zs.length
      · have hpz : (12 : Int) < y.zs.length := by omega
        have e : P y = true := by rw [hpp]; simp [hp]
        have HE := zzh e; clear e hpp; go_wp2; go_ret
        exact ⟨by rw [HST.out, HE.out]; rfl, HBW.out⟩
      · have hpz : ¬ (12 : Int) < y.zs.length := by omega
        have e : P y = false := by rw [hpp]; simp [hp]
        have HE := zzh e; clear e hpp; go_wp2
        go_roundg gg
        case measure => omega
        case rel => exact ⟨k + 1, by omega, by go_num, by rw [HST.out, HE.out]; rfl, rfl⟩
theorem zPr (t : Bt) (A : Option Addr) (cap : Nat) (l : List Sl) (w : World) (h1 : inR t.water 10 10000 = false) :
 Calls Tryz.prog 88 #[.agg (zAt t (.slice A l.length cap))] w fun e w' => e = .returned (.bool false) ∧ Grows w w' := by
 unfold zAt; obtain ⟨w1, hw1⟩ : ∃ w1, w.alloc (.cells #[.int .i64 t.water, .int .i64 t.borax, .slice A l.length cap, .int .i64 t.lo, .int .i64 t.hi, .int .i64 t.need] 63) = w1 := ⟨_, rfl⟩; have hbw : Grows w w1 := by rw [← hw1]; exact grow1 _ _
 have hs1 : w1.heap.size = w.heap.size + 1 := by rw [← hw1]; simp
 have hb1 : w1.heap[w.heap.size]? = some (.cells #[.int .i64 t.water, .int .i64 t.borax, .slice A l.length cap, .int .i64 t.lo, .int .i64 t.hi, .int .i64 t.need] 63 (0, 0)) := by rw [← hw1]; exact zAd _ _
 have hc1 := fun i => cell_of_row w1 w.heap.size i _ _ _ hb1
 have HBW := zzh hbw; clear hbw hb1 hs1; have H1 := zzh h1; clear h1
 go_enter Tryz.func88, Tryz.ntmps88
 go_wp2_with (first
  | (go_at_call 89; (with_reducible show Calls _ _ #[.int _ t.water, _, _] _ _); refine (zAu _ _ _ _).mono ?_; rintro e w2 ⟨rfl, rfl⟩; rw [H1.out]))
 go_ret
 exact ⟨rfl, HBW.out⟩
theorem zPs (t : Bt) (A : Option Addr) (cap : Nat) (l : List Sl) (w : World) (h1 : inR t.water 10 10000 = true) (h2 : inR t.borax 0 100000 = false) :
 Calls Tryz.prog 88 #[.agg (zAt t (.slice A l.length cap))] w fun e w' => e = .returned (.bool false) ∧ Grows w w' := by
 unfold zAt; obtain ⟨w1, hw1⟩ : ∃ w1, w.alloc (.cells #[.int .i64 t.water, .int .i64 t.borax, .slice A l.length cap, .int .i64 t.lo, .int .i64 t.hi, .int .i64 t.need] 63) = w1 := ⟨_, rfl⟩; have hbw : Grows w w1 := by rw [← hw1]; exact grow1 _ _
 have hs1 : w1.heap.size = w.heap.size + 1 := by rw [← hw1]; simp
 have hb1 : w1.heap[w.heap.size]? = some (.cells #[.int .i64 t.water, .int .i64 t.borax, .slice A l.length cap, .int .i64 t.lo, .int .i64 t.hi, .int .i64 t.need] 63 (0, 0)) := by rw [← hw1]; exact zAd _ _
 have hc1 := fun i => cell_of_row w1 w.heap.size i _ _ _ hb1
 have HBW := zzh hbw; clear hbw hb1 hs1; have H1 := zzh h1; have H2 := zzh h2; clear h1 h2
 go_enter Tryz.func88, Tryz.ntmps88
 go_wp2_with (first
  | (go_at_call 89; (with_reducible show Calls _ _ #[.int _ t.water, _, _] _ _); refine (zAu _ _ _ _).mono ?_; rintro e w2 ⟨rfl, rfl⟩; rw [H1.out])
  | (go_at_call 89; (with_reducible show Calls _ _ #[.int _ t.borax, _, _] _ _); refine (zAu _ _ _ _).mono ?_; rintro e w2 ⟨rfl, rfl⟩; rw [H2.out]))
 go_ret
 exact ⟨rfl, HBW.out⟩
theorem zPt (t : Bt) (A : Option Addr) (cap : Nat) (l : List Sl) (w : World) (h1 : inR t.water 10 10000 = true) (h2 : inR t.borax 0 100000 = true) (h3 : inR (l.length : Int) 1 4 = false) :
 Calls Tryz.prog 88 #[.agg (zAt t (.slice A l.length cap))] w fun e w' => e = .returned (.bool false) ∧ Grows w w' := by
 unfold zAt; obtain ⟨w1, hw1⟩ : ∃ w1, w.alloc (.cells #[.int .i64 t.water, .int .i64 t.borax, .slice A l.length cap, .int .i64 t.lo, .int .i64 t.hi, .int .i64 t.need] 63) = w1 := ⟨_, rfl⟩; have hbw : Grows w w1 := by rw [← hw1]; exact grow1 _ _
 have hs1 : w1.heap.size = w.heap.size + 1 := by rw [← hw1]; simp
 have hb1 : w1.heap[w.heap.size]? = some (.cells #[.int .i64 t.water, .int .i64 t.borax, .slice A l.length cap, .int .i64 t.lo, .int .i64 t.hi, .int .i64 t.need] 63 (0, 0)) := by rw [← hw1]; exact zAd _ _
 have hc1 := fun i => cell_of_row w1 w.heap.size i _ _ _ hb1
 have HBW := zzh hbw; clear hbw hb1 hs1; have H1 := zzh h1; have H2 := zzh h2; have H3 := zzh h3; clear h1 h2 h3
 go_enter Tryz.func88, Tryz.ntmps88
 go_wp2_with (first
  | (go_at_call 89; (with_reducible show Calls _ _ #[.int _ t.water, _, _] _ _); refine (zAu _ _ _ _).mono ?_; rintro e w2 ⟨rfl, rfl⟩; rw [H1.out])
  | (go_at_call 89; (with_reducible show Calls _ _ #[.int _ t.borax, _, _] _ _); refine (zAu _ _ _ _).mono ?_; rintro e w2 ⟨rfl, rfl⟩; rw [H2.out])
  | (go_at_call 89; (with_reducible show Calls _ _ #[.int _ (l.length : Int), _, _] _ _); refine (zAu _ _ _ _).mono ?_; rintro e w2 ⟨rfl, rfl⟩; rw [H3.out]))
 go_ret
 exact ⟨rfl, HBW.out⟩
theorem zPu (t : Bt) (A : Option Addr) (cap : Nat) (l : List Sl) (w : World) (h1 : inR t.water 10 10000 = true) (h2 : inR t.borax 0 100000 = true) (h3 : inR (l.length : Int) 1 4 = true) (h4 : okS t.lo t.hi 1 250 = false) :
 Calls Tryz.prog 88 #[.agg (zAt t (.slice A l.length cap))] w fun e w' => e = .returned (.bool false) ∧ Grows w w' := by
 unfold zAt; obtain ⟨w1, hw1⟩ : ∃ w1, w.alloc (.cells #[.int .i64 t.water, .int .i64 t.borax, .slice A l.length cap, .int .i64 t.lo, .int .i64 t.hi, .int .i64 t.need] 63) = w1 := ⟨_, rfl⟩; have hbw : Grows w w1 := by rw [← hw1]; exact grow1 _ _
 have hs1 : w1.heap.size = w.heap.size + 1 := by rw [← hw1]; simp
 have hb1 : w1.heap[w.heap.size]? = some (.cells #[.int .i64 t.water, .int .i64 t.borax, .slice A l.length cap, .int .i64 t.lo, .int .i64 t.hi, .int .i64 t.need] 63 (0, 0)) := by rw [← hw1]; exact zAd _ _
 have hc1 := fun i => cell_of_row w1 w.heap.size i _ _ _ hb1
 have HBW := zzh hbw; have HB1 := zzh hb1; have HS1 := zzh hs1; clear hbw hb1 hs1; have H1 := zzh h1; have H2 := zzh h2; have H3 := zzh h3; have H4 := zzh h4; clear h1 h2 h3 h4
 go_enter Tryz.func88, Tryz.ntmps88
 go_wp2_with (first
  | (go_at_call 89; (with_reducible show Calls _ _ #[.int _ t.water, _, _] _ _); refine (zAu _ _ _ _).mono ?_; rintro e w2 ⟨rfl, rfl⟩; rw [H1.out])
  | (go_at_call 89; (with_reducible show Calls _ _ #[.int _ t.borax, _, _] _ _); refine (zAu _ _ _ _).mono ?_; rintro e w2 ⟨rfl, rfl⟩; rw [H2.out])
  | (go_at_call 89; (with_reducible show Calls _ _ #[.int _ (l.length : Int), _, _] _ _); refine (zAu _ _ _ _).mono ?_; rintro e w2 ⟨rfl, rfl⟩; rw [H3.out])
  | (go_at_call 132; refine (zDf _ _ _ _ _).mono ?_; rintro e w2 ⟨rfl, hB2⟩; rw [H4.out]; have B2 := zzh (HBW.out.trans (hB2.mono HBW.out.size)); have hc2 := fun i => cell_of_row w2 w.heap.size i _ _ _ ((hB2.block _ (by have := HS1.out; omega)).trans HB1.out); clear hB2))
 go_ret
 exact ⟨rfl, B2.out⟩
theorem zPv (t : Bt) (A : Option Addr) (cap : Nat) (l : List Sl) (w : World) (h1 : inR t.water 10 10000 = true) (h2 : inR t.borax 0 100000 = true) (h3 : inR (l.length : Int) 1 4 = true) (h4 : okS t.lo t.hi 1 250 = true) (h5 : inR t.need 1 1000 = false) :
 Calls Tryz.prog 88 #[.agg (zAt t (.slice A l.length cap))] w fun e w' => e = .returned (.bool false) ∧ Grows w w' := by
 unfold zAt; obtain ⟨w1, hw1⟩ : ∃ w1, w.alloc (.cells #[.int .i64 t.water, .int .i64 t.borax, .slice A l.length cap, .int .i64 t.lo, .int .i64 t.hi, .int .i64 t.need] 63) = w1 := ⟨_, rfl⟩; have hbw : Grows w w1 := by rw [← hw1]; exact grow1 _ _
 have hs1 : w1.heap.size = w.heap.size + 1 := by rw [← hw1]; simp
 have hb1 : w1.heap[w.heap.size]? = some (.cells #[.int .i64 t.water, .int .i64 t.borax, .slice A l.length cap, .int .i64 t.lo, .int .i64 t.hi, .int .i64 t.need] 63 (0, 0)) := by rw [← hw1]; exact zAd _ _
 have hc1 := fun i => cell_of_row w1 w.heap.size i _ _ _ hb1
 have HBW := zzh hbw; have HB1 := zzh hb1; have HS1 := zzh hs1; clear hbw hb1 hs1; have H1 := zzh h1; have H2 := zzh h2; have H3 := zzh h3; have H4 := zzh h4; have H5 := zzh h5; clear h1 h2 h3 h4 h5
 go_enter Tryz.func88, Tryz.ntmps88
 go_wp2_with (first
  | (go_at_call 89; (with_reducible show Calls _ _ #[.int _ t.water, _, _] _ _); refine (zAu _ _ _ _).mono ?_; rintro e w2 ⟨rfl, rfl⟩; rw [H1.out])
  | (go_at_call 89; (with_reducible show Calls _ _ #[.int _ t.borax, _, _] _ _); refine (zAu _ _ _ _).mono ?_; rintro e w2 ⟨rfl, rfl⟩; rw [H2.out])
  | (go_at_call 89; (with_reducible show Calls _ _ #[.int _ (l.length : Int), _, _] _ _); refine (zAu _ _ _ _).mono ?_; rintro e w2 ⟨rfl, rfl⟩; rw [H3.out])
  | (go_at_call 132; refine (zDf _ _ _ _ _).mono ?_; rintro e w2 ⟨rfl, hB2⟩; rw [H4.out]; have B2 := zzh (HBW.out.trans (hB2.mono HBW.out.size)); have hc2 := fun i => cell_of_row w2 w.heap.size i _ _ _ ((hB2.block _ (by have := HS1.out; omega)).trans HB1.out); clear hB2)
  | (go_at_call 89; (with_reducible show Calls _ _ #[.int _ t.need, _, _] _ _); refine (zAu _ _ _ _).mono ?_; rintro e w2 ⟨rfl, rfl⟩; rw [H5.out]))
 go_ret
 exact ⟨rfl, B2.out⟩
theorem zN9 {α : Type} (P : α → Bool) (l : List α) (k : Nat) (hk : k < l.length) : (l.drop k).all P = (P l[k] && (l.drop (k + 1)).all P) := by rw [List.drop_eq_getElem_cons hk]; rfl
theorem zPw (t : Bt) (A : Option Addr) (cap : Nat) (l : List Sl) (B : Nat) (w : World) (hB : B ≤ w.heap.size) (hz : Rows w B A l) (hl : ∀ s ∈ l, s.zs.length ≤ 9223372036854775807) (h1 : inR t.water 10 10000 = true) (h2 : inR t.borax 0 100000 = true) (h3 : inR (l.length : Int) 1 4 = true) (h4 : okS t.lo t.hi 1 250 = true) (h5 : inR t.need 1 1000 = true) :
 Calls Tryz.prog 88 #[.agg (zAt t (.slice A l.length cap))] w fun e w' => e = .returned (.bool (l.all fun s => okPole s.zs)) ∧ Grows w w' := by
 unfold zAt; obtain ⟨w1, hw1⟩ : ∃ w1, w.alloc (.cells #[.int .i64 t.water, .int .i64 t.borax, .slice A l.length cap, .int .i64 t.lo, .int .i64 t.hi, .int .i64 t.need] 63) = w1 := ⟨_, rfl⟩; have hbw : Grows w w1 := by rw [← hw1]; exact grow1 _ _
 have hs1 : w1.heap.size = w.heap.size + 1 := by rw [← hw1]; simp
 have hb1 : w1.heap[w.heap.size]? = some (.cells #[.int .i64 t.water, .int .i64 t.borax, .slice A l.length cap, .int .i64 t.lo, .int .i64 t.hi, .int .i64 t.need] 63 (0, 0)) := by rw [← hw1]; exact zAd _ _
 have hc1 := fun i => cell_of_row w1 w.heap.size i _ _ _ hb1
 have HBW := zzh hbw; have HB1 := zzh hb1; have HS1 := zzh hs1; clear hbw hb1 hs1; have H1 := zzh h1; have H2 := zzh h2; have H3 := zzh h3; have H4 := zzh h4; have H5 := zzh h5; have HZ := zzh hz; have HL := zzh hl; have hlz : l.length ≤ 4 := by have := inR_iff.1 h3; omega
 clear h1 h2 h3 h4 h5 hz hl; obtain ⟨P, hP⟩ : ∃ P : Sl → Bool, P = fun s => okPole s.zs := ⟨_, rfl⟩
 rw [← hP]; have HPP := zzh hP; clear hP
 go_enter Tryz.func88, Tryz.ntmps88
 go_wp2_with (first
  | (go_at_call 89; (with_reducible show Calls _ _ #[.int _ t.water, _, _] _ _); refine (zAu _ _ _ _).mono ?_; rintro e w2 ⟨rfl, rfl⟩; rw [H1.out])
  | (go_at_call 89; (with_reducible show Calls _ _ #[.int _ t.borax, _, _] _ _); refine (zAu _ _ _ _).mono ?_; rintro e w2 ⟨rfl, rfl⟩; rw [H2.out])
  | (go_at_call 89; (with_reducible show Calls _ _ #[.int _ (l.length : Int), _, _] _ _); refine (zAu _ _ _ _).mono ?_; rintro e w2 ⟨rfl, rfl⟩; rw [H3.out])
  | (go_at_call 132; refine (zDf _ _ _ _ _).mono ?_; rintro e w2 ⟨rfl, hB2⟩; rw [H4.out]; have B2 := zzh (HBW.out.trans (hB2.mono HBW.out.size)); have hc2 := fun i => cell_of_row w2 w.heap.size i _ _ _ ((hB2.block _ (by have := HS1.out; omega)).trans HB1.out); clear hB2)
  | (go_at_call 89; (with_reducible show Calls _ _ #[.int _ t.need, _, _] _ _); refine (zAu _ _ _ _).mono ?_; rintro e w2 ⟨rfl, rfl⟩; rw [H5.out]))
 go_loopg [3] l.length (fun gg s3 wx => ∃ k : Nat, k + gg = l.length ∧ s3 = .int .i64 k ∧ Hid ((l.drop k).all P = l.all P) ∧ wx = w2)
 case atStart => exact ⟨0, by omega, rfl, rfl, rfl⟩
 case round =>
  obtain ⟨k, hkg, rfl, hI, rfl⟩ := hrel; cases gk with
  | zero =>
    obtain rfl : k = l.length := by omega
    go_wp2; go_ret
    refine ⟨?_, B2.out⟩; rw [← hI.out, List.drop_length]
    rfl
  | succ gg =>
    have hk : k < l.length := by omega
    have hkz : (k : Int) < l.length := by omega
    obtain ⟨c, off, hA, hcB, hc⟩ := HZ.out.va (by rw [zCm]; omega)
    subst hA; have hc0 : wr.cell? ⟨c, off + k, none⟩ = _ := (B2.out.cell (p := ⟨c, off + k, none⟩) (by simp; omega)).trans (hc k _ (zEx l k hk))
    have hst := zN9 P l k hk; rw [hI.out] at hst; have hpp := congrFun HPP.out l[k]; have hin := (HZ.out.each _ (List.getElem_mem hk)); have hyl := HL.out _ (List.getElem_mem hk); generalize l[k] = y at hc0 hst hpp hin hyl; obtain ⟨yA, yc, ys⟩ := y; unfold slv at hc0; simp only at hc0 hpp hin hyl; have HST := zzh hst; have HIN := zzh hin; have HCB := zzh hcB; clear hc hst hin hcB; cases h16 : inR (ys.length : Int) 1 6 with
    | false =>
      have e : P ⟨yA, yc, ys⟩ = false := by rw [hpp]; simp [okPole, allB, h16]
      have HE := zzh e; have H16 := zzh h16; clear e hpp h16
      go_wp2_with (go_at_call 89; refine (zAu _ _ _ _).mono ?_; rintro e w3 ⟨rfl, rfl⟩; rw [H16.out])
      go_ret
      exact ⟨by rw [HST.out, HE.out]; rfl, B2.out⟩
    | true =>
      have e : P ⟨yA, yc, ys⟩ = ys.all fun n => inR n 0 1000 := by rw [hpp]; simp [okPole, allB, h16]
      have hy6 := inR_iff.1 h16; have HE := zzh e; have H16 := zzh h16; clear e hpp h16
      go_wp2_with (go_at_call 89; refine (zAu _ _ _ _).mono ?_; rintro e w3 ⟨rfl, rfl⟩; rw [H16.out])
      obtain ⟨wo, rfl⟩ : ∃ wo : World, wo = wr := ⟨_, rfl⟩
      go_loopg [4] ys.length (fun gh s4 wx => ∃ j : Nat, j + gh = ys.length ∧ s4 = .int .i64 j ∧ Hid ((ys.drop j).all (fun n => inR n 0 1000) = ys.all fun n => inR n 0 1000) ∧ wx = wo)
      case atStart => exact ⟨0, by omega, rfl, rfl, rfl⟩
      case round =>
       obtain ⟨j, hjg, rfl, hJ, rfl⟩ := hrel; cases gk with
       | zero =>
         obtain rfl : j = ys.length := by omega
         have hok : P ⟨yA, yc, ys⟩ = true := by rw [HE.out, ← hJ.out, List.drop_length]; rfl
         have HOK := zzh hok; clear hok; go_wp2
         go_roundg gg
         case measure => omega
         case rel => exact ⟨k + 1, by omega, by go_num, by rw [HST.out, HOK.out]; rfl, rfl⟩
       | succ gh =>
         have hj : j < ys.length := by omega
         have hjz : (j : Int) < ys.length := by omega
         obtain ⟨d, o2, hA2, hdB, hd⟩ := HIN.out (by omega)
         subst hA2; have hx := (B2.out.cell (p := ⟨d, o2 + j, none⟩) (by simp; omega)).trans (hd j hj)
         have hsj := zN9 (fun n => inR n 0 1000) ys j hj
         rw [hJ.out] at hsj; have hg : ys[j]?.getD 0 = ys[j] := by simp [hj]
         rw [hg] at hx; generalize ys[j] = x at hx hsj; have HSJ := zzh hsj; clear hd hg hsj; cases hp : inR x 0 1000 with
         | false =>
           have HP := zzh hp; clear hp
           go_wp2_with (go_at_call 89; refine (zAu _ _ _ _).mono ?_; rintro e w3 ⟨rfl, rfl⟩; rw [HP.out])
           go_ret
           exact ⟨by rw [HST.out, HE.out, HSJ.out, HP.out]; rfl, B2.out⟩
         | true =>
           have HP := zzh hp; clear hp
           go_wp2_with (go_at_call 89; refine (zAu _ _ _ _).mono ?_; rintro e w3 ⟨rfl, rfl⟩; rw [HP.out])
           go_roundg gh
           case measure => omega
           case rel => exact ⟨j + 1, by omega, by go_num, by rw [HSJ.out, HP.out]; rfl, rfl⟩
theorem zLm (t : Bt) (A : Option Addr) (cap : Nat) (l : List Sl) (B : Nat) (w : World) (hB : B ≤ w.heap.size) (hz : Rows w B A l) (hl : ∀ s ∈ l, s.zs.length ≤ 9223372036854775807) :
 Calls Tryz.prog 88 #[.agg (zAt t (.slice A l.length cap))] w fun e w' => e = .returned (.bool (zA6 t (rws l))) ∧ Grows w w' := by
 have hn : (rws l).length = l.length := by simp [rws]
 have ha : (rws l).all okPole = l.all fun s => okPole s.zs := by simp [rws, List.all_map, Function.comp_def]
 have hk : zA6 t (rws l) = (inR t.water 10 10000 && (inR t.borax 0 100000 && (inR (l.length : Int) 1 4 && (okS t.lo t.hi 1 250 && (inR t.need 1 1000 && l.all fun s => okPole s.zs))))) := by
  unfold zA6 okHead; rw [hn, ha]; simp only [allB, List.all_cons, List.all_nil, Bool.and_true]; generalize inR t.water 10 10000 = a; generalize inR t.borax 0 100000 = b; generalize inR (l.length : Int) 1 4 = c; generalize okS t.lo t.hi 1 250 = d; generalize inR t.need 1 1000 = e; generalize (l.all fun s => okPole s.zs) = f
  cases a <;> cases b <;> cases c <;> cases d <;> cases e <;> cases f <;> rfl
 rw [hk]; cases h1 : inR t.water 10 10000 with
 | false => rw [Bool.false_and]; exact zPr t A cap l w h1
 | true =>
 rw [Bool.true_and]; cases h2 : inR t.borax 0 100000 with
 | false => rw [Bool.false_and]; exact zPs t A cap l w h1 h2
 | true =>
 rw [Bool.true_and]; cases h3 : inR (l.length : Int) 1 4 with
 | false => rw [Bool.false_and]; exact zPt t A cap l w h1 h2 h3
 | true =>
 rw [Bool.true_and]; cases h4 : okS t.lo t.hi 1 250 with
 | false => rw [Bool.false_and]; exact zPu t A cap l w h1 h2 h3 h4
 | true =>
 rw [Bool.true_and]; cases h5 : inR t.need 1 1000 with
 | false => rw [Bool.false_and]; exact zPv t A cap l w h1 h2 h3 h4 h5
 | true =>
 rw [Bool.true_and]; exact zPw t A cap l B w hB hz hl h1 h2 h3 h4 h5
theorem zLn (t : Bt) (A : Option Addr) (cap : Nat) (l : List Sl) (B : Nat) (w : World) (hB : B ≤ w.heap.size) (hz : Rows w B A l) (hl : ∀ s ∈ l, s.zs.length ≤ 9223372036854775807) :
 Calls Tryz.prog 66 #[.agg (zAt t (.slice A l.length cap))] w fun e w' => e = .returned (.int .i64 (checkE t (rws l))) ∧ Grows w w' := by
 have H := fun W (h : Grows w W) => zLm t A cap l B W (Nat.le_trans hB h.size) (hz.below (h.mono hB)) hl
 unfold checkE; unfold zAt at H ⊢; cases h : zA6 t (rws l)
 all_goals
  rw [h] at H; have HH := zzh H; clear H h hz hl
  go_enter Tryz.func66, Tryz.ntmps66
  go_wp2_with (go_at_call 88; refine (HH.out _ (grow1 w _)).mono ?_; rintro e w1 ⟨rfl, hB1⟩; have H1 := zzh ((grow1 w _).trans (hB1.mono (by simp))); clear hB1)
  go_ret
  exact ⟨rfl, H1.out⟩
end Go.Proofs.YtnjgibbfcigbfaaGreat
namespace Go.Proofs.YtnjgibbfcigbfaaGreat
open Go.RowKit Go.Shelf
open R6 (done zAg zAj upd_ne upd_me)
attribute [local go_sem] gives
section
variable {ops : Array Oper} {rest : List Oper} {op : Oper} {a : Act} {w : World} {Q : Exit → Act → World → Prop}
end
structure RdC (w0 : World) (D : Nat → Bool) (σ : Nat → Value) (W : World) : Prop where
 bel : Grows w0 W
 sz : W.heap.size = w0.heap.size
theorem RdC.move {w0 W : World} {D D' : Nat → Bool} {σ σ' : Nat → Value} (h : RdC w0 D σ W) : RdC w0 D' σ' W := ⟨h.bel, h.sz⟩
end Go.Proofs.YtnjgibbfcigbfaaGreat
