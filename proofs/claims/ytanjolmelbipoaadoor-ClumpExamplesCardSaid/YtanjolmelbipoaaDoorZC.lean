/-
  The look at the years of a plan.
-/
import Derived.Test.YtanjolmelbipoaaDoorZB
import Derived.Deep.LoopGhost
namespace Go.Proofs.YtanjolmelbipoaaDoor
open Go.RowKit

attribute [local go_sem] gives

set_option maxRecDepth 100000 in
set_option maxHeartbeats 8000000 in
theorem look_any (h : Hab) (d r b : Nat) (H : HabOk h d r b) (c0 : List Int) (hc0 : c0.length = d + 1) (hb0 : Bnd 0 30 c0) (A1 : Option Addr) (k1 : Nat) (ps : List (Int × Int)) (A2 : Option Addr) (k2 : Nat) (zs : List Int) (B : Nat) (w : World) (hB : B ≤ w.heap.size)
    (hV1 : Vals w B A1 (pairs ps)) (hV2 : Ints w B A2 zs) (hr : rainsOk ps = true) (hp : planOk zs ps.length = true) :
    Calls Tryd.prog 22 #[gv h (pad7 c0), .slice A1 ps.length k1, .slice A2 zs.length k2] w (AheadPost w (aheadL h r b c0 c0 (ps.zip zs))) := by
  have hlen := rainsOk_len hr
  have hzl := planOk_len hp
  have HH := Lib.hid H
  have HV := Lib.hid (And.intro hV1 hV2)
  have HR := Lib.hid (And.intro hr hp)
  have HC := Lib.hid (And.intro hc0 hb0)
  have h7 := pad7_len (l := c0) (by have := H.d6; omega)
  have hgl := gl_len (h := h) h7
  have hrow : RowTy Tryd.prog 71 (gl h (pad7 c0)).length := by rw [hgl]; exact rowGrove
  have hbu := ends_built h h7 h7
  have hrow2 : RowTy Tryd.prog 85 (gl h (pad7 c0) ++ gl h (pad7 c0)).length := by rw [List.length_append, hgl]; exact rowEnds
  have hsp : splice (List.replicate 26 (Value.int .i64 0)) 0 (gl h (pad7 c0) ++ gl h (pad7 c0)) = endsL h c0 c0 := by simp [splice, hgl, endsL]
  have hone : ∀ v ∈ gl h (pad7 c0) ++ gl h (pad7 c0), v.oneCell' = true := fun v hv => by
    rcases List.mem_append.1 hv with hv | hv <;> exact gl_one _ _ v hv
  have hk0 : (gl h (pad7 c0)).toArray[0]? = some (.int .i64 h.lo) := rfl
  have hk1 : (gl h (pad7 c0)).toArray[1]? = some (.int .i64 h.hi) := rfl
  have Hrow := Lib.hid (And.intro hrow (And.intro hbu (And.intro hrow2 (And.intro hsp (And.intro hone hgl)))))
  have Hk := Lib.hid (And.intro hk0 hk1)
  have HZ := Lib.hid hzl
  rw [show gv h (pad7 c0) = .agg (gl h (pad7 c0)).toArray from rfl]
  clear hV1 hV2 hr hp hc0 hb0 h7 H hzl hrow hbu hrow2 hsp hone hgl hk0 hk1
  go_enter Tryd.func22, Tryd.ntmps22
  go_wp2
  go_step3
  obtain ⟨w1, hw1⟩ : ∃ w1, w.alloc (.cells (gl h (pad7 c0)).toArray 71) = w1 := ⟨_, rfl⟩
  have hs1 : w1.heap.size = w.heap.size + 1 := by rw [← hw1]; simp
  have hb1 : w1.heap[w.heap.size]? = some (.cells (gl h (pad7 c0)).toArray 71 (0, 0)) := by rw [← hw1]; exact alloc_at0 w _
  have B1 := Lib.hid (And.intro (show Below w.heap.size w w1 by rw [← hw1]; exact (Below.refl _ w).alloc (Nat.le_refl _) _) hb1)
  rw [hw1]
  clear hw1 hb1
  go_upto_region 3 with (first
    | (show wpList _ _ _ (Oper.mk (some 18) _ _ _ _ _ :: _) _ _
       refine wpList_load_blk 71 (.tmp 3) rfl rfl rfl B1.out.2 (gl h (pad7 c0)) at0 Hrow.out.1 ?_)
    | (show wpList _ _ _ (Oper.mk (some 19) _ _ _ _ _ :: _) _ _
       refine wpList_load_blk 71 (.tmp 3) rfl rfl rfl B1.out.2 (gl h (pad7 c0)) at0 Hrow.out.1 ?_)
    | (show wpList _ _ _ (Oper.mk (some 20) _ _ _ _ _ :: _) _ _
       refine wpList_build2 85 (.tmp 18) (.tmp 19) rfl rfl rfl rfl Hrow.out.2.1 ?_)
    | (show wpList _ _ _ (Oper.mk none (Op.store _ (Operand.tmp 8) (Operand.tmp 20)) _ _ _ _ :: _) _ _
       refine wpList_store_blk 85 (.tmp 8) (.tmp 20) (L := List.replicate 26 (Value.int .i64 0)) rfl rfl rfl rfl rfl (by rw [← hs1]; exact alloc_at0 w1 _) (by simp [Hrow.out.2.2.2.2.2]) Hrow.out.2.2.2.2.1 Hrow.out.2.2.1 ?_
       intro w2 hP2 hM2
       rw [Hrow.out.2.2.2.1] at hM2
       have hs2 := hP2.size
       simp only [World.size_alloc] at hs2
       have hB2 := (B1.out.1.alloc (by omega) (.cells (List.replicate 26 (Value.int .i64 0)).toArray 85)).trans (hP2.below (B := w.heap.size) (by omega))
       have hm0 := (hP2.other w.heap.size (by omega)).trans ((Below.heap_alloc _ _ _ (by omega)).trans B1.out.2)
       have hcl := (cell_of_row w2 w.heap.size 0 _ _ _ hm0).trans Hk.out.1
       have hch := (cell_of_row w2 w.heap.size 1 _ _ _ hm0).trans Hk.out.2
       have B2 := Lib.hid (And.intro hB2 hM2)
       clear hP2 hM2 hB2 hm0))
  go_wp2
  go_step3
  go_wp2
  obtain ⟨w3, hw3⟩ : ∃ w3, w2.alloc (.cells (ints [h.lo, h.hi]).toArray 86) = w3 := ⟨_, rfl⟩
  have hs3 : w3.heap.size = w.heap.size + 3 := by rw [← hw3]; simp; omega
  have hO : OutAt w h d r b c0 ps zs 0 none 0 [] c0 c0 30 w3 := by
    rw [← hw3]
    have e2 : w2.heap.size = w.heap.size + 1 + 1 := by omega
    refine ⟨World.ownsRow_nil _ _ _ _, rfl, ⟨HC.out.1, HC.out.1, LeL.refl _, HC.out.2, HC.out.2, Int.le_refl _⟩, by decide, rfl, (Below.heap_alloc _ _ _ (by omega)).trans B2.out.2, by rw [← e2]; exact alloc_at0 w2 _, B2.out.1.alloc (by omega) _, by simp; omega⟩
  have HO := Lib.hid (And.intro hO hw3)
  clear hO
  simp only [ints, List.map_cons, List.map_nil] at hw3
  rw [hw3]
  clear hw3
  go_loopg [7, 32] ps.length (fun g s7 s32 wx => ∃ (k : Nat) (A : Option Addr) (c : Nat) (out : List (Int × Int × Int × Int)) (lo hi : List Int) (M : Int), k + g = ps.length ∧ s32 = .int .i64 k ∧ s7 = .slice A out.length c ∧ Hid (OutAt w h d r b c0 ps zs k A c out lo hi M wx))
  case atStart => exact ⟨0, none, 0, [], c0, c0, 30, by omega, rfl, rfl, HO.out.1⟩
  case round =>
    obtain ⟨k, A, c, out, lo, hi, M, hkg, rfl, rfl, hOk⟩ := hrel
    cases gk with
    | zero =>
      obtain rfl : k = ps.length := by omega
      have hl := hOk.out.len
      have hspl := hOk.out.split
      rw [List.drop_of_length_le (by simp; omega)] at hspl
      simp only [aheadL, List.append_nil] at hspl
      have hrow := Lib.hid (And.intro hspl (And.intro hOk.out.own hOk.out.bel))
      clear hspl hl
      go_wp2
      rw [Exit.noGoto_ret]
      go_ret
      exact ⟨A, c, by rw [hrow.out.1]; rfl, by rw [hrow.out.1]; exact own_cap_any hrow.out.2.1, by rw [hrow.out.1]; exact Vals.own hrow.out.2.1, hrow.out.2.2⟩
    | succ g =>
      have hlt : k < ps.length := by omega
      obtain ⟨wo, rfl⟩ : ∃ wo : World, wo = wr := ⟨_, rfl⟩
      have hHab := HH.out
      obtain ⟨b1, off1, hA1, hb1, hc1⟩ := HV.out.1 (by rw [pairs_len]; omega)
      subst hA1
      obtain ⟨b2, off2, hA2, hb2, hc2⟩ := HV.out.2 (by have := HZ.out; omega)
      subst hA2
      have hpa := pairs_at ps k hlt
      have hbel := hOk.out.bel
      have hr0 : wo.cell? ⟨b1, off1 + k * 2, none⟩ = _ := (hbel.cell (p := ⟨b1, off1 + k * 2, none⟩) (by simp; omega)).trans (hc1 _ _ hpa.1)
      have hr1 : wo.cell? ⟨b1, off1 + k * 2 + 1, none⟩ = _ := (hbel.cell (p := ⟨b1, off1 + k * 2 + 1, none⟩) (by simp; omega)).trans (hc1 _ _ hpa.2)
      have hpz : ∀ W, Below w.heap.size w W → W.cell? ⟨b2, off2 + k, none⟩ = _ := fun W hW => (hW.cell (p := ⟨b2, off2 + k, none⟩) (by simp; omega)).trans (hc2 k (by have := HZ.out; omega))
      have rn := rainsOk_at HR.out.1 hlt
      have pn := planOk_at HR.out.2 (k := k) (by have := HZ.out; omega)
      have hzip : (ps.zip zs).drop k = (ps[k]?.getD (0, 0), zs[k]?.getD 0) :: (ps.zip zs).drop (k + 1) := by
        have hz := HZ.out
        rw [List.drop_eq_getElem_cons (by simp; omega)]
        congr 1
        simp [hlt, show k < zs.length by omega]
      have hspl := hOk.out.split
      rw [hzip] at hspl
      generalize ps[k]?.getD (0, 0) = x at hr0 hr1 rn hspl
      generalize zs[k]?.getD 0 = n at hpz pn hspl
      obtain ⟨x1, x2⟩ := x
      simp only at hr0 hr1 rn
      obtain ⟨rn0, rn1, rn2⟩ := rn
      obtain ⟨pn0, pn1⟩ := pn
      have hM := pow11 (k := k) (by omega)
      have hmb := hOk.out.mb
      have hIn := fun i hi2 hk => in1_any hHab hOk.out.yr (show M ≤ 39930 by omega) rn0 rn1 rn2 pn0 pn1 (i := i) hi2 hk
      have hNext := hOk.out.yr.next hHab (p := (x1, x2)) rn0 rn1 rn2 pn0 pn1
      have hlw := hOk.out.lw
      have hyes := fun e => hspl.trans (congrArg (out ++ ·) (aheadL_yes (hi := hi) (x2 := x2) (rest := (ps.zip zs).drop (k + 1)) e))
      have hnot := fun e => hspl.trans (congrArg (out ++ ·) (aheadL_no (hi := hi) (x2 := x2) (rest := (ps.zip zs).drop (k + 1)) e))
      simp only [List.append_nil] at hyes hnot
      simp only at hNext
      generalize shotsL b lo h.lo x1 = s1 at hIn hNext hyes hnot
      generalize shotsL b hi h.hi x2 = s2 at hIn hNext hyes hnot
      generalize yearL lo s1 n = lo' at hIn hNext hyes hnot
      generalize yearL hi s2 n = hi' at hIn hNext hyes hnot
      generalize okY r h.keep lo s1 n = okL at hIn hyes hnot
      have HI := Lib.hid hIn
      have HN := Lib.hid hNext.2.2.2.2.2
      have HS := Lib.hid (And.intro hyes hnot)
      have HP := Lib.hid hpz
      have hwr2 := hOk.out
      have hcl : wo.cell? ⟨w.heap.size + 1, 0, none⟩ = _ := cell_of_row wo (w.heap.size + 1) 0 _ _ _ hOk.out.hE
      clear hIn hNext hspl hyes hnot hwr2 hpz hzip hc1 hc2 hpa hHab hM hmb hcl rn0 rn1 rn2
      have hbw1 : b1 < wo.heap.size := by omega
      have hkz : (k : Int) < ps.length := by omega
      go_wp2
      obtain ⟨wi, hwi⟩ : ∃ wi, (((wo.alloc (.cells #[.int .i64 x1, .int .i64 x2] 29)).alloc (.cells (ints [0, 0]).toArray 86)).alloc (.cells (ints [0, 0]).toArray 86)) = wi := ⟨_, rfl⟩
      have hbi : Below wo.heap.size wo wi := by rw [← hwi]; exact (((Below.refl _ wo).alloc (Nat.le_refl _) _).alloc (by simp) _).alloc (by simp <;> omega) _
      have hLC : LC w wo (Ei h lo hi lo' hi' 0) (Ei h lo hi lo' hi' 0) (ints [h.lo, h.hi]) (Xi s1 s2 0) (Xi s1 s2 0) (Xi lo'.sum hi'.sum 0) (Xi lo'.sum hi'.sum 0) wi := by
        refine ⟨.inl ((hbi.block _ (by omega)).trans hOk.out.hE), (hbi.block _ (by omega)).trans hOk.out.hR, .inl ?_, .inl ?_, hbel.trans (hbi.mono (by omega)), ⟨hbi.size, fun j hj _ => hbi.block j hj⟩, hlw, ?_⟩
        · rw [← hwi]; exact alloc3_at1 wo _ _ _
        · rw [← hwi]; exact alloc3_at2 wo _ _ _
        · rw [← hwi]; simp
      have HLC := Lib.hid hLC
      simp only [ints, List.map_cons, List.map_nil] at hwi
      rw [hwi]
      clear hwi hbi hLC hbel hr0 hr1
      go_loopg [42] 2 (fun g2 s42 wy => ∃ i : Nat, i + g2 = 2 ∧ s42 = .int .i64 i ∧ Hid (0 < i → okL = true) ∧ Hid (LC w wo (Ei h lo hi lo' hi' i) (Ei h lo hi lo' hi' i) (ints [h.lo, h.hi]) (Xi s1 s2 i) (Xi s1 s2 i) (Xi lo'.sum hi'.sum i) (Xi lo'.sum hi'.sum i) wy))
      case atStart => exact ⟨0, rfl, rfl, fun h => absurd h (by omega), HLC.out⟩
      case round =>
        obtain ⟨i, hig, rfl, hiok, hLi⟩ := hrel
        cases gk with
        | zero =>
          obtain rfl : i = 2 := by omega
          have hsp2 := HS.out.1 (hiok.out (by omega))
          have hown := own_keeps hOk.out.own hLi.out.kx (fun j h1 h2 => by omega)
          have hob : ∀ j, (Value.slice A out.length c).ownBlock = some j → w.heap.size + 3 ≤ j ∧ j < wo.heap.size := fun j hj => hOk.out.own.lt j hj
          have h16 : L16 w wo.heap.size (endsL h lo' hi') (ints [h.lo, h.hi]) [.int .i64 s1, .int .i64 s2] [.int .i64 lo'.sum, .int .i64 hi'.sum] wr :=
            ⟨hLi.out.hE.elim id id, hLi.out.hR, hLi.out.hX.elim id id, hLi.out.hY.elim id id, hLi.out.bel, hlw, hLi.out.lt⟩
          have hlen := hOk.out.len
          obtain ⟨i0, hi0, hz0, hz1, hz2⟩ := info_parts Tryd.info47
          have HLEN := Lib.hid hlen
          have hlen3 : out.length ≤ 3 := by omega
          have HI0 := Lib.hid (And.intro hi0 (And.intro hz0 (And.intro hz1 hz2)))
          have HSP := Lib.hid hsp2
          have H16 := Lib.hid h16
          have HOWN := Lib.hid hown
          have HOB := Lib.hid hob
          clear hi0 hz0 hz1 hz2 hsp2 hown hob h16 hiok hLi hlen
          generalize ht1 : lo'.sum = t1 at H16 HSP
          generalize ht2 : hi'.sum = t2 at H16 HSP
          clear ht1 ht2
          go_wp2
          refine R2.wp_walkT (C := L16 w wo.heap.size (endsL h lo' hi') (ints [h.lo, h.hi]) [.int .i64 s1, .int .i64 s2] [.int .i64 t1, .int .i64 t2]) (S := SApp 88 (Value.slice A out.length c).ownBlock) 91 88 (fun W => W.ownsRow (w.heap.size + 3) 47 4 (.slice A out.length c) out.length (quads out)) (by kernel_rfl) (by kernel_rfl) rfl (SApp.refl _ _) (H16.out.next (Below.refl _ _).drew)
            (fun o' W W' hx hp hs _ => own_grows hp (hs.1 hx)) HOWN.out ?_
          simp only []
          repeat
            (refine' R2.WalkR.det (fun _ => rfl) rfl (fun ρ W hW hH hU => ?_) ?_
             rotate_left
             · clear hH hU
               have HW := Lib.hid hW
               clear hW
               first
                 | exact gives_load_blk 86 (.tmp 12) rfl rfl HW.out.hX [.int .i64 s1, .int .i64 s2] at0 rowTwo ⟨rfl, SApp.refl _ _ _ _, HW.out⟩
                 | exact gives_load_blk 86 (.tmp 13) rfl rfl HW.out.hY [.int .i64 t1, .int .i64 t2] at0 rowTwo ⟨rfl, SApp.refl _ _ _ _, HW.out⟩
                 | (go_simp
                    first
                      | exact ⟨rfl, SApp.refl _ _ _ _, HW.out⟩
                      | (go_at_call 37; refine (between_any _ _ W).mono ?_; rintro e W1 ⟨rfl, hB1⟩; exact ⟨_, rfl, rfl, .of hB1, HW.out.next hB1⟩))
             simp only [Act.put, List.setIfInBounds_toArray, List.set_cons_succ, List.set_cons_zero])
          refine' R2.WalkR.tp 88 (NewSl 1 #[.int .i64 s1, .int .i64 s2, .int .i64 t1, .int .i64 t2] 47) (fun _ => rfl) rfl rfl (fun o' v W W' _ hx hv hs _ => hv.keep v W W' (hs.1 hx)) (fun ρ W hW hH hU => ?_) ?_
          · clear hH hU
            have HW := Lib.hid hW
            clear hW
            go_simp
            exact ⟨⟨_, rfl, alloc_at0 _ _⟩, .of ((Below.refl _ _).alloc (Nat.le_refl _) _), HW.out.next ((Below.refl _ _).alloc (Nat.le_refl _) _)⟩
          simp only [Act.put, List.setIfInBounds_toArray, List.set_cons_succ, List.set_cons_zero]
          refine' R2.WalkR.nd (RowIs (w.heap.size + 3) 47 4 (out.length + 1) (quads (out ++ [(s1, s2, t1, t2)]))) (fun _ => rfl) rfl rfl (fun o' v W W' hx _ hv hs _ => ?_) (fun ρ W hW hH hU => ?_) ?_
          · obtain ⟨A', c', hv, ho⟩ := hv
            exact ⟨A', c', hv, own_grows ho (hs.1 hx)⟩
          · obtain ⟨g, hv, hg⟩ := hU.1 _ (.head _) (by first | decide +kernel | (dsimp only; decide +kernel)) rfl
            have ho := hU.2 rfl
            refine gives_app (.tmp 81) (.tmp 87) 39 rfl (w.heap.size + 3) 47 i0 _ 4 32 (v := .slice A out.length c) (n := out.length) (xs := quads out) Tryd.underlying39 HI0.out.1 HI0.out.2.1 HI0.out.2.2.1 HI0.out.2.2.2 rfl (by omega) rfl ho hv
              (vals_new (vs := quads [(s1, s2, t1, t2)]) hg (lt_of_heap hg)) (by rw [quads_len]; rfl) (quads_one _) (by simp only [maxLen]; omega) (by omega) (by have := hW.lt; have := hW.lw; omega) (fun v' w' ho' hgr => ?_)
            obtain ⟨A', c', rfl⟩ := own_slice ho'
            refine ⟨⟨A', c', rfl, ?_⟩, ⟨fun hx => absurd rfl hx, hgr⟩, hW.app HOB.out hgr⟩
            rw [quads_app]
            exact ho'
          simp only [Act.put, List.setIfInBounds_toArray, List.set_cons_succ, List.set_cons_zero]
          refine' R2.WalkR.nd (RowIs (w.heap.size + 3) 47 4 (out.length + 1) (quads (out ++ [(s1, s2, t1, t2)]))) (fun _ => rfl) rfl rfl (fun o' v W W' hx hu hv hs _ => ?_) (fun ρ W hW hH hU => ?_) ?_
          · obtain ⟨A', c', hv, ho⟩ := hv
            exact ⟨A', c', hv, own_grows ho (hs.1 (hu 88 (by first | decide +kernel | (dsimp only; decide +kernel))))⟩
          · have hv := hH _ (.head _) (by first | decide +kernel | (dsimp only; decide +kernel))
            clear hH hU
            have HW := Lib.hid (And.intro hv hW)
            clear hW hv
            go_simp
            exact ⟨HW.out.1, SApp.refl _ _ _ _, HW.out.2⟩
          simp only [Act.put, List.setIfInBounds_toArray, List.set_cons_succ, List.set_cons_zero]
          refine R2.WalkR.nil (fun ρ W hW hH hF => ?_)
          obtain ⟨A', c', hv, ho⟩ := hH _ (.head _)
          have hv' : ρ 7 = .slice A' (out.length + 1) c' := hv
          have hle : (out ++ [(s1, s2, t1, t2)]).length = out.length + 1 := by simp
          have hM1 := hOk.out.mb
          have hO2 : OutAt w h d r b c0 ps zs (k + 1) A' c' (out ++ [(s1, s2, t1, t2)]) lo' hi' (11 * M) W :=
            ⟨by rw [hle, ← hv']; exact ho, by rw [List.append_assoc]; exact HSP.out, HN.out, by rw [Int.pow_succ]; omega, by have := HLEN.out; simp [this], hW.hE, hW.hR, hW.bel, by have := hW.lw; have := hW.lt; omega⟩
          have HO2 := Lib.hid hO2
          rw [hv']
          have HLE := Lib.hid hle
          clear hH hF hv hv' hM1 ho hO2 hW hle
          go_wp2
          go_roundg g
          case measure => omega
          case rel => exact ⟨k + 1, A', c', out ++ [(s1, s2, t1, t2)], lo', hi', 11 * M, by omega, by go_num, by rw [HLE.out], HO2.out⟩
        | succ g2 =>
          have hi2 : i < 2 := by omega
          obtain ⟨p, q, l, p', rate, fall, s, t, ok, hIn, hok1, hok0⟩ := HI.out i hi2 hiok.out
          generalize Ei h lo hi lo' hi' i = E at hLi hIn
          generalize hE2 : Ei h lo hi lo' hi' (i + 1) = E' at hIn
          generalize Xi s1 s2 i = X at hLi hIn
          generalize hX2 : Xi s1 s2 (i + 1) = X' at hIn
          generalize Xi lo'.sum hi'.sum i = Y at hLi hIn
          generalize hY2 : Xi lo'.sum hi'.sum (i + 1) = Y' at hIn
          have hidx := hIn.ix
          have HI1 := Lib.hid hIn
          have HOK := Lib.hid (And.intro hok1 hok0)
          have HE2 := Lib.hid (And.intro hE2 (And.intro hX2 hY2))
          have hi2z : (i : Int) < 2 := by omega
          have rowP : RowTy Tryd.prog 71 (gl h p).length := by rw [gl_len hIn.pl]; exact rowGrove
          have RP := Lib.hid rowP
          clear hIn hok1 hok0 hE2 hX2 hY2 rowP hiok
          go_wp2
          clear hidx
          refine R2.wp_walk (C := LC w wo E E (ints [h.lo, h.hi]) X X' Y Y) (S := fun _ => LS w wo 0 E X' Y (.deferred none) (.deferred none)) 91 (by kernel_rfl) (by kernel_rfl) rfl (fun _ => LS.refl) (hLi.out.one (hLi.out.hE.elim id id) (hLi.out.hX.elim id id) (hLi.out.hY.elim id id) E X' Y).drew ?_
          simp only []
          repeat (first
            | (refine' R2.WalkR.det (fun _ => rfl) rfl (fun ρ W hW hH hU => ?_) ?_
               rotate_left
               · clear hH hU
                 have HW := Lib.hid hW
                 have hrt := (cell_of_row W (w.heap.size + 1 + 1) i _ _ _ hW.hR).trans HI1.out.rt
                 clear hW
                 first
                   | exact gives_load_blk 71 (.tmp 48) rfl rfl (HW.out.hE.elim id id) (gl h p) HI1.out.at_ RP.out ⟨rfl, LS.refl _, HW.out⟩
                   | (go_simp
                      first
                        | exact ⟨rfl, LS.refl _, HW.out⟩
                        | (go_at_call 33; refine (HI1.out.sh W).mono ?_; rintro e W1 ⟨rfl, hB1⟩; exact ⟨_, rfl, rfl, LS.grows hB1, HW.out.next hB1⟩))
               simp only [Act.put, List.setIfInBounds_toArray, List.set_cons_succ, List.set_cons_zero]))
          refine' R2.WalkR.fx 55 (fun _ W => W.heap[wo.heap.size + 1]? = some (.cells X'.toArray 86 (0, 0))) (fun _ => rfl) rfl (by first | decide +kernel | (dsimp only; decide +kernel)) (by first | decide +kernel | (dsimp only; decide +kernel)) rfl (fun _ _ W W' hv hs _ => hs.sX hv) (fun ρ W hW hH hU => ?_) ?_
          · clear hH hU
            rcases hW.hX with hx | hx
            · refine gives_store_one 3 (.tmp 55) (.tmp 54) rfl rfl rfl hx (by rw [HI1.out.xl]; omega) info3s (fun W' hP hM => ?_)
              rw [HI1.out.xs] at hM
              exact ⟨hM, (hW.putX hP hM).2, (hW.putX (n₀ := 0) (Z := .deferred none) (L := .deferred none) hP hM).1⟩
            · refine gives_store_one 3 (.tmp 55) (.tmp 54) rfl rfl rfl hx (by rw [HI1.out.xl']; omega) info3s (fun W' hP hM => ?_)
              rw [HI1.out.xs'] at hM
              exact ⟨hM, (hW.putX hP hM).2, (hW.putX (n₀ := 0) (Z := .deferred none) (L := .deferred none) hP hM).1⟩
          refine R2.WalkR.nil (fun ρ W hW hH hF => ?_)
          have hX1 := hF _ (.head _)
          clear hH hF
          have HL2 := Lib.hid (hW.one (hW.hE.elim id id) hX1 (hW.hY.elim id id) E X' Y)
          clear hW hX1 hLi
          have hkz2 : (k : Int) < zs.length := by have := HZ.out; omega
          have rowL : RowTy Tryd.prog 71 (gl h l).length := by rw [gl_len HI1.out.ll]; exact rowGrove
          have RL := Lib.hid rowL
          have hspz : splice (List.replicate 13 (Value.int .i64 0)) 0 (gl h l) = gl h l := by simp [splice, gl_len HI1.out.ll]
          have HSZ := Lib.hid hspz
          clear rowL hspz
          go_wp2
          refine R2.wp_walk (C := LC w wo E E (ints [h.lo, h.hi]) X' X' Y Y) (S := fun _ => LS w wo (wo.heap.size + 3) E X' Y (.cells (List.replicate 13 (Value.int .i64 0)).toArray 71 (0, 0)) (.cells (gl h l).toArray 71 (0, 0))) 91 (by kernel_rfl) (by kernel_rfl) rfl (fun _ => LS.refl) HL2.out.drew ?_
          simp only []
          repeat
              (refine' R2.WalkR.det (fun _ => rfl) rfl (fun ρ W hW hH hU => ?_) ?_
               rotate_left
               · clear hH hU
                 have HW := Lib.hid hW
                 have hxa := (cell_of_row W (wo.heap.size + 1) i _ _ _ (hW.hX.elim id id)).trans HI1.out.xa
                 have hpz := HP.out W hW.bel
                 clear hW
                 first
                   | exact gives_load_blk 71 (.tmp 58) rfl rfl (HW.out.hE.elim id id) (gl h p) HI1.out.at_ RP.out ⟨rfl, LS.refl _, HW.out⟩
                   | (go_simp
                      first
                        | exact ⟨rfl, LS.refl _, HW.out⟩
                        | (go_at_call 34; refine (HI1.out.la W).mono ?_; rintro e W1 ⟨rfl, hB1⟩; exact ⟨_, rfl, rfl, LS.grows hB1, HW.out.next hB1⟩)
                        | (go_at_call 35; refine (HI1.out.sp W).mono ?_; rintro e W1 ⟨rfl, hB1⟩; exact ⟨_, rfl, rfl, LS.grows hB1, HW.out.next hB1⟩))
               simp only [Act.put, List.setIfInBounds_toArray, List.set_cons_succ, List.set_cons_zero])
          refine' R2.WalkR.nd (NewG (wo.heap.size + 3) (wo.heap.size + 3) (.cells (List.replicate 13 (Value.int .i64 0)).toArray 71 (0, 0)) (.cells (gl h l).toArray 71 (0, 0))) (fun _ => rfl) rfl rfl (fun _ v W W' _ _ hv hs hC => ?_) (fun ρ W hW hH hU => ?_) ?_
          · obtain ⟨g, hv, hm, h0, hz⟩ := hv
            exact ⟨g, hv, hm, h0, keepZ hs hC.lw hm hz⟩
          · clear hH hU
            have HW := Lib.hid hW
            have hlt' := hW.lt
            clear hW
            go_simp
            exact ⟨⟨_, rfl, hlt', hlt', .inl (alloc_at0 _ _)⟩, LS.grows ((Below.refl _ _).alloc (Nat.le_refl _) _), HW.out.next ((Below.refl _ _).alloc (Nat.le_refl _) _)⟩
          simp only [Act.put, List.setIfInBounds_toArray, List.set_cons_succ, List.set_cons_zero]
          refine' R2.WalkR.fx 16 (OldG (wo.heap.size + 3) (wo.heap.size + 3) (.cells (gl h l).toArray 71 (0, 0))) (fun _ => rfl) rfl (by first | decide +kernel | (dsimp only; decide +kernel)) (by first | decide +kernel | (dsimp only; decide +kernel)) rfl (fun _ v W W' hv hs hC => ?_) (fun ρ W hW hH hU => ?_) ?_
          · obtain ⟨g, hv, hm, h0, hz⟩ := hv
            exact ⟨g, hv, hm, h0, keepL hs hC.lw hm hz⟩
          · obtain ⟨g, hv, hm, h0, hz⟩ := hH _ (.head _) (by first | decide +kernel | (dsimp only; decide +kernel))
            clear hH hU
            rcases hz with hz | hz
            · refine gives_store_blk 71 (.tmp 16) (.tmp 69) rfl hv (gv_eq h l) hz (by simp [gl_len HI1.out.ll]) (gl_one h l) RL.out (fun W' hP hM => ?_)
              rw [HSZ.out] at hM
              have := hW.putG (Z := .cells (List.replicate 13 (Value.int .i64 0)).toArray 71 (0, 0)) hP hm h0 (.inl hz) hM
              exact ⟨⟨g, hv, hm, h0, hM⟩, this.2, this.1⟩
            · refine gives_store_blk 71 (.tmp 16) (.tmp 69) rfl hv (gv_eq h l) hz (by simp [gl_len HI1.out.ll]) (gl_one h l) RL.out (fun W' hP hM => ?_)
              rw [splice_same] at hM
              have := hW.putG (Z := .cells (List.replicate 13 (Value.int .i64 0)).toArray 71 (0, 0)) hP hm h0 (.inr hz) hM
              exact ⟨⟨g, hv, hm, h0, hM⟩, this.2, this.1⟩
          refine' R2.WalkR.det (fun _ => rfl) rfl (fun ρ W hW hH hU => ?_) ?_
          rotate_left
          · clear hH hU
            have HW := Lib.hid hW
            clear hW
            go_simp
            exact ⟨rfl, LS.refl _, HW.out⟩
          simp only [Act.put, List.setIfInBounds_toArray, List.set_cons_succ, List.set_cons_zero]
          refine R2.WalkR.nil (fun ρ W hW hH hF => ?_)
          obtain ⟨g, hv, hm, -, hG⟩ := hF _ (.head _)
          have hv' : ρ 16 = .pointer (some ⟨g, 0, none⟩) := hv
          rw [hv']
          clear hH hF hv hv' HL2
          have HL3 := Lib.hid (hW.one (hW.hE.elim id id) (hW.hX.elim id id) (hW.hY.elim id id) E' X' Y')
          have HG := Lib.hid (And.intro hm hG)
          clear hW hm hG
          cases ok with
          | false =>
            have hno := HS.out.2 (HOK.out.2 rfl)
            have hown := own_keeps hOk.out.own HL3.out.kx (fun j h1 h2 => by omega)
            have hbw := HL3.out.bel
            have HF := Lib.hid (And.intro hno (And.intro hown hbw))
            clear hno hown hbw
            go_wp2
            (try rw [Exit.noGoto_ret])
            go_ret
            exact ⟨A, c, by rw [HF.out.1]; rfl, by rw [HF.out.1]; exact own_cap_any HF.out.2.1, by rw [HF.out.1]; exact Vals.own HF.out.2.1, HF.out.2.2⟩
          | true =>
            obtain rfl := HI1.out.lp rfl
            go_wp2
            refine R2.wp_walk (C := fun W => LC w wo E E' (ints [h.lo, h.hi]) X' X' Y Y' W ∧ W.heap[g]? = some (.cells (gl h l).toArray 71 (0, 0))) (S := fun _ => LS w wo (wo.heap.size + 3) E' X' Y' (.cells (gl h l).toArray 71 (0, 0)) (.cells (gl h l).toArray 71 (0, 0))) 91 (by kernel_rfl) (by kernel_rfl) rfl (fun _ => LS.refl) ⟨HL3.out.drew, HG.out.2⟩ ?_
            simp only []
            repeat
              (refine' R2.WalkR.det (fun _ => rfl) rfl (fun ρ W hW hH hU => ?_) ?_
               rotate_left
               · clear hH hU
                 have HW := Lib.hid hW
                 clear hW
                 first
                   | exact gives_load_blk 71 (.tmp 16) rfl rfl HW.out.2 (gl h l) at0 RL.out ⟨rfl, LS.refl _, HW.out⟩
                   | (go_simp
                      first
                        | exact ⟨rfl, LS.refl _, HW.out⟩
                        | (go_at_call 36; refine (HI1.out.st W).mono ?_; rintro e W1 ⟨rfl, hB1⟩; exact ⟨_, rfl, rfl, LS.grows hB1, HW.out.1.next hB1, (hB1.block _ (lt_of_heap HW.out.2)).trans HW.out.2⟩))
               simp only [Act.put, List.setIfInBounds_toArray, List.set_cons_succ, List.set_cons_zero])
            refine' R2.WalkR.fx 78 (fun _ W => W.heap[w.heap.size + 1]? = some (.cells E'.toArray 85 (0, 0))) (fun _ => rfl) rfl (by first | decide +kernel | (dsimp only; decide +kernel)) (by first | decide +kernel | (dsimp only; decide +kernel)) rfl (fun _ _ W W' hv hs _ => hs.sE hv) (fun ρ W hW hH hU => ?_) ?_
            · clear hH hU
              rcases hW.1.hE with hx | hx
              · refine gives_store_blk 71 (.tmp 78) (.tmp 75) rfl rfl (gv_eq h l) hx (by rw [HI1.out.len, gl_len HI1.out.ll]; omega) (gl_one h l) RL.out (fun W' hP hM => ?_)
                rw [HI1.out.set_] at hM
                exact ⟨hM, (hW.1.putE hP hM).2, (hW.1.putE (n₀ := 0) (Z := .deferred none) (L := .deferred none) hP hM).1, (hP.other _ (by have := HG.out.1; have := hW.1.lw; omega)).trans hW.2⟩
              · refine gives_store_blk 71 (.tmp 78) (.tmp 75) rfl rfl (gv_eq h l) hx (by rw [HI1.out.el', gl_len HI1.out.ll]; omega) (gl_one h l) RL.out (fun W' hP hM => ?_)
                rw [HI1.out.es'] at hM
                exact ⟨hM, (hW.1.putE hP hM).2, (hW.1.putE (n₀ := 0) (Z := .deferred none) (L := .deferred none) hP hM).1, (hP.other _ (by have := HG.out.1; have := hW.1.lw; omega)).trans hW.2⟩
            refine' R2.WalkR.det (fun _ => rfl) rfl (fun ρ W hW hH hU => ?_) ?_
            rotate_left
            · clear hH hU
              have HW := Lib.hid hW
              clear hW
              go_simp
              exact ⟨rfl, LS.refl _, HW.out⟩
            simp only [Act.put, List.setIfInBounds_toArray, List.set_cons_succ, List.set_cons_zero]
            refine' R2.WalkR.fx 79 (fun _ W => W.heap[wo.heap.size + 1 + 1]? = some (.cells Y'.toArray 86 (0, 0))) (fun _ => rfl) rfl (by first | decide +kernel | (dsimp only; decide +kernel)) (by first | decide +kernel | (dsimp only; decide +kernel)) rfl (fun _ _ W W' hv hs _ => hs.sY hv) (fun ρ W hW hH hU => ?_) ?_
            · clear hH hU
              rcases hW.1.hY with hx | hx
              · refine gives_store_one 3 (.tmp 79) (.tmp 77) rfl rfl rfl hx (by rw [HI1.out.yl]; omega) info3s (fun W' hP hM => ?_)
                rw [HI1.out.ys] at hM
                exact ⟨hM, (hW.1.putY hP hM).2, (hW.1.putY (n₀ := 0) (Z := .deferred none) (L := .deferred none) hP hM).1, (hP.other _ (by have := HG.out.1; have := hW.1.lw; omega)).trans hW.2⟩
              · refine gives_store_one 3 (.tmp 79) (.tmp 77) rfl rfl rfl hx (by rw [HI1.out.yl']; omega) info3s (fun W' hP hM => ?_)
                rw [HI1.out.ys'] at hM
                exact ⟨hM, (hW.1.putY hP hM).2, (hW.1.putY (n₀ := 0) (Z := .deferred none) (L := .deferred none) hP hM).1, (hP.other _ (by have := HG.out.1; have := hW.1.lw; omega)).trans hW.2⟩
            refine R2.WalkR.nil (fun ρ W hW hH hF => ?_)
            have hY1 := hF _ (.head _)
            have hE1 := hF _ (.tail _ (.head _))
            clear hH hF
            have HL4 := Lib.hid (hW.1.one hE1 (hW.1.hX.elim id id) hY1 E' X' Y')
            clear hW hY1 hE1 HL3 HG
            go_wp2
            go_roundg g2
            case measure => omega
            case rel => exact ⟨i + 1, by omega, by go_num, fun _ => HOK.out.1 (by first | rfl | trivial), by rw [HE2.out.1, HE2.out.2.1, HE2.out.2.2]; exact HL4.out⟩

end Go.Proofs.YtanjolmelbipoaaDoor

