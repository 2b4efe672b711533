/-
  The law CureOrder: its walk.
-/
import Derived.Test.YtfampdiompjmeaaCgY
namespace Go.Proofs.Ytfampdiompjmeaa
open Go.RowKit Go.Shelf
open R6 (done done_ne done_me upd_ne upd_me)

attribute [local go_sem] gives

set_option maxRecDepth 100000 in
set_option maxHeartbeats 16000000 in
theorem cureOrder_main (t : Bt) (A : Option Addr) (cap : Nat) (l : List Sl) (sn tn : Int) (n : Nat) (w : World) (hz : Rows w w.heap.size A l) (hcap : l.length ≤ cap) (hok : okBatch t (rws l) = true) (s0 : 0 ≤ sn) (s1 : sn < 256) (n1 : n < 256) (t0 : 0 ≤ tn) (t1 : tn < 256) :
    Calls Try.prog 11 #[.agg (btcells t (.slice A l.length cap)), .int .u8 sn, .int .u8 (n : Int), .int .u8 tn] w fun e w' => e = .returned (.bool true) ∧ Below w.heap.size w w' := by
  have hsh := okBatch_shortL hok
  obtain ⟨hgd, g1, g2, g3, g4, g5, g6⟩ := okBatch_good hok
  have hrl : (rws l).length = l.length := by simp [rws]
  have hl1 : 1 ≤ l.length := by rw [← hrl]; exact g4
  have hl4 : l.length ≤ 4 := by have := hgd.n4; simpa [rws] using this
  have hrd := fun W (hW : Below w.heap.size w W) => ready4_any t A cap l w.heap.size W hW.size (hz.below hW) (by omega) (fun q hq => by have := hsh.2 q hq; omega)
  rw [hok] at hrd
  have hpu := pickL_bnd (n := sn) g2
  have hpi := fun W => pick_any t.lo t.hi sn (by omega) g2 (by omega) s0 (by omega) W
  generalize pickL t.lo t.hi sn = s at hpu hpi
  obtain ⟨k, hk⟩ : ∃ k : Nat, tn % (l.length : Int) = (k : Int) := ⟨(tn % (l.length : Int)).toNat, by have := Int.emod_nonneg tn (show (l.length : Int) ≠ 0 by omega); omega⟩
  have hkl : k < l.length := by have := Int.emod_lt_of_pos tn (show (0 : Int) < l.length by omega); omega
  have hk1 : tn.tmod l.length = (k : Int) := by rw [Int.tmod_eq_emod_of_nonneg t0, hk]
  have hr1 := fun W (hW : Below w.heap.size w W) => runO_any (n := n) (c := cap) (W := W) (rfl : rws l = rws l) (rfl : l.length = l.length) hok ((hz.below hW).mono hW.size) hpu.1 hpu.2 (by omega)
  have hr2 := fun (A' : Option Addr) (c' : Nat) W (hR : Rows W W.heap.size A' (rot k l)) => runO_any (n := n) (c := c') (W := W) (rws_rot k l) (rot_len k l) (by rw [okBatch_rot]; exact hok) hR hpu.1 hpu.2 (by omega)
  have ht1 := fun W (hW : Below w.heap.size w W) => treO_any (n := n) (c := cap) (W := W) (rfl : rws l = rws l) (rfl : l.length = l.length) hok ((hz.below hW).mono hW.size) (by omega)
  have ht2 := fun (A' : Option Addr) (c' : Nat) W (hR : Rows W W.heap.size A' (rot k l)) => treO_any (n := n) (c := c') (W := W) (rws_rot k l) (rot_len k l) (by rw [okBatch_rot]; exact hok) hR (by omega)
  rw [knownL_rot t (rws l) k n (by omega)] at ht2
  simp only [runS_rot] at hr2
  have hgs : GoodS t.water (runS t.water s (t.borax, rws l) n) := runS_good (by omega) (by omega) hgd n
  have hL1 : (knownL t (rws l) n).length = l.length := by rw [knownL_len, hrl]
  have hst : (runS t.water s (t.borax, rws l) n).2.length = l.length := by rw [lens_len (lens_run _ _ _ _), hrl]
  generalize runS t.water s (t.borax, rws l) n = st at hr1 hr2 hgs hst
  generalize knownL t (rws l) n = L1 at ht1 ht2 hL1
  unfold RunO at hr1 hr2
  unfold TreO at ht1 ht2
  obtain ⟨ab, off, hA, hab, hca⟩ := hz.va (by rw [slvs_len]; omega)
  subst hA
  obtain ⟨i0, hi, hz0, hz1, hz2⟩ := info_parts infoSl
  have HI := Lib.hid (And.intro hi (And.intro hz0 (And.intro hz1 hz2)))
  have hx1 : IntKind.u32.wrap sn = sn := IntWalk.u32_in _ (by omega)
  have hx2 : IntKind.i64.wrap tn = tn := IntWalk.i64_in _ (by omega)
  have hx3 : IntKind.i64.wrap (n : Int) = n := IntWalk.i64_in _ (by omega)
  have hx4 : IntKind.i64.wrap (k : Int) = k := IntWalk.i64_in _ (by omega)
  have hln : ¬ (l.length : Int) = 0 := by omega
  have hln2 : ¬ l.length = 0 := by omega
  have h0 := boxD w (btcells t (.slice (some ⟨ab, off, none⟩) l.length cap)) 28
  have HF := Lib.hid (And.intro hrd (And.intro hpi (And.intro hr1 (And.intro hr2 (And.intro ht1 ht2)))))
  have HS := Lib.hid (And.intro hgs (And.intro hst (And.intro hL1 (And.intro hab hca))))
  have HK := Lib.hid (And.intro hkl (And.intro hcap (And.intro hl1 hl4)))
  have H0 := Lib.hid h0
  have HZ := Lib.hid hz
  clear hrd hpi hr1 hr2 ht1 ht2 hgs hst hL1 hab hca h0 hz hok hsh hgd g1 g2 g3 g4 g5 g6 hrl hpu hk hi hz0 hz1 hz2
  unfold btcells at H0 HF ⊢
  go_enter Try.func11, Try.ntmps11
  go_wp2_with (first
    | (show wpList _ _ _ (Oper.mk none (Op.store _ (Operand.tmp 11) (Operand.tmp 36)) _ _ _ _ :: _) _ _
       refine wpList_store_blk 28 (.tmp 11) (.tmp 36) (cs := btl t (.slice (some ⟨ab, off, none⟩) l.length cap)) (L := zero6) rfl rfl rfl rfl rfl (alloc_at0 _ _) (by simp [btl, zero6]) (btl_one _ _ _ _) rowApiBatch ?_
       intro w4 hP4 hM4
       rw [splice_whole (by simp [btl, zero6])] at hM4
       have hg4 : Grows w3 w4 := (grow1 w3 _).trans (hP4.below (Nat.le_refl _))
       have hs4 : w4.heap.size = w3.heap.size + 1 := by rw [hP4.size]; simp
       have H4 := Lib.hid (And.intro (H3.out.any (D' := fun _ => false) (σ' := fun _ => undef) hg4) (And.intro hM4 hs4))
       clear hP4 hM4 hg4 hs4)
    | (go_at_call 36; refine (HF.out.1 w2 H2.out.bel).mono ?_; rintro e w3 ⟨rfl, hB3⟩
       have h3 := H2.out.any (D' := fun _ => false) (σ' := fun _ => undef) hB3
       have hc3 := fun i => cell_of_row w3 w.heap.size i _ _ _ h3.box
       have H3 := Lib.hid h3; clear hB3 h3 hc2)
    | (go_at_call 14; refine (alive_any _).mono ?_; rintro e w2 ⟨rfl, hB2⟩
       have h2 := H0.out.any (D' := fun _ => false) (σ' := fun _ => undef) hB2
       have hc2 := fun i => cell_of_row w2 w.heap.size i _ _ _ h2.box
       have H2 := Lib.hid h2; clear hB2 h2))
  obtain ⟨nb, hnb⟩ : ∃ nb, nb = w3.heap.size := ⟨_, rfl⟩
  simp only [← hnb]
  have h5 : w.heap.size < nb := by rw [hnb]; exact lt_of_heap H3.out.box
  have hm5 : w4.heap[nb]? = some (.cells (btl t (.slice (some ⟨ab, off, none⟩) l.length cap)).toArray 28 (0, 0)) := by rw [hnb]; exact H4.out.2.1
  have hs5 : w4.heap.size = nb + 1 := by rw [hnb]; exact H4.out.2.2
  have H5 := Lib.hid (And.intro H4.out.1 (And.intro hm5 (And.intro hs5 h5)))
  clear hnb hm5 hs5 h5 hc3
  refine R6.wp_walk (C := TurnC nb (nb + 1) nb w4 (slvs (l.drop k)) (slvs (l.take k)) true (btl t (.slice (some ⟨ab, off, none⟩) l.length cap)) 28 0 37 5 42 10 47 12) 156 (by kernel_rfl) (by kernel_rfl) rfl (TurnC.start (Below.refl _ _) (by rw [H5.out.2.2.1]; exact Nat.le_refl _) (fun _ => H5.out.2.1) (fun _ => rfl)) ?_
  simp only []
  refine' R6.WalkR.nd (fun _ => rfl) rfl (fun D ρ W hK hC => ?_) ?_
  · have h1 := hK.post 5 (by first | exact needs_edge (by decide +kernel) | decide +kernel)
    have h2 := hK.post 10 (by first | exact needs_edge (by decide +kernel) | decide +kernel)
    have h3 := hK.post 12 (by first | exact needs_edge (by decide +kernel) | decide +kernel)
    have hb := hC.built (by decide) (by omega) h1 h2 (fun _ => h3)
    have HC := Lib.hid hb
    clear hC hK hb h1 h2 h3
    go_simp
    exact HC.out
  simp only [Act.put, List.setIfInBounds_toArray, List.set_cons_succ, List.set_cons_zero]
  have hkz : (k : Int) ≤ l.length := by omega
  have hk0 : (0 : Int) ≤ k := by omega
  have hkc : (k : Int) ≤ cap := by omega
  have hck : ¬ cap = k := by omega
  have hck0 : ¬ cap = 0 := by omega
  repeat (first
    | (refine' R6.WalkR.det (fun _ => rfl) (fun D ρ W hK hC => ?_) ?_
       rotate_left
       · have hcb := fun i => cell_of_row W w.heap.size i _ _ _ ((hC.bel.block _ H5.out.2.2.2).trans H5.out.1.box)
         have HC := Lib.hid hC
         clear hC hK
         go_simp
         first
           | with_reducible exact ⟨rfl, HC.out.move (by decide)⟩
           | fail
       simp only [Act.put, List.setIfInBounds_toArray, List.set_cons_succ, List.set_cons_zero]))
  refine' R6.WalkR.nd (fun _ => rfl) rfl (fun D ρ W hK hC => ?_) ?_
  · have h2 := hK.post 10 (by first | exact needs_edge (by decide +kernel) | decide +kernel)
    have h3 := hK.post 12 (by first | exact needs_edge (by decide +kernel) | decide +kernel)
    have h0 := hK.pre 0 (by first | exact needs_edge (by decide +kernel) | decide +kernel)
    have hblk : W.heap[ab]? = w.heap[ab]? := (hC.bel.block ab (by have := HS.out.2.2.2.1; have := H5.out.2.2.2; omega)).trans (H5.out.1.bel.block ab HS.out.2.2.2.1)
    have hcl : ∀ (j : Nat) v, (slvs l)[j]? = some v → W.cell? ⟨ab, off + j, none⟩ = some v := fun j v hv => (World.cell?_of_block (w := w) hblk).trans (HS.out.2.2.2.2 j v hv)
    have hV : Vals W nb (some (⟨ab, off + k, none⟩ : Addr)) (slvs (l.drop k)) := fun _ => ⟨ab, off + k, rfl, by have := HS.out.2.2.2.1; have := H5.out.2.2.2; omega, fun j v hv => by
      rw [Nat.add_assoc]
      exact hcl (k + j) v (by simpa [slvs, List.getElem?_drop] using hv)⟩
    refine gives_app (.tmp 37) (.tmp 41) 24 rfl (nb + 1) 47 i0 _ 1 24 (v := ρ 37) (n := 0) (xs := []) Try.underlying24 HI.out.1 HI.out.2.1 HI.out.2.2.1 HI.out.2.2.2 rfl (by omega) rfl (hC.e0 h0 hK.me)
      (A := some (⟨ab, off + k, none⟩ : Addr)) (m := l.length - k) (c := cap - k) rfl hV (by simp [slvs]) (slvs_one _) (by have := HK.out.2.2.2; simp only [maxLen]; omega) (by have := HK.out.2.2.2; omega) hC.lb (fun v' w' ho' hgr => ?_)
    have ho : w'.ownsRow (nb + 1) 47 1 v' (slvs (l.drop k)).length (slvs (l.drop k)) := by
      have e : (slvs (l.drop k)).length = 0 + (l.length - k) := by simp [slvs]
      rw [e]
      simpa using ho'
    exact hC.app1 (by decide) (by omega) (fun _ => by omega) h0 hK.me h2 (fun _ => h3) ho hgr
  simp only [Act.put, List.setIfInBounds_toArray, List.set_cons_succ, List.set_cons_zero]
  repeat (first
    | (refine' R6.WalkR.det (fun _ => rfl) (fun D ρ W hK hC => ?_) ?_
       rotate_left
       · have hcb := fun i => cell_of_row W w.heap.size i _ _ _ ((hC.bel.block _ H5.out.2.2.2).trans H5.out.1.box)
         have HC := Lib.hid hC
         clear hC hK
         go_simp
         first
           | with_reducible exact ⟨rfl, HC.out.move (by decide)⟩
           | fail
       simp only [Act.put, List.setIfInBounds_toArray, List.set_cons_succ, List.set_cons_zero]))
  refine' R6.WalkR.nd (fun _ => rfl) rfl (fun D ρ W hK hC => ?_) ?_
  · have h3 := hK.post 12 (by first | exact needs_edge (by decide +kernel) | decide +kernel)
    have h1 := hK.pre 5 (by first | exact needs_edge (by decide +kernel) | decide +kernel)
    have hblk : W.heap[ab]? = w.heap[ab]? := (hC.bel.block ab (by have := HS.out.2.2.2.1; have := H5.out.2.2.2; omega)).trans (H5.out.1.bel.block ab HS.out.2.2.2.1)
    have hcl : ∀ (j : Nat) v, (slvs l)[j]? = some v → W.cell? ⟨ab, off + j, none⟩ = some v := fun j v hv => (World.cell?_of_block (w := w) hblk).trans (HS.out.2.2.2.2 j v hv)
    have hV : Vals W nb (some (⟨ab, off, none⟩ : Addr)) (slvs (l.take k)) := fun _ => ⟨ab, off, rfl, by have := HS.out.2.2.2.1; have := H5.out.2.2.2; omega, fun j v hv => by
      have hj : j < k := by have := (List.getElem?_eq_some_iff.1 hv).1; simp [slvs] at this; omega
      exact hcl j v (by rw [← hv]; simp [slvs, List.getElem?_take_of_lt hj])⟩
    refine gives_app (.tmp 42) (.tmp 46) 24 rfl (nb + 1) 47 i0 _ 1 24 (v := ρ 42) (n := (slvs (l.drop k)).length) (xs := slvs (l.drop k)) Try.underlying24 HI.out.1 HI.out.2.1 HI.out.2.2.1 HI.out.2.2.2 rfl (by omega) rfl (hC.e1 h1 hK.me)
      (A := some (⟨ab, off, none⟩ : Addr)) (m := k) (c := cap) rfl hV (by have := HK.out.1; simp [slvs]; omega) (slvs_one _) (by have := HK.out.2.2.2; simp [slvs, maxLen]; omega) (by have := HK.out.2.2.2; have := HK.out.1; simp [slvs]; omega) hC.lb (fun v' w' ho' hgr => ?_)
    have ho : w'.ownsRow (nb + 1) 47 1 v' ((slvs (l.drop k)).length + (slvs (l.take k)).length) (slvs (l.drop k) ++ slvs (l.take k)) := by
      have e : (slvs (l.take k)).length = k := by have := HK.out.1; simp [slvs]; omega
      rw [e]
      exact ho'
    exact hC.app2 (by decide) (by omega) (fun _ => by omega) h1 hK.me (fun _ => h3) ho hgr
  simp only [Act.put, List.setIfInBounds_toArray, List.set_cons_succ, List.set_cons_zero]
  repeat (first
    | (refine' R6.WalkR.det (fun _ => rfl) (fun D ρ W hK hC => ?_) ?_
       rotate_left
       · skip
         have HC := Lib.hid hC
         clear hC hK
         go_simp
         first
           | with_reducible exact ⟨rfl, HC.out.move (by decide)⟩
           | fail
       simp only [Act.put, List.setIfInBounds_toArray, List.set_cons_succ, List.set_cons_zero]))
  refine' R6.WalkR.det (c := undef) (fun _ => rfl) (fun D ρ W hK hC => ?_) ?_
  · have h1 := hK.pre 5 (by first | exact needs_edge (by decide +kernel) | decide +kernel)
    have h2 := hK.pre 10 (by first | exact needs_edge (by decide +kernel) | decide +kernel)
    obtain ⟨A', c', hv⟩ := own_slice (hC.e2 h2)
    refine gives_store_val 24 (.tmp 48) (.tmp 47) rfl rfl hv rfl rfl (hC.x0 rfl hK.me) (by simp [btl]) sizeSl1 ?_
    intro W1 hP hM1
    exact ⟨rfl, hC.put (by decide) (Nat.le_refl _) (by omega) h1 h2 hP (by rw [hv]; exact hM1)⟩
  simp only [Act.put]
  refine R6.WalkR.nil (fun D ρ W5 hD' hC => ?_)
  have hO5 := hC.e2 (hD' 10 (by decide))
  have hX5 := hC.x1 rfl (hD' 12 (by decide))
  obtain ⟨A', c', hv⟩ := own_slice hO5
  have hsl : slvs (l.drop k) ++ slvs (l.take k) = slvs (rot k l) := by simp [slvs, rot]
  have hsn : (slvs (l.drop k)).length + (slvs (l.take k)).length = l.length := by rw [← List.length_append, hsl, slvs_len, rot_len]
  rw [hv, hsn] at hX5
  rw [hv, hsl, hsn] at hO5
  have hb5 := H5.out.1.bel.trans (below_low hC.bel (by have := H5.out.2.2.2; omega))
  have h6 : W5.heap[w.heap.size]? = some (.cells #[.int .i64 t.water, .int .i64 t.borax, .slice (some ⟨ab, off, none⟩) l.length cap, .int .i64 t.lo, .int .i64 t.hi, .int .i64 t.need] 28 (0, 0)) := (hC.bel.block _ H5.out.2.2.2).trans H5.out.1.box
  have hR5 : Rows W5 W5.heap.size A' (rot k l) := (HZ.out.below hb5).rot (Vals.own hO5) hb5.size
  have hx5 : W5.heap[nb]? = some (.cells (btl t (.slice A' l.length c')).toArray 28 (0, 0)) := hX5
  have hc5 := fun i => cell_of_row W5 w.heap.size i _ _ _ h6
  have hd5 := fun i => cell_of_row W5 nb i _ _ _ hx5
  unfold btl at hd5
  have h6' : OrdC w #[.int .i64 t.water, .int .i64 t.borax, .slice (some ⟨ab, off, none⟩) l.length cap, .int .i64 t.lo, .int .i64 t.hi, .int .i64 t.need] nb (btl t (.slice A' l.length c')) A' (rot k l) W5 := ⟨hb5, h6, hx5, hR5⟩
  have H6 := Lib.hid h6'
  clear hC hD' hO5 hX5 hv hsl hsn hb5 h6 hR5 hx5 h6'
  go_wp2_with (first
    | (go_at_call 18; refine (HF.out.2.2.2.2.2 A' c' w9 H10.out.1.rows).mono ?_; rintro e w10 ⟨A11, c11, rfl, hO11, hB11⟩
       have h11 := H10.out.1.next hB11
       have hc11 := fun i => cell_of_row w10 w.heap.size i _ _ _ h11.b0
       have H11 := Lib.hid (And.intro h11 (And.intro hO11 hB11))
       clear h11 hO11 hB11 hc10 hd10)
    | (go_at_call 18; refine (HF.out.2.2.2.2.1 w8 H9.out.1.bel).mono ?_; rintro e w9 ⟨A10, c10, rfl, hO10, hB10⟩
       have h10 := H9.out.1.next hB10
       have hc10 := fun i => cell_of_row w9 w.heap.size i _ _ _ h10.b0
       have hd10 := fun i => cell_of_row w9 nb i _ _ _ h10.x
       unfold btl at hd10
       have H10 := Lib.hid (And.intro h10 (And.intro hO10 hB10))
       clear h10 hO10 hB10 hc9 hd9)
    | (go_at_call 17; refine (HF.out.2.2.2.1 A' c' w7 H8.out.1.rows).mono ?_; rintro e w8 ⟨A9, c9, l9, rfl, hn9, hr9, hO9, hB9⟩
       have h9 := H8.out.1.next hB9
       have hc9 := fun i => cell_of_row w8 w.heap.size i _ _ _ h9.b0
       have hd9 := fun i => cell_of_row w8 nb i _ _ _ h9.x
       unfold btl at hd9
       have H9 := Lib.hid (And.intro h9 (And.intro hn9 (And.intro hr9 (And.intro hO9 hB9))))
       clear h9 hn9 hr9 hO9 hB9 hc8 hd8)
    | (go_at_call 17; refine (HF.out.2.2.1 w6 H7.out.bel).mono ?_; rintro e w7 ⟨A8, c8, l8, rfl, hn8, hr8, hO8, hB8⟩
       have h8 := H7.out.next hB8
       have hc8 := fun i => cell_of_row w7 w.heap.size i _ _ _ h8.b0
       have hd8 := fun i => cell_of_row w7 nb i _ _ _ h8.x
       unfold btl at hd8
       have H8 := Lib.hid (And.intro h8 (And.intro hn8 (And.intro hr8 (And.intro hO8 hB8))))
       clear h8 hn8 hr8 hO8 hB8 hc7 hd7)
    | (go_at_call 37; refine (HF.out.2.1 W5).mono ?_; rintro e w6 ⟨rfl, hB7⟩
       have h7 := H6.out.next hB7
       have hc7 := fun i => cell_of_row w6 w.heap.size i _ _ _ h7.b0
       have hd7 := fun i => cell_of_row w6 nb i _ _ _ h7.x
       unfold btl at hd7
       have H7 := Lib.hid h7
       clear h7 hB7 hc5 hd5))
  clear hc11
  have hg78 : Grows w7 w10 := (H9.out.2.2.2.2).trans ((H10.out.2.2.mono H9.out.2.2.2.2.size).trans (H11.out.2.2.mono (Nat.le_trans H9.out.2.2.2.2.size H10.out.2.2.size)))
  have hg89 : Grows w8 w10 := H10.out.2.2.trans (H11.out.2.2.mono H10.out.2.2.size)
  have hO8 : OwnR w10 w6.heap.size (.slice A8 l.length c8) l8 := by have := H8.out.2.2.2.1.grows hg78; rwa [H8.out.2.1] at this
  have hO9 := H9.out.2.2.2.1.grows hg89
  have hR8 := (H8.out.2.2.2.1.grows hg78).rows
  have hR9 := hO9.rows
  have hrow8 : w10.ownsRow w6.heap.size 47 1 (.slice A8 l.length c8) l.length (slvs l8) := by have := hO8.row; rwa [H8.out.2.1] at this
  have hX10 : w10.ownsRow w8.heap.size 5 1 (.slice A10 l.length c10) l.length (u8s L1) := by have := H10.out.2.1.grows H11.out.2.2; unfold OwnU at this; rwa [HS.out.2.2.1] at this
  have hY11 : w10.ownsRow w9.heap.size 5 1 (.slice A11 l.length c11) l.length (u8s (rot k L1)) := by have := H11.out.2.1; unfold OwnU at this; rwa [rot_len, HS.out.2.2.1] at this
  obtain ⟨g8, rfl, -, hg8, hc8', hp8⟩ := own_open hrow8 HK.out.2.2.1
  obtain ⟨g10, rfl, -, hg10, hc10', hx10⟩ := own_open hX10 HK.out.2.2.1
  obtain ⟨g11, rfl, -, hg11, hc11', hy11⟩ := own_open hY11 HK.out.2.2.1
  have hcv : ∃ S1 S2 S3 : ByteArray, ∀ W, Below w10.heap.size w10 W → (convert 33 9 (.slice (some ⟨g10, k, none⟩) (l.length - k) (c10 - k))).run Try.prog W = .ok (.string S1) W ∧ (convert 33 9 (.slice (some ⟨g10, 0, none⟩) k c10)).run Try.prog W = .ok (.string S2) W ∧ (convert 33 9 (.slice (some ⟨g11, 0, none⟩) l.length c11)).run Try.prog W = .ok (.string S3) W ∧ (Op.stringOp .add S1 S2).run Try.prog W = .ok (.string S3) W := by
    refine ⟨strOfNums (L1.drop k), strOfNums (L1.take k), strOfNums (rot k L1), fun W hW => ?_⟩
    have hkl := HK.out.1
    have hln1 := HS.out.2.2.1
    have e1 : (L1.drop k).length = l.length - k := by simp [hln1]
    have e2 : (L1.take k).length = k := by simp [hln1]; omega
    have e3 : (rot k L1).length = l.length := by rw [rot_len, hln1]
    have hcx : ∀ (j : Nat) v, (u8s L1)[j]? = some v → W.cell? ⟨g10, j, none⟩ = some v := fun j v hv => (World.cell?_of_block (w := w10) (hW.block g10 hg10)).trans (hx10 j v hv)
    have hcy : ∀ (j : Nat) v, (u8s (rot k L1))[j]? = some v → W.cell? ⟨g11, j, none⟩ = some v := fun j v hv => (World.cell?_of_block (w := w10) (hW.block g11 hg11)).trans (hy11 j v hv)
    have v1 := conv_some (W := W) (b := g10) (off := k) (c := c10 - k) (zs := L1.drop k) (fun i hi => hcx (k + i) _ (by simp [u8s, List.getElem?_drop]; rw [List.getElem?_eq_getElem (by omega)]; simp))
    have v2 := conv_some (W := W) (b := g10) (off := 0) (c := c10) (zs := L1.take k) (fun i hi => by
      rw [Nat.zero_add]
      refine hcx i _ ?_
      rw [List.getElem?_take_of_lt (by omega)]
      exact u8s_get (by omega))
    have v3 := conv_some (W := W) (b := g11) (off := 0) (c := c11) (zs := rot k L1) (fun i hi => by rw [Nat.zero_add]; exact hcy i _ (u8s_get hi))
    rw [e1] at v1
    rw [e2] at v2
    rw [e3] at v3
    refine ⟨v1, v2, v3, ?_⟩
    rw [run_string_add_sum W _ _ (by rw [strOfNums_size, strOfNums_size]; have := HK.out.2.2.2; omega), str_app]
    rfl
  obtain ⟨S1, S2, S3, hcv⟩ := hcv
  have HCV := Lib.hid hcv
  have HP := Lib.hid (And.intro hg8 hp8)
  have HR := Lib.hid (And.intro hR8 (And.intro hR9 hO8))
  have hkc8 : (k : Int) ≤ c8 := by omega
  have hck8 : ¬ c8 = k := by omega
  have hck80 : ¬ c8 = 0 := by omega
  have hkc10 : (k : Int) ≤ c10 := by omega
  have hck10 : ¬ c10 = k := by omega
  have hck100 : ¬ c10 = 0 := by omega
  clear hg78 hg89 hO8 hO9 hR8 hR9 hrow8 hX10 hY11 hg8 hp8 hg10 hx10 hg11 hy11 hcv hc8' hc10' hc11'
  refine R6.wp_walk (C := TurnC w10.heap.size w10.heap.size 0 w10 (slvs (l8.drop k)) (slvs (l8.take k)) false [] 0 2 130 6 134 10 138 99) 156 (by kernel_rfl) (by kernel_rfl) rfl (TurnC.start (Below.refl _ _) (Nat.le_refl _) (fun e => by cases e) (fun _ => rfl)) ?_
  simp only []
  repeat (first
    | (refine' R6.WalkR.det (fun _ => rfl) (fun D ρ W hK hC => ?_) ?_
       rotate_left
       · skip
         have HC := Lib.hid hC
         clear hC hK
         go_simp
         first
           | with_reducible exact ⟨rfl, HC.out.move (by decide)⟩
           | fail
       simp only [Act.put, List.setIfInBounds_toArray, List.set_cons_succ, List.set_cons_zero]))
  refine' R6.WalkR.nd (fun _ => rfl) rfl (fun D ρ W hK hC => ?_) ?_
  · have h1 := hK.post 6 (by first | exact needs_edge (by decide +kernel) | decide +kernel)
    have h2 := hK.post 10 (by first | exact needs_edge (by decide +kernel) | decide +kernel)
    have hb := hC.built (by decide) (Nat.le_refl _) h1 h2 (fun e => by cases e)
    have HC := Lib.hid hb
    clear hC hK hb h1 h2
    go_simp
    exact HC.out
  simp only [Act.put, List.setIfInBounds_toArray, List.set_cons_succ, List.set_cons_zero]
  repeat (first
    | (refine' R6.WalkR.det (fun _ => rfl) (fun D ρ W hK hC => ?_) ?_
       rotate_left
       · skip
         have HC := Lib.hid hC
         clear hC hK
         go_simp
         first
           | with_reducible exact ⟨rfl, HC.out.move (by decide)⟩
           | fail
       simp only [Act.put, List.setIfInBounds_toArray, List.set_cons_succ, List.set_cons_zero]))
  refine' R6.WalkR.nd (fun _ => rfl) rfl (fun D ρ W hK hC => ?_) ?_
  · have h2 := hK.post 10 (by first | exact needs_edge (by decide +kernel) | decide +kernel)
    have h0 := hK.pre 2 (by first | exact needs_edge (by decide +kernel) | decide +kernel)
    have hblk : W.heap[g8]? = w10.heap[g8]? := hC.bel.block g8 HP.out.1
    have hcl : ∀ (j : Nat) v, (slvs l8)[j]? = some v → W.cell? ⟨g8, j, none⟩ = some v := fun j v hv => (World.cell?_of_block (w := w10) hblk).trans (HP.out.2 j v hv)
    have hV : Vals W w10.heap.size (some (⟨g8, k, none⟩ : Addr)) (slvs (l8.drop k)) := fun _ => ⟨g8, k, rfl, HP.out.1, fun j v hv => hcl (k + j) v (by simpa [slvs, List.getElem?_drop] using hv)⟩
    refine gives_app (.tmp 130) (.tmp 133) 24 rfl w10.heap.size 47 i0 _ 1 24 (v := ρ 130) (n := 0) (xs := []) Try.underlying24 HI.out.1 HI.out.2.1 HI.out.2.2.1 HI.out.2.2.2 rfl (by omega) rfl (hC.e0 h0 hK.me)
      (A := some (⟨g8, k, none⟩ : Addr)) (m := l.length - k) (c := c8 - k) rfl hV (by simp [slvs, H8.out.2.1]) (slvs_one _) (by have := HK.out.2.2.2; simp only [maxLen]; omega) (by have := HK.out.2.2.2; omega) hC.lb (fun v' w' ho' hgr => ?_)
    have ho : w'.ownsRow w10.heap.size 47 1 v' (slvs (l8.drop k)).length (slvs (l8.drop k)) := by
      have e : (slvs (l8.drop k)).length = 0 + (l.length - k) := by simp [slvs, H8.out.2.1]
      rw [e]
      simpa using ho'
    exact hC.app1 (by decide) (Nat.le_refl _) (fun e => by cases e) h0 hK.me h2 (fun e => by cases e) ho hgr
  simp only [Act.put, List.setIfInBounds_toArray, List.set_cons_succ, List.set_cons_zero]
  repeat (first
    | (refine' R6.WalkR.det (fun _ => rfl) (fun D ρ W hK hC => ?_) ?_
       rotate_left
       · skip
         have HC := Lib.hid hC
         clear hC hK
         go_simp
         first
           | with_reducible exact ⟨rfl, HC.out.move (by decide)⟩
           | fail
       simp only [Act.put, List.setIfInBounds_toArray, List.set_cons_succ, List.set_cons_zero]))
  refine' R6.WalkR.nd (fun _ => rfl) rfl (fun D ρ W hK hC => ?_) ?_
  · have h1 := hK.pre 6 (by first | exact needs_edge (by decide +kernel) | decide +kernel)
    have hblk : W.heap[g8]? = w10.heap[g8]? := hC.bel.block g8 HP.out.1
    have hcl : ∀ (j : Nat) v, (slvs l8)[j]? = some v → W.cell? ⟨g8, j, none⟩ = some v := fun j v hv => (World.cell?_of_block (w := w10) hblk).trans (HP.out.2 j v hv)
    have hkl := HK.out.1
    have hn8 := H8.out.2.1
    have hV : Vals W w10.heap.size (some (⟨g8, 0, none⟩ : Addr)) (slvs (l8.take k)) := fun _ => ⟨g8, 0, rfl, HP.out.1, fun j v hv => by
      have hj : j < k := by have := (List.getElem?_eq_some_iff.1 hv).1; simp [slvs] at this; omega
      rw [Nat.zero_add]
      exact hcl j v (by rw [← hv]; simp [slvs, List.getElem?_take_of_lt hj])⟩
    have e : (slvs (l8.take k)).length = k := by simp [slvs]; omega
    have e' : (slvs (l8.drop k)).length = l.length - k := by simp [slvs, hn8]
    refine gives_app (.tmp 134) (.tmp 137) 24 rfl w10.heap.size 47 i0 _ 1 24 (v := ρ 134) (n := (slvs (l8.drop k)).length) (xs := slvs (l8.drop k)) Try.underlying24 HI.out.1 HI.out.2.1 HI.out.2.2.1 HI.out.2.2.2 rfl (by omega) rfl (hC.e1 h1 hK.me)
      (A := some (⟨g8, 0, none⟩ : Addr)) (m := k) (c := c8) rfl hV (by rw [e, Nat.mul_one]) (slvs_one _) (by have := HK.out.2.2.2; rw [e']; simp only [maxLen]; omega) (by have := HK.out.2.2.2; rw [e']; omega) hC.lb (fun v' w' ho' hgr => ?_)
    have ho : w'.ownsRow w10.heap.size 47 1 v' ((slvs (l8.drop k)).length + (slvs (l8.take k)).length) (slvs (l8.drop k) ++ slvs (l8.take k)) := by
      rw [e]
      exact ho'
    exact hC.app2 (by decide) (Nat.le_refl _) (fun e => by cases e) h1 hK.me (fun e => by cases e) ho hgr
  simp only [Act.put, List.setIfInBounds_toArray, List.set_cons_succ, List.set_cons_zero]
  repeat (first
    | (refine' R6.WalkR.det (fun _ => rfl) (fun D ρ W hK hC => ?_) ?_
       rotate_left
       · skip
         have HC := Lib.hid hC
         clear hC hK
         go_simp
         first
           | with_reducible exact ⟨rfl, HC.out.move (by decide)⟩
           | fail
       simp only [Act.put, List.setIfInBounds_toArray, List.set_cons_succ, List.set_cons_zero]))
  refine' R6.WalkR.det (c := .bool true) (fun _ => rfl) (fun D ρ W hK hC => ?_) ?_
  · have h2 := hK.pre 10 (by first | exact needs_edge (by decide +kernel) | decide +kernel)
    have hO := hC.e2 h2
    obtain ⟨B1, d1, hv⟩ := own_slice hO
    have hn8 := H8.out.2.1
    have hn9 := H9.out.2.1
    have hsl : slvs (l8.drop k) ++ slvs (l8.take k) = slvs (rot k l8) := by simp [slvs, rot]
    have hsn : (slvs (l8.drop k)).length + (slvs (l8.take k)).length = l.length := by rw [← List.length_append, hsl, slvs_len, rot_len, hn8]
    rw [hsn] at hv hO
    rw [hv, hsl] at hO
    have hRr : Rows W W.heap.size B1 (rot k l8) := ((HR.out.1.below hC.bel).mono hC.lb).rot (k := k) (Vals.own hO) (Nat.le_refl _)
    have hR9 : Rows W W.heap.size A9 l9 := (HR.out.2.1.below hC.bel).mono hC.lb
    have hsc := sameCells_any B1 A9 d1 c9 (rot k l8) l9 W.heap.size W (Nat.le_refl _) hRr hR9 (by rw [rws_rot, H8.out.2.2.1, H9.out.2.2.1]) (by
      have := small_good HS.out.1 H8.out.2.2.1
      exact ⟨by rw [rot_len]; exact this.1, fun q hq => this.2 q (mem_rot hq)⟩)
    rw [rot_len, hn8, hn9] at hsc
    have HSC := Lib.hid hsc
    have HC := Lib.hid hC
    clear hC hK h2 hO hRr hR9 hsc hsl hsn hn8 hn9
    rw [hv]
    clear hv
    go_simp
    go_at_call 28
    refine HSC.out.mono ?_
    rintro e W1 ⟨rfl, hB1⟩
    exact ⟨_, rfl, rfl, HC.out.next (Nat.le_refl _) hB1 (by decide)⟩
  simp only [Act.put, List.setIfInBounds_toArray, List.set_cons_succ, List.set_cons_zero]
  repeat (first
    | (refine' R6.WalkR.det (fun _ => rfl) (fun D ρ W hK hC => ?_) ?_
       rotate_left
       · obtain ⟨cv1, cv2, cv3, cv4⟩ := HCV.out W hC.bel
         have HC := Lib.hid hC
         clear hC hK
         go_simp
         first
           | with_reducible exact ⟨rfl, HC.out.move (by decide)⟩
           | fail
       simp only [Act.put, List.setIfInBounds_toArray, List.set_cons_succ, List.set_cons_zero]))
  refine R6.WalkR.nil (fun D ρ W11 hD' hC => ?_)
  have H12 := Lib.hid (H11.out.1.bel.trans (hC.bel.mono H11.out.1.bel.size))
  clear hC hD'
  go_wp2
  go_ret
  exact ⟨rfl, H12.out⟩

set_option maxRecDepth 100000 in
set_option maxHeartbeats 8000000 in
theorem cureOrder_no (t : Bt) (A : Option Addr) (cap : Nat) (l : List Sl) (s h u : Int) (w : World) (hz : Rows w w.heap.size A l) (hll : l.length ≤ 9223372036854775807) (hl : ∀ s ∈ l, s.zs.length ≤ 9223372036854775807) (hno : okBatch t (rws l) = false) :
    Calls Try.prog 11 #[.agg (btcells t (.slice A l.length cap)), .int .u8 s, .int .u8 h, .int .u8 u] w fun e w' => e = .returned (.bool true) ∧ Below w.heap.size w w' := by
  have hrd := fun W (hW : Below w.heap.size w W) => ready4_any t A cap l w.heap.size W hW.size (hz.below hW) hll hl
  rw [hno] at hrd
  have h0 := BoxW.start w (btcells t (.slice A l.length cap))
  have HRD := Lib.hid hrd
  have H0 := Lib.hid h0
  clear hrd hz hll hl hno h0
  unfold btcells at H0 HRD ⊢
  go_enter Try.func11, Try.ntmps11
  go_wp2_with (first
    | (go_at_call 14; refine (alive_any _).mono ?_; rintro e w2 ⟨rfl, hB2⟩
       have h2 := H0.out.next hB2
       have hc2 := fun i => cell_of_row w2 w.heap.size i _ _ _ h2.b0
       have H2 := Lib.hid h2; clear hB2 h2)
    | (go_at_call 36; refine (HRD.out w2 H2.out.bel).mono ?_; rintro e w3 ⟨rfl, hB3⟩; have H3 := Lib.hid (H2.out.next hB3); clear hB3))
  go_ret
  exact ⟨rfl, H3.out.bel⟩

theorem cureOrder_law (t : Bt) (A : Option Addr) (cap : Nat) (l : List Sl) (s h u : Int) (w : World) (hz : Rows w w.heap.size A l) (hll : l.length ≤ 9223372036854775807) (hl : ∀ s ∈ l, s.zs.length ≤ 9223372036854775807) (hcap : l.length ≤ cap) (s0 : 0 ≤ s) (s1 : s < 256) (h0 : 0 ≤ h) (h1 : h < 256) (u0 : 0 ≤ u) (u1 : u < 256) :
    Calls Try.prog 11 #[.agg (btcells t (.slice A l.length cap)), .int .u8 s, .int .u8 h, .int .u8 u] w fun e w' => e = .returned (.bool true) ∧ Below w.heap.size w w' := by
  cases hb : okBatch t (rws l) with
  | false => exact cureOrder_no t A cap l s h u w hz hll hl hb
  | true =>
    obtain ⟨n, rfl⟩ : ∃ n : Nat, h = (n : Int) := ⟨h.toNat, by omega⟩
    exact cureOrder_main t A cap l s u n w hz hcap hb s0 s1 (by omega) u0 u1

end Go.Proofs.Ytfampdiompjmeaa
