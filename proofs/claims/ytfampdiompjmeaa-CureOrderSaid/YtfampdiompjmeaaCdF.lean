/-
  What is wet, day by day.
-/
import Derived.Test.YtfampdiompjmeaaCdE
namespace Go.Proofs.Ytfampdiompjmeaa
open Go.RowKit
open R6 (done done_ne done_me upd_ne upd_me)

attribute [local go_sem] gives

/-- How wet poles are, day by day. -/
def wetL (d : Dr) : Int → Int → Nat → List (Int × Int)
  | _, _, 0 => []
  | lo, hi, n + 1 => (leftZ lo d.lh, leftZ hi d.ll) :: wetL d (leftZ lo d.lh) (leftZ hi d.ll) n
theorem wetL_len (d : Dr) : ∀ (n : Nat) (lo hi : Int), (wetL d lo hi n).length = n
  | 0, _, _ => rfl
  | n + 1, lo, hi => by simp [wetL, wetL_len d n]

structure DrOk (d : Dr) : Prop where
  l0 : 0 ≤ d.ll
  l1 : d.ll ≤ 1000
  h0 : 0 ≤ d.lh
  h1 : d.lh ≤ 1000
  w0 : 0 ≤ d.wl
  w1 : d.wl ≤ 1000
  v0 : 0 ≤ d.wh
  v1 : d.wh ≤ 1000

theorem pairs_rep_at (p : Int × Int) (n k : Nat) (hk : k < n) : ∀ j v, [Value.int .i64 p.1, Value.int .i64 p.2][j]? = some v → (pairs (List.replicate n p)).toArray[k * 2 + j]? = some v := by
  intro j v hv
  have hp := pairs_at (List.replicate n p) k (by simpa using hk)
  simp only [List.getElem?_replicate, hk, if_true, Option.getD_some] at hp
  rw [List.getElem?_toArray]
  match j with
  | 0 => simpa using hp.1.trans (by simpa using hv)
  | 1 => exact hp.2.trans (by simpa using hv)
  | j + 2 => simp at hv

theorem LevC.box {w W W' : World} {fs : Array Value} {ty : TypeId} {lo hi : Int} {row : List Value} {o : Obj} (h : LevC w fs ty lo hi row W) (hp : Put (W.alloc o) W' W.heap.size) : LevC w fs ty lo hi row W' := by
  have hs := hp.size
  have hz := h.sz
  simp only [World.size_alloc] at hs
  have old : ∀ k, k < W.heap.size → W'.heap[k]? = W.heap[k]? := fun k hk => (hp.other _ (by omega)).trans (Below.heap_alloc _ _ _ hk)
  exact ⟨(h.bel.alloc (by omega) _).trans (hp.below (by omega)), by omega, (old _ (by omega)).trans h.b5, (old _ (by omega)).trans h.b7, (old _ (by omega)).trans h.b8⟩

set_option maxRecDepth 100000 in
set_option maxHeartbeats 4000000 in
theorem daysSpan_any (d : Dr) (g n : Nat) (hn : n ≤ 1000) (w : World) (hg : w.heap[g]? = some (.cells (pairs (List.replicate n (d.ll, d.lh))).toArray 26 (0, 0))) (hok : DrOk d) :
    Calls Try.prog 73 #[.agg #[.int .i64 d.wl, .int .i64 d.wh], .slice (some ⟨g, 0, none⟩) n n, .agg (fn2 74 76 #[])] w (DaysPost w (wetL d d.wl d.wh n)) := by
  have HG := Lib.hid hg
  have hgl := lt_of_heap hg
  have HO := Lib.hid hok
  obtain ⟨Z, hZ⟩ : ∃ Z, Z = rowL [] n := ⟨_, rfl⟩
  have hmk : ∀ W, (Instr.makeSlice 42 (.int .i64 (n : Int)) (.int .i64 (n : Int))).run Try.prog W = .ok (.slice (some ⟨W.heap.size, 0, none⟩) n n) (W.alloc (.cells Z.toArray 26)) := fun W => by
    rw [hZ]
    exact run_make_pairs (P := Try.prog) 42 26 infoSpan Try.underlying42 n (by omega) W
  have HZZ := Lib.hid hZ
  clear hg hok hZ
  unfold fn2
  go_enter Try.func73, Try.ntmps73
  go_wp2_with (first
    | (show wpList _ _ _ (Oper.mk none (Op.store _ (Operand.tmp 8) (Operand.tmp 14)) _ _ _ _ :: _) _ _
       refine wpList_store_blk 26 (.tmp 8) (.tmp 14) (cs := [.int .i64 d.wl, .int .i64 d.wh]) (L := [.int .i64 0, .int .i64 0]) rfl rfl rfl rfl rfl (alloc4_at3 _ _ _ _ _) (by simp) (by intro v hv; simp at hv; rcases hv with rfl | rfl <;> rfl) rowSpan ?_
       intro w4 hP4 hM4
       have h0 := start4 hP4 rfl hM4 rfl
       rw [HZZ.out] at h0
       have H0 := Lib.hid h0
       clear hP4 hM4 h0))
  go_loopg [17] n (fun gg s17 wx => ∃ (k : Nat) (lo hi : Int) (ds : List (Int × Int)), k + gg = n ∧ s17 = .int .i64 k ∧ (0 ≤ lo ∧ lo ≤ 1000) ∧ (0 ≤ hi ∧ hi ≤ 1000) ∧ Hid (ds.length = k ∧ ds ++ wetL d lo hi gg = wetL d d.wl d.wh n) ∧ Hid (LevC w (fn2 74 76 #[]) 124 lo hi (rowL ds gg) wx))
  case atStart => exact ⟨0, d.wl, d.wh, [], by omega, rfl, ⟨HO.out.w0, HO.out.w1⟩, ⟨HO.out.v0, HO.out.v1⟩, ⟨rfl, rfl⟩, H0.out⟩
  case round =>
    obtain ⟨k, lo, hi, ds, hkg, rfl, ⟨l0, l1⟩, ⟨h0, h1⟩, hD, hL⟩ := hrel
    cases gk with
    | zero =>
      obtain rfl : k = n := by omega
      go_wp2
      go_ret
      have e1 := hD.out.2
      simp only [wetL, List.append_nil] at e1
      have e2 := hL.out.b7
      rw [rowL, List.replicate_zero, List.append_nil, e1] at e2
      refine ⟨?_, e2, hL.out.bel⟩
      rw [wetL_len]
      rfl
    | succ gg =>
      have hk : k < n := by omega
      have hkz : (k : Int) < n := by omega
      have hO := HO.out
      have b1 := leftZ_bnd l0 hO.h0 hO.h1
      have b2 := leftZ_bnd h0 hO.l0 hO.l1
      have hc1 := fun W => wet1_any lo d.ll d.lh l0 (by omega) hO.h0 hO.h1 W
      have hc2 := fun W => wet2_any hi d.ll d.lh h0 (by omega) hO.l0 hO.l1 W
      have hst : wetL d lo hi (gg + 1) = (leftZ lo d.lh, leftZ hi d.ll) :: wetL d (leftZ lo d.lh) (leftZ hi d.ll) gg := rfl
      have HST := Lib.hid hst
      have hbb := And.intro (show 0 ≤ leftZ lo d.lh ∧ leftZ lo d.lh ≤ 1000 by omega) (show 0 ≤ leftZ hi d.ll ∧ leftZ hi d.ll ≤ 1000 by omega)
      have hgr : wr.heap[g]? = some (.cells (pairs (List.replicate n (d.ll, d.lh))).toArray 26 (0, 0)) := (hL.out.bel.block _ hgl).trans HG.out
      have HGR := Lib.hid hgr
      have hb5 := hL.out.b5
      unfold fn2 at hb5
      have HB5 := Lib.hid hb5
      have hwsz := hL.out.sz
      clear b1 b2 hst hgr hb5
      generalize leftZ lo d.lh = lo' at hc1 hbb HST
      generalize leftZ hi d.ll = hi' at hc2 hbb HST
      have HC12 := Lib.hid (And.intro hc1 hc2)
      have HBB := Lib.hid hbb
      clear hc1 hc2 hbb hO
      go_wp2_with (first
        | (show wpList _ _ _ (Oper.mk (some 21) _ _ _ _ _ :: _) _ _
           refine wpList_load_blk 26 (.tmp 20) rfl rfl rfl HGR.out [.int .i64 d.ll, .int .i64 d.lh] (pairs_rep_at (d.ll, d.lh) n k hk) rowSpan ?_)
        | (show wpList _ _ _ (Oper.mk none (Op.store _ (Operand.tmp 10) (Operand.tmp 21)) _ _ _ _ :: _) _ _
           refine wpList_store_blk 26 (.tmp 10) (.tmp 21) (cs := [.int .i64 d.ll, .int .i64 d.lh]) (L := [.int .i64 0, .int .i64 0]) rfl rfl rfl rfl rfl (alloc_at0 wr _) (by simp) (by intro v hv; simp at hv; rcases hv with rfl | rfl <;> rfl) rowSpan ?_
           intro w4 hP4 hM4
           rw [splice_all (by simp)] at hM4
           have h4 := hL.out.box hP4
           have hsz4 := hP4.size
           simp only [World.size_alloc] at hsz4
           have H4 := Lib.hid (And.intro h4 hM4)
           clear hP4 hM4 h4))
      refine R6.wp_walk (C := OneW w4 (w.heap.size + 1 + 1 + 1) (.cells #[.int .i64 lo, .int .i64 hi] 26 (0, 0)) (.cells #[.int .i64 lo', .int .i64 hi'] 26 (0, 0)) 13) 41 (by kernel_rfl) (by kernel_rfl) rfl (OneW.start H4.out.1.b8 rfl) ?_
      simp only []
      repeat (first
        | (refine' R6.WalkR.det (fun _ => rfl) (fun D ρ W hK hC => ?_) ?_
           rotate_left
           · have h13 := hK.post 13 (by first | decide +kernel | (dsimp only; decide +kernel))
             have hc8 := fun i => cell_of_row W (w.heap.size + 1 + 1 + 1) i _ _ _ (hC.no h13)
             have hc5 := fun i => cell_of_row W (w.heap.size + 1) i _ _ _ ((hC.other (by omega) (by omega)).trans (H4.out.1.b5.trans (hL.out.b5.symm.trans HB5.out)))
             have hc10 := fun i => cell_of_row W wr.heap.size i _ _ _ ((hC.other (by omega) (by omega)).trans H4.out.2)
             have HC := Lib.hid hC
             clear hC hK
             go_simp
             first
               | with_reducible exact ⟨rfl, HC.out.move rfl⟩
               | (go_at_call 74; refine (HC12.out.1 W).mono ?_; rintro e W1 ⟨rfl, hB1⟩; exact ⟨_, rfl, rfl, (HC.out.next hB1).move rfl⟩)
               | (go_at_call 76; refine (HC12.out.2 W).mono ?_; rintro e W1 ⟨rfl, hB1⟩; exact ⟨_, rfl, rfl, (HC.out.next hB1).move rfl⟩)
           simp only [Act.put, List.setIfInBounds_toArray, List.set_cons_succ, List.set_cons_zero]))
      refine' R6.WalkR.det (c := undef) (fun _ => rfl) (fun D ρ W hK hC => ?_) ?_
      · have h7 := hC.no hK.me
        have HC := Lib.hid hC
        clear hC hK
        refine gives_store_blk 26 (.tmp 8) (.tmp 34) (cs := [.int .i64 lo', .int .i64 hi']) (L := [.int .i64 lo, .int .i64 hi]) rfl rfl rfl h7 (by simp) (by intro v hv; simp at hv; rcases hv with rfl | rfl <;> rfl) rowSpan ?_
        intro W1 hP hM1
        exact ⟨rfl, HC.out.put hP hM1⟩
      simp only [Act.put]
      refine R6.WalkR.nil (fun D ρ W hD' hC => ?_)
      have hL2 := H4.out.1.step hC.gb (hC.yes (hD' 13 (by decide)))
      have HL2 := Lib.hid hL2
      clear hC hD' hL2
      go_wp2_with (first
        | (show wpList _ _ _ (Oper.mk (some 37) _ _ _ _ _ :: _) _ _
           refine wpList_load_blk 26 (.tmp 8) rfl rfl rfl HL2.out.b8 [.int .i64 lo', .int .i64 hi'] at0 rowSpan ?_)
        | (show wpList _ _ _ (Oper.mk none (Op.store _ (Operand.tmp 38) (Operand.tmp 37)) _ _ _ _ :: _) _ _
           refine wpList_store_blk 26 (.tmp 38) (.tmp 37) (cs := [.int .i64 lo', .int .i64 hi']) (L := rowL ds (gg + 1)) rfl rfl rfl rfl rfl HL2.out.b7 (by rw [rowL_len, hD.out.1]; simp; omega) (by intro v hv; simp at hv; rcases hv with rfl | rfl <;> rfl) rowSpan ?_
           intro w5 hP5 hM5
           rw [rowL_splice ds gg (lo', hi') hD.out.1] at hM5
           have h5 := HL2.out.put7 hP5 hM5
           have H5 := Lib.hid h5
           clear hP5 hM5 h5))
      go_roundg gg
      case measure => omega
      case rel =>
        exact ⟨k + 1, lo', hi', ds ++ [(lo', hi')], by omega, by go_num, HBB.out.1, HBB.out.2, ⟨by simp [hD.out.1], by rw [← hD.out.2, HST.out, List.append_assoc]; rfl⟩, H5.out⟩

end Go.Proofs.Ytfampdiompjmeaa
