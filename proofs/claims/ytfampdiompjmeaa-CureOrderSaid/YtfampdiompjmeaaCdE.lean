/-
  Levels, day by day.
-/
import Derived.Test.YtfampdiompjmeaaCdD
namespace Go.Proofs.Ytfampdiompjmeaa
open Go.RowKit
open R6 (done done_ne done_me upd_ne upd_me)

attribute [local go_sem] gives

/-- The levels of a pond. -/
def levL (p : Po) : Int → Int → List Int → List (Int × Int)
  | _, _, [] => []
  | lo, hi, z :: l => (leftZ lo p.oh + z, leftZ hi p.ol + z) :: levL p (leftZ lo p.oh + z) (leftZ hi p.ol + z) l
theorem levL_len (p : Po) : ∀ (l : List Int) (lo hi : Int), (levL p lo hi l).length = l.length
  | [], _, _ => rfl
  | z :: l, lo, hi => by simp [levL, levL_len p l]

/-- Parts are parts, drains are no more than what may be drained. -/
structure PoOk (p : Po) (zs : List Int) : Prop where
  l0 : 0 ≤ p.ol
  l1 : p.ol ≤ 1000
  h0 : 0 ≤ p.oh
  h1 : p.oh ≤ 1000
  lz : zs.length ≤ 40
  bz : Bnd 0 100000 zs

/-- Done, and to be done. -/
def rowL (a : List (Int × Int)) (r : Nat) : List Value := pairs (a ++ List.replicate r (0, 0))
theorem rowL_len (a : List (Int × Int)) (r : Nat) : (rowL a r).length = (a.length + r) * 2 := by simp [rowL, pairs_len]
theorem rowL_splice (a : List (Int × Int)) (r : Nat) (p : Int × Int) {k : Nat} (hk : a.length = k) : splice (rowL a (r + 1)) (k * 2) [.int .i64 p.1, .int .i64 p.2] = rowL (a ++ [p]) r := by
  have hl : (pairs a).length = k * 2 := by rw [pairs_len, hk]
  unfold splice rowL
  rw [show List.replicate (r + 1) ((0, 0) : Int × Int) = [(0, 0)] ++ List.replicate r (0, 0) from rfl]
  simp only [pairs_app, List.append_assoc]
  rw [List.take_left' hl, ← List.drop_drop, List.drop_left' hl]
  rfl

def fn2 (f g : Nat) (v : Array Value) : Array Value := #[.func (.func f) #[] v, .func (.func g) #[] v]

theorem alloc4_at3 (w : World) (A B C D : Obj) : ((((w.alloc A).alloc B).alloc C).alloc D).heap[w.heap.size + 1 + 1 + 1]? = some D := by have := alloc_at0 (((w.alloc A).alloc B).alloc C) D; simpa using this

/-- Where the loop is. -/
structure LevC (w : World) (fs : Array Value) (ty : TypeId) (lo hi : Int) (row : List Value) (W : World) : Prop where
  bel : Below w.heap.size w W
  sz : w.heap.size + 4 ≤ W.heap.size
  b5 : W.heap[w.heap.size + 1]? = some (.cells fs ty (0, 0))
  b7 : W.heap[w.heap.size + 1 + 1]? = some (.cells row.toArray 26 (0, 0))
  b8 : W.heap[w.heap.size + 1 + 1 + 1]? = some (.cells #[.int .i64 lo, .int .i64 hi] 26 (0, 0))

theorem start4 {w w4 : World} {X0 X3 : Obj} {lo hi : Int} {fs C : Array Value} {ty : TypeId} {Z : List Value} {b : Nat}
    (hP : Put ((((w.alloc X0).alloc (.cells fs ty)).alloc (.cells Z.toArray 26)).alloc X3) w4 b) (hb : b = w.heap.size + 1 + 1 + 1) (hM : w4.heap[b]? = some (.cells C 26 (0, 0))) (hC : C = #[.int .i64 lo, .int .i64 hi]) :
    LevC w fs ty lo hi Z w4 := by
  subst hb hC
  have hs := hP.size
  simp only [World.size_alloc] at hs
  have h1 := (hP.other (w.heap.size + 1) (by omega)).trans ((Below.heap_alloc _ _ _ (by simp)).trans (alloc3_at1 w X0 (.cells fs ty) (.cells Z.toArray 26)))
  have h2 := (hP.other (w.heap.size + 1 + 1) (by omega)).trans ((Below.heap_alloc _ _ _ (by simp)).trans (alloc3_at2 w X0 (.cells fs ty) (.cells Z.toArray 26)))
  exact ⟨(((((Below.refl _ w).alloc (Nat.le_refl _) _).alloc (by simp) _).alloc (by simp; omega) _).alloc (by simp; omega) _).trans (hP.below (by omega)), by omega, h1, h2, hM⟩

theorem LevC.step {w W W' : World} {fs : Array Value} {ty : TypeId} {lo hi lo' hi' : Int} {row : List Value} (h : LevC w fs ty lo hi row W) (hg : W.grownBy W' (some (w.heap.size + 1 + 1 + 1))) (hM : W'.heap[w.heap.size + 1 + 1 + 1]? = some (.cells #[.int .i64 lo', .int .i64 hi'] 26 (0, 0))) :
    LevC w fs ty lo' hi' row W' :=
  ⟨h.bel.grown hg h.bel.size (fun k e => by cases e; omega), Nat.le_trans h.sz hg.size, (hg.block _ (by have := h.sz; omega) (by simp)).trans h.b5, (hg.block _ (by have := h.sz; omega) (by simp)).trans h.b7, hM⟩
theorem LevC.put7 {w W W' : World} {fs : Array Value} {ty : TypeId} {lo hi : Int} {row row' : List Value} (h : LevC w fs ty lo hi row W) (hp : Put W W' (w.heap.size + 1 + 1)) (hM : W'.heap[w.heap.size + 1 + 1]? = some (.cells row'.toArray 26 (0, 0))) :
    LevC w fs ty lo hi row' W' :=
  ⟨h.bel.trans (hp.below (by omega)), by rw [hp.size]; exact h.sz, (hp.other _ (by omega)).trans h.b5, hM, (hp.other _ (by omega)).trans h.b8⟩

def DaysPost (w : World) (l : List (Int × Int)) (e : Ending) (w' : World) : Prop :=
  e = .returned (.slice (some ⟨w.heap.size + 1 + 1, 0, none⟩) l.length l.length) ∧ w'.heap[w.heap.size + 1 + 1]? = some (.cells (pairs l).toArray 26 (0, 0)) ∧ Below w.heap.size w w'

set_option maxRecDepth 100000 in
set_option maxHeartbeats 4000000 in
theorem daysInt_any (p : Po) (pb : Nat) (zs : List Int) (A : Option Addr) (cap : Nat) (B : Nat) (w : World) (hB : B ≤ w.heap.size) (hp : w.heap[pb]? = some (.cells (pcells p) 46 (0, 0))) (hz : Ints w B A zs) (hok : PoOk p zs) :
    Calls Try.prog 77 #[.agg #[.int .i64 0, .int .i64 0], .slice A zs.length cap, .agg (fn2 78 79 #[.pointer (some ⟨pb, 0, none⟩)])] w (DaysPost w (levL p 0 0 zs)) := by
  have HP := Lib.hid hp
  have HZ := Lib.hid hz
  have HO := Lib.hid hok
  have hlz := hok.lz
  obtain ⟨Z, hZ⟩ : ∃ Z, Z = rowL [] zs.length := ⟨_, rfl⟩
  have hmk : ∀ W, (Instr.makeSlice 42 (.int .i64 (zs.length : Int)) (.int .i64 (zs.length : Int))).run Try.prog W = .ok (.slice (some ⟨W.heap.size, 0, none⟩) zs.length zs.length) (W.alloc (.cells Z.toArray 26)) := fun W => by
    rw [hZ]
    exact run_make_pairs (P := Try.prog) 42 26 infoSpan Try.underlying42 zs.length (by omega) W
  have HZZ := Lib.hid hZ
  clear hp hz hok hZ
  unfold fn2
  go_enter Try.func77, Try.ntmps77
  go_wp2_with (first
    | (show wpList _ _ _ (Oper.mk none (Op.store _ (Operand.tmp 8) (Operand.tmp 14)) _ _ _ _ :: _) _ _
       refine wpList_store_blk 26 (.tmp 8) (.tmp 14) (cs := [.int .i64 0, .int .i64 0]) (L := [.int .i64 0, .int .i64 0]) rfl rfl rfl rfl rfl (alloc4_at3 _ _ _ _ _) (by simp) (by intro v hv; simp at hv; subst hv; rfl) rowSpan ?_
       intro w4 hP4 hM4
       have h0 := start4 hP4 rfl hM4 rfl
       rw [HZZ.out] at h0
       have H0 := Lib.hid h0
       clear hP4 hM4 h0))
  go_loopg [17] zs.length (fun gg s17 wx => ∃ (k : Nat) (lo hi : Int) (ds : List (Int × Int)), k + gg = zs.length ∧ s17 = .int .i64 k ∧ (0 ≤ lo ∧ lo ≤ 100000 * k) ∧ (0 ≤ hi ∧ hi ≤ 100000 * k) ∧ Hid (ds.length = k ∧ ds ++ levL p lo hi (zs.drop k) = levL p 0 0 zs) ∧ Hid (LevC w (fn2 78 79 #[.pointer (some ⟨pb, 0, none⟩)]) 127 lo hi (rowL ds gg) wx))
  case atStart => exact ⟨0, 0, 0, [], by omega, rfl, by omega, by omega, ⟨rfl, rfl⟩, H0.out⟩
  case round =>
    obtain ⟨k, lo, hi, ds, hkg, rfl, ⟨l0, l1⟩, ⟨h0, h1⟩, hD, hL⟩ := hrel
    cases gk with
    | zero =>
      obtain rfl : k = zs.length := by omega
      go_wp2
      go_ret
      have e1 := hD.out.2
      rw [List.drop_length] at e1
      simp only [levL, List.append_nil] at e1
      have e2 := hL.out.b7
      rw [rowL, List.replicate_zero, List.append_nil, e1] at e2
      refine ⟨?_, e2, hL.out.bel⟩
      rw [levL_len]
      rfl
    | succ gg =>
      have hk : k < zs.length := by omega
      have hkz : (k : Int) < zs.length := by omega
      obtain ⟨c, off, hA, hcB, hc⟩ := HZ.out (by omega)
      subst hA
      have hx : wr.cell? ⟨c, off + k, none⟩ = _ := (hL.out.bel.cell (p := ⟨c, off + k, none⟩) (by simp; omega)).trans (hc k hk)
      have hbz := HO.out.bz k hk
      have hst : levL p lo hi (zs.drop k) = (leftZ lo p.oh + zs[k], leftZ hi p.ol + zs[k]) :: levL p (leftZ lo p.oh + zs[k]) (leftZ hi p.ol + zs[k]) (zs.drop (k + 1)) := by rw [List.drop_eq_getElem_cons hk]; rfl
      have hg : zs[k]?.getD 0 = zs[k] := by simp [hk]
      rw [hg] at hx hbz
      generalize zs[k] = z at hx hst hbz
      have HST := Lib.hid hst
      have hb5 := hL.out.b5
      unfold fn2 at hb5
      have HB5 := Lib.hid hb5
      clear hb5
      have hplt : pb < w.heap.size := lt_of_heap HP.out
      have hpw : ∀ W, wr.grownBy W (some (w.heap.size + 1 + 1 + 1)) → W.heap[pb]? = some (.cells (pcells p) 46 (0, 0)) := fun W hW => (hW.block _ (by have := hL.out.sz; omega) (by simp; omega)).trans ((hL.out.bel.block _ hplt).trans HP.out)
      have HPW := Lib.hid hpw
      have hO := HO.out
      have b1 := leftZ_bnd l0 hO.h0 hO.h1
      have b2 := leftZ_bnd h0 hO.l0 hO.l1
      have hlz40 : (k : Int) < 40 := by omega
      have hc1 := fun W hW => lev1_any lo z p pb l0 (by omega) hO.h0 hO.h1 hbz.1 (by omega) W (HPW.out W hW)
      have hc2 := fun W hW => lev2_any hi z p pb h0 (by omega) hO.l0 hO.l1 hbz.1 (by omega) W (HPW.out W hW)
      have hone : OneW wr (w.heap.size + 1 + 1 + 1) (.cells #[.int .i64 lo, .int .i64 hi] 26 (0, 0)) (.cells #[.int .i64 (leftZ lo p.oh + z), .int .i64 (leftZ hi p.ol + z)] 26 (0, 0)) 13 (fun _ => false) (fun _ => undef) wr.drew := OneW.start hL.out.b8 rfl
      have hbb := And.intro (show 0 ≤ leftZ lo p.oh + z ∧ leftZ lo p.oh + z ≤ 100000 * ((k + 1 : Nat) : Int) by omega) (show 0 ≤ leftZ hi p.ol + z ∧ leftZ hi p.ol + z ≤ 100000 * ((k + 1 : Nat) : Int) by omega)
      clear b1 b2 hst hpw hg
      generalize leftZ lo p.oh + z = lo' at hc1 hone hbb HST
      generalize leftZ hi p.ol + z = hi' at hc2 hone hbb HST
      have HC12 := Lib.hid (And.intro hc1 hc2)
      have HONE := Lib.hid hone
      have HBB := Lib.hid hbb
      clear hc1 hc2 hone hbb hO
      go_wp2
      refine R6.wp_walk (C := OneW wr (w.heap.size + 1 + 1 + 1) (.cells #[.int .i64 lo, .int .i64 hi] 26 (0, 0)) (.cells #[.int .i64 lo', .int .i64 hi'] 26 (0, 0)) 13) 41 (by kernel_rfl) (by kernel_rfl) rfl ⟨HONE.out.gb, HONE.out.lt, HONE.out.no, HONE.out.yes⟩ ?_
      simp only []
      repeat (first
        | (refine' R6.WalkR.det (fun _ => rfl) (fun D ρ W hK hC => ?_) ?_
           rotate_left
           · have h13 := hK.post 13 (by first | decide +kernel | (dsimp only; decide +kernel))
             have hc8 := fun i => cell_of_row W (w.heap.size + 1 + 1 + 1) i _ _ _ (hC.no h13)
             have hc5 := fun i => cell_of_row W (w.heap.size + 1) i _ _ _ ((hC.other (by have := hL.out.sz; omega) (by omega)).trans HB5.out)
             have HC := Lib.hid hC
             clear hC hK
             go_simp
             first
               | with_reducible exact ⟨rfl, HC.out.move rfl⟩
               | (go_at_call 78; refine (HC12.out.1 W HC.out.gb).mono ?_; rintro e W1 ⟨rfl, rfl⟩; exact ⟨_, rfl, rfl, HC.out.move rfl⟩)
               | (go_at_call 79; refine (HC12.out.2 W HC.out.gb).mono ?_; rintro e W1 ⟨rfl, rfl⟩; exact ⟨_, rfl, rfl, HC.out.move rfl⟩)
           simp only [Act.put, List.setIfInBounds_toArray, List.set_cons_succ, List.set_cons_zero]))
      refine' R6.WalkR.det (c := undef) (fun _ => rfl) (fun D ρ W hK hC => ?_) ?_
      · have h7 := hC.no hK.me
        have HC := Lib.hid hC
        clear hC hK
        refine gives_store_blk 26 (.tmp 8) (.tmp 34) (cs := [.int .i64 lo', .int .i64 hi']) (L := [.int .i64 lo, .int .i64 hi]) rfl rfl rfl h7 (by simp) (by intro v hv; simp at hv; rcases hv with rfl | rfl <;> rfl) rowSpan ?_
        intro W1 hP hM1
        exact ⟨rfl, HC.out.put hP hM1⟩
      simp only [Act.put]
      refine R6.WalkR.nil (fun D ρ W hD' hC => ?_)
      have hL2 := hL.out.step hC.gb (hC.yes (hD' 13 (by decide)))
      have HL2 := Lib.hid hL2
      clear hC hD' hL2
      go_wp2_with (first
        | (show wpList _ _ _ (Oper.mk (some 37) _ _ _ _ _ :: _) _ _
           refine wpList_load_blk 26 (.tmp 8) rfl rfl rfl HL2.out.b8 [.int .i64 lo', .int .i64 hi'] at0 rowSpan ?_)
        | (show wpList _ _ _ (Oper.mk none (Op.store _ (Operand.tmp 38) (Operand.tmp 37)) _ _ _ _ :: _) _ _
           refine wpList_store_blk 26 (.tmp 38) (.tmp 37) (cs := [.int .i64 lo', .int .i64 hi']) (L := rowL ds (gg + 1)) rfl rfl rfl rfl rfl HL2.out.b7 (by rw [rowL_len, hD.out.1]; simp; omega) (by intro v hv; simp at hv; rcases hv with rfl | rfl <;> rfl) rowSpan ?_
           intro w5 hP5 hM5
           rw [rowL_splice ds gg (lo', hi') hD.out.1] at hM5
           have h5 := HL2.out.put7 hP5 hM5
           have H5 := Lib.hid h5
           clear hP5 hM5 h5))
      go_roundg gg
      case measure => omega
      case rel =>
        exact ⟨k + 1, lo', hi', ds ++ [(lo', hi')], by omega, by go_num, HBB.out.1, HBB.out.2, ⟨by simp [hD.out.1], by rw [← hD.out.2, HST.out, List.append_assoc]; rfl⟩, H5.out⟩

end Go.Proofs.Ytfampdiompjmeaa
