/-
  The closure of mostOf where nothing is remembered.
-/
import Derived.Test.YtanjolmelbipoaaDoorZG
namespace Go.Proofs.YtanjolmelbipoaaDoor
open Go.RowKit Go.Maps

attribute [local go_sem] gives

/-- Where a region that ends with a store into block g is: g holds X, or Y already. -/
structure CG (w5 : World) (g : Nat) (X Y : Obj) (W : World) : Prop where
  gb : w5.grownBy W (some g)
  hg : W.heap[g]? = some X ∨ W.heap[g]? = some Y
  lt : g < W.heap.size
/-- A step of it. -/
structure SG (g : Nat) (Y : Obj) (o : Oper) (W W' : World) : Prop where
  grows : o.dst ≠ none → Grows W W'
  keep : W.heap[g]? = some Y → W'.heap[g]? = some Y
section
variable {w5 W W' : World} {g : Nat} {X Y : Obj} {o : Oper}
theorem SG.refl (o : Oper) (W : World) : SG g Y o W W := ⟨fun _ => Grows.refl _, id⟩
theorem SG.of (h : Grows W W') (hC : CG w5 g X Y W) : SG g Y o W W' := ⟨fun _ => h, fun e => (h.block g hC.lt).trans e⟩
theorem CG.next (hC : CG w5 g X Y W) (h : Grows W W') : CG w5 g X Y W' :=
  ⟨grown_trans hC.gb (below_grown h (Nat.le_refl _) _), by rw [h.block g hC.lt]; exact hC.hg, Nat.lt_of_lt_of_le hC.lt h.size⟩
theorem CG.put (hC : CG w5 g X Y W) (hP : Put W W' g) (hM : W'.heap[g]? = some Y) (ho : o.dst = none) : SG g Y o W W' ∧ CG w5 g X Y W' :=
  ⟨⟨fun e => absurd ho e, fun _ => hM⟩, grown_trans hC.gb hP.grown, .inr hM, by rw [hP.size]; exact hC.lt⟩
end

theorem CG.drew {w5 W : World} {g : Nat} {X Y : Obj} (hC : CG w5 g X Y W) : CG w5 g X Y W.drew := ⟨⟨hC.gb.os, hC.gb.tape, hC.gb.output, hC.gb.size, hC.gb.block⟩, hC.hg, hC.lt⟩
theorem CG.start {w5 : World} {g : Nat} {X Y : Obj} (h : w5.heap[g]? = some X) : CG w5 g X Y w5 := ⟨World.grownBy.refl _ _, .inl h, lt_of_heap h⟩

theorem rowHabit : RowTy Tryd.prog 31 6 := ⟨⟨_, Tryd.underlying31, rfl⟩, by kernel_rfl⟩
theorem hcells_len (h : Hab) : (hcells h).length = 6 := rfl
theorem hab_at (h : Hab) (c : List Int) : ∀ (j : Nat) (v : Value), (hcells h)[j]? = some v → (gl h c).toArray[0 + j]? = some v := fun j v hj => by
  have := (List.getElem?_eq_some_iff.1 hj).1
  rw [Nat.zero_add, List.getElem?_toArray]
  unfold gl
  rw [List.getElem?_append_left this]; exact hj
theorem culms_at (h : Hab) (c : List Int) : ∀ (j : Nat) (v : Value), (ints c)[j]? = some v → (gl h c).toArray[6 + j]? = some v := fun j v hj => by
  rw [List.getElem?_toArray]
  unfold gl
  rw [List.getElem?_append_right (by simp [hcells_len])]
  simpa [hcells_len] using hj
theorem stl_at (y : Nat) (c : List Int) : ∀ (j : Nat) (v : Value), (ints c)[j]? = some v → (stl y c).toArray[1 + j]? = some v := fun j v hj => by
  rw [List.getElem?_toArray]
  unfold stl
  rw [Nat.add_comm, List.getElem?_cons_succ]; exact hj
theorem ints_len (c : List Int) : (ints c).length = c.length := by simp [ints]
theorem grove_built (h : Hab) {c : List Int} (hc : c.length = 7) : Tryd.prog.built 71 [(0, .agg (hcells h).toArray), (1, .agg (ints c).toArray)] = some (gl h c).toArray := by
  obtain ⟨a0, a1, a2, a3, a4, a5, a6, rfl⟩ := len7 hc
  kernel_rfl
theorem state_built (y : Int) {c : List Int} (hc : c.length = 7) : Tryd.prog.built 96 [(0, .int .i64 y), (1, .agg (ints c).toArray)] = some (.int .i64 y :: ints c).toArray := by
  obtain ⟨a0, a1, a2, a3, a4, a5, a6, rfl⟩ := len7 hc
  kernel_rfl

section
variable {s : Nat} {h : Hab} {d r b : Nat} {c0 : List Int} {A : Option Addr} {k : Nat} {ps : List (Int × Int)} {w : World}

theorem grown_put {w W W' : World} {g : Nat} {row : Option Nat} (hg : w.grownBy W row) (hP : Put W W' g) (hge : w.heap.size ≤ g) : w.grownBy W' row :=
  ⟨hP.os.trans hg.os, hP.tape.trans hg.tape, hP.output.trans hg.output, by rw [hP.size]; exact hg.size, fun j hj hr => (hP.other j (by omega)).trans (hg.block j hj hr)⟩
theorem grown_more {w W W' : World} {g : Nat} {row : Option Nat} (hg : w.grownBy W row) (h' : W.grownBy W' (some g)) (hge : w.heap.size ≤ g) : w.grownBy W' row :=
  ⟨h'.os.trans hg.os, h'.tape.trans hg.tape, h'.output.trans hg.output, Nat.le_trans hg.size h'.size, fun j hj hr => (h'.block j (Nat.lt_of_lt_of_le hj hg.size) (by simp; omega)).trans (hg.block j hj hr)⟩

/-- Where the loop over numbers is. -/
structure LoopM (w : World) (s : Nat) (h : Hab) (d r b : Nat) (ps : List (Int × Int)) (y : Nat) (C NG BV : List Value) (g10 nb : Nat) (W : World) : Prop where
  gb : w.grownBy W (some (s + 3))
  st : W.heap[w.heap.size]? = some (.cells C.toArray 96 (0, 0))
  rs : W.heap[w.heap.size + 1]? = some (.cells (hvl (false, 0, [0, 0, 0, 0])).toArray 75 (0, 0))
  gr : W.heap[w.heap.size + 3]? = some (.cells NG.toArray 71 (0, 0))
  bs : W.heap[g10]? = some (.cells BV.toArray 75 (0, 0))
  me : Memo h d r b ps (s + 3) nb W
  ls : s + 6 ≤ w.heap.size
  lq : w.heap.size + 4 ≤ g10
  lt : g10 < W.heap.size
section
variable {C NG BV BV' : List Value} {g10 nb nb' y : Nat} {W W' : World}
theorem LoopM.turn (hL : LoopM w s h d r b ps y C NG BV g10 nb W) (hg : W.grownBy W' (some (s + 3))) (hm : Memo h d r b ps (s + 3) nb' W') : LoopM w s h d r b ps y C NG BV g10 nb' W' := by
  have h1 := hL.ls
  have h2 := hL.lq
  have h3 := hL.lt
  exact ⟨grown_trans hL.gb hg, (hg.block _ (by omega) (by simp; omega)).trans hL.st, (hg.block _ (by omega) (by simp; omega)).trans hL.rs, (hg.block _ (by omega) (by simp; omega)).trans hL.gr, (hg.block _ (by omega) (by simp; omega)).trans hL.bs, hm, h1, h2, Nat.lt_of_lt_of_le h3 hg.size⟩
theorem LoopM.next (hL : LoopM w s h d r b ps y C NG BV g10 nb W) (hB : Grows W W') : LoopM w s h d r b ps y C NG BV g10 nb W' :=
  hL.turn (below_grown hB (Nat.le_refl _) _) (hL.me.kept (below_grown hB (Nat.le_refl _) none) (by simp))
/-- A block that is new, or the best one's, is stored into. -/
theorem LoopM.putNew (hL : LoopM w s h d r b ps y C NG BV g10 nb W) {g : Nat} (hP : Put W W' g) (hg : g10 < g) : LoopM w s h d r b ps y C NG BV g10 nb W' := by
  have h1 := hL.ls
  have h2 := hL.lq
  have h3 := hL.lt
  exact ⟨grown_put hL.gb hP (by omega), (hP.other _ (by omega)).trans hL.st, (hP.other _ (by omega)).trans hL.rs, (hP.other _ (by omega)).trans hL.gr, (hP.other _ (by omega)).trans hL.bs, hL.me.kept hP.grown (by simp; omega), h1, h2, by rw [hP.size]; exact h3⟩
theorem LoopM.best (hL : LoopM w s h d r b ps y C NG BV g10 nb W) (hg : W.grownBy W' (some g10)) (hM : W'.heap[g10]? = some (.cells BV'.toArray 75 (0, 0))) : LoopM w s h d r b ps y C NG BV' g10 nb W' := by
  have h1 := hL.ls
  have h2 := hL.lq
  have h3 := hL.lt
  exact ⟨grown_more hL.gb hg (by omega), (hg.block _ (by omega) (by simp; omega)).trans hL.st, (hg.block _ (by omega) (by simp; omega)).trans hL.rs, (hg.block _ (by omega) (by simp; omega)).trans hL.gr, hM, hL.me.kept hg (by simp; omega), h1, h2, Nat.lt_of_lt_of_le h3 hg.size⟩
end

set_option maxRecDepth 100000 in
set_option maxHeartbeats 8000000 in
theorem from_miss (H : HabOk h d r b) (hr : rainsOk ps = true) {m n y : Nat} (hy : y + (m + 1) = ps.length) (l : List Int) (hl : l.length = d + 1) {M : Int} (hb : Bnd 0 M l) (hM : M ≤ 39930) (m0 : 30 ≤ M)
    {kl : Lit} (hkey : keyOf Tryd.prog 96 (stv y (pad7 l)) = some kl) (hE : EnvM s h c0 A k ps w) {D : DataW Value} (hown : w.ownsMap Tryd.prog 96 rdV (s + 3) n D) (hR : Right h d r b ps D) (hok : Maps.has D kl = false) (hn : n + kept (m + 1) ≤ 40000)
    (IH : ∀ (l' : List Int) (n' : Nat) (W : World), l'.length = d + 1 → Bnd 0 (11 * M) l' → EnvM s h c0 A k ps W → Memo h d r b ps (s + 3) n' W → n' + kept m ≤ 40000 →
      Calls Tryd.prog 38 #[stv (y + 1) (pad7 l'), .pointer (some ⟨s + 1, 0, none⟩), .pointer (some ⟨s + 4, 0, none⟩), .pointer (some ⟨s, 0, none⟩), .pointer (some ⟨s + 5, 0, none⟩)] W (FromPost s h d r b ps (n' + kept m) (y + 1) l' W)) :
    Calls Tryd.prog 38 #[stv y (pad7 l), .pointer (some ⟨s + 1, 0, none⟩), .pointer (some ⟨s + 4, 0, none⟩), .pointer (some ⟨s, 0, none⟩), .pointer (some ⟨s + 5, 0, none⟩)] w (FromPost s h d r b ps (n + kept (m + 1)) y l w) := by
  have hd6 := H.d6
  have h7 := pad7_len (l := l) (by omega)
  have hlen := (rainsOk_len hr).2
  have rn := rainsOk_at hr (k := y) (by omega)
  have hpa := pairs_at ps y (by omega)
  have hdrop : ps.drop y = (ps[y]?.getD (0, 0)) :: ps.drop (y + 1) := by
    rw [List.drop_eq_getElem_cons (by omega)]
    simp [show y < ps.length by omega]
  generalize ps[y]?.getD (0, 0) = x at rn hpa hdrop
  obtain ⟨x1, x2⟩ := x
  simp only at rn hpa
  obtain ⟨rn0, rn1, rn2⟩ := rn
  have hl0 := H.l0
  have hlh := H.lh
  have hh1 := H.h1
  have hin := fun n (n0 : 0 ≤ n) (n1 : n ≤ 30) => in1_of H hl hb hM m0 (rate := h.lo) (fall := x1) (n := n) hl0 (by omega) rn0 (by omega) n0 n1
  have hs := shotsL_bnd (b := b) hb (by omega) hl0 (rate := h.lo) (by omega) rn0 (rain := x1) (by omega) (by omega)
  have hans : ansV h r b ps y l = .agg (hvl (hvT y (tryL (okY r h.keep l (shotsL b l h.lo x1)) (fun n => bestL h r b (ps.drop (y + 1)) (yearL l (shotsL b l h.lo x1) n)) 31 0 none))).toArray := by
    unfold ansV; rw [hdrop]; rfl
  have hyb := fun n (n0 : 0 ≤ n) (n1 : n ≤ 30) => yearL_bnd (n := n) (s := shotsL b l h.lo x1) (M := 11 * M) (l := l) (fun k hk => by have := hb k hk; omega) (by omega) hs.1 hs.2 n0 (by omega)
  obtain ⟨hb1, off1, hA1, hlt1, hc1⟩ := hE.vals (by rw [pairs_len]; omega)
  have hx0 := hc1 _ _ hpa.1
  subst hA1
  obtain ⟨wa, hwa⟩ : ∃ wa, w.alloc (.cells (stl y (pad7 l)).toArray 96) = wa := ⟨_, rfl⟩
  obtain ⟨w1, hw1⟩ : ∃ w1, wa.alloc (.cells #[.bool false, .int .i64 0, .int .i64 0, .int .i64 0, .int .i64 0, .int .i64 0] 75) = w1 := ⟨_, rfl⟩
  obtain ⟨w2, hw2⟩ : ∃ w2, w1.alloc (.cells #[.bool false, .int .i64 0, .int .i64 0, .int .i64 0, .int .i64 0, .int .i64 0] 75) = w2 := ⟨_, rfl⟩
  have hg : w.grownBy w1 none := by rw [← hw1, ← hwa]; exact grown_trans (World.grownBy_alloc w _ _) (World.grownBy_alloc _ _ _)
  have hg2 : w.grownBy w2 none := by rw [← hw2]; exact grown_trans hg (World.grownBy_alloc _ _ _)
  have hsa : wa.heap.size = w.heap.size + 1 := by rw [← hwa]; simp
  have hs1 : w1.heap.size = w.heap.size + 2 := by rw [← hw1]; simp [hsa]
  have hs2 : w2.heap.size = w.heap.size + 3 := by rw [← hw2]; simp [hs1]
  have hst : w1.heap[w.heap.size]? = some (.cells (stl y (pad7 l)).toArray 96 (0, 0)) := by rw [← hw1, ← hwa]; exact alloc2_at0 w _ _
  have hst2 : w2.heap[w.heap.size]? = some (.cells (stl y (pad7 l)).toArray 96 (0, 0)) := by rw [← hw2, ← hw1, ← hwa]; exact alloc3_at0 w _ _ _
  have hy0 : w1.cell? ⟨w.heap.size, 0, none⟩ = some (.int .i64 y) := by rw [cell_of_row w1 _ 0 _ _ _ hst]; rfl
  have hrs : w1.cell? ⟨s + 1, 0, none⟩ = some (.slice (some ⟨hb1, off1, none⟩) ps.length k) := by rw [cell_of_row w1 _ 0 _ _ _ (hE.grown (hg.any _)).hR]; rfl
  have hms : w1.cell? ⟨s + 4, 0, none⟩ = some (.map (some (s + 3))) := by rw [cell_of_row w1 _ 0 _ _ _ (hE.grown (hg.any _)).hS]; rfl
  have hm1 : w2.heap[w.heap.size + 1]? = some (.cells (hvl (false, 0, [0, 0, 0, 0])).toArray 75 (0, 0)) := by rw [← hw2, ← hw1, ← hwa]; exact alloc3_at1 w _ _ _
  have hm2 : w2.heap[w.heap.size + 2]? = some (.cells (hvl (false, 0, [0, 0, 0, 0])).toArray 75 (0, 0)) := by rw [← hw2, ← hw1, ← hwa]; exact alloc3_at2 w _ _ _
  have hsl := hE.lt
  have HK := Lib.hid (And.intro hkey (And.intro hok (And.intro hl (And.intro h7 (And.intro hR (And.intro hown hE))))))
  have HG := Lib.hid (And.intro hg (And.intro hg2 (And.intro hst (And.intro hst2 (And.intro hm1 hm2)))))
  have HIN := Lib.hid (And.intro hin (And.intro hyb (And.intro hs hans)))
  have HX := Lib.hid (And.intro hx0 hlt1)
  have HIH := Lib.hid IH
  have HL := Lib.hid hl
  have HN := Lib.hid hn
  have rowG : ∀ p : List Int, p.length = 7 → RowTy Tryd.prog 71 (gl h p).length := fun p hp => by rw [gl_len hp]; exact rowGrove
  have HRG := Lib.hid rowG
  have hyz : (y : Int) < ps.length := by omega
  clear hkey hok hl h7 hR hown hE hg hg2 hst hst2 hm1 hm2 hin hyb hs hans hx0 hlt1 IH hn hpa hc1 rn0 rn1 rn2 hb rowG hdrop
  unfold stv
  go_enter Tryd.func38, Tryd.ntmps38
  go_wp2_with (first
    | (show wpList _ _ _ (Oper.mk (some 23) _ _ _ _ _ :: _) _ _
       refine wpList_load_blk 96 (.tmp 5) rfl rfl rfl HG.out.2.2.1 (stl y (pad7 l)) at0 (rowSt HK.out.2.2.2.1) ?_)
    | (at_lookup
       refine wpList_look_memo (h := h) (d := d) (r := r) (b := b) (ps := ps) (M := s + 3) (n := n) rfl (.tmp 22) (.tmp 23) rfl rfl (HK.out.2.2.2.2.2.1.kept HG.out.1 (by simp)) HK.out.2.2.2.2.1 HK.out.2.2.1 rfl HK.out.1 false HK.out.2.1 ?_
       rw [if_neg (by decide)])
    | (show wpList _ _ _ (Oper.mk none (Op.store _ (Operand.tmp 7) (Operand.tmp 25)) _ _ _ _ :: _) _ _
       refine wpList_store_blk 75 (.tmp 7) (.tmp 25) rfl rfl rfl rfl (cs := hvl (false, 0, [0, 0, 0, 0])) rfl HG.out.2.2.2.2.2 (by decide) (hvl_one _) rowHarvest ?_
       intro w3 hP3 hM3
       have hs3 := hP3.size
       have hg3 : w.grownBy w3 none := ⟨hP3.os.trans HG.out.2.1.os, hP3.tape.trans HG.out.2.1.tape, hP3.output.trans HG.out.2.1.output, by omega, fun j hj hjs => (hP3.other j (by omega)).trans (HG.out.2.1.block j hj hjs)⟩
       have hst3 := (hP3.other w.heap.size (by omega)).trans HG.out.2.2.2.1
       have hrs3 := (hP3.other (w.heap.size + 1) (by omega)).trans HG.out.2.2.2.2.1
       have B3 := Lib.hid (And.intro hg3 (And.intro hst3 hrs3))
       rw [hs2] at hs3
       clear hP3 hM3 hg3 hst3 hrs3)
    | (show wpList _ _ _ (Oper.mk (some 30) _ _ _ _ _ :: _) _ _
       refine wpList_load_blk 31 (.tmp 29) rfl rfl rfl (HK.out.2.2.2.2.2.2.grown (B3.out.1.any _)).hN (hcells h) (hab_at h c0) rowHabit ?_)
    | (show wpList _ _ _ (Oper.mk (some 32) _ _ _ _ _ :: _) _ _
       refine wpList_load_blk 58 (.tmp 31) rfl rfl rfl B3.out.2.1 (ints (pad7 l)) (stl_at y _) (by rw [ints_len, HK.out.2.2.2.1]; exact rowCulms) ?_)
    | (show wpList _ _ _ (Oper.mk (some 33) _ _ _ _ _ :: _) _ _
       refine wpList_build2 71 (.tmp 30) (.tmp 32) rfl rfl rfl rfl (grove_built h HK.out.2.2.2.1) ?_)
    | (show wpList _ _ _ (Oper.mk none (Op.store _ (Operand.tmp 9) (Operand.tmp 33)) _ _ _ _ :: _) _ _
       refine wpList_store_blk 71 (.tmp 9) (.tmp 33) (L := List.replicate 13 (Value.int .i64 0)) rfl rfl rfl rfl (gv_eq h (pad7 l)) (by rw [← hs3]; exact alloc_at0 w3 _) (by simp [gl_len HK.out.2.2.2.1]) (gl_one _ _) (HRG.out _ HK.out.2.2.2.1) ?_
       intro w5 hP5 hM5
       rw [splice_all (by simp [gl_len HK.out.2.2.2.1])] at hM5
       have hs5 := hP5.size
       simp only [World.size_alloc] at hs5
       have hg5 : w.grownBy w5 none := grown_put (grown_trans B3.out.1 (World.grownBy_alloc _ _ _)) hP5 (by omega)
       have hst5 := (hP5.other w.heap.size (by omega)).trans ((Below.heap_alloc _ _ _ (by omega)).trans B3.out.2.1)
       have hrs5 := (hP5.other (w.heap.size + 1) (by omega)).trans ((Below.heap_alloc _ _ _ (by omega)).trans B3.out.2.2)
       have B5 := Lib.hid (And.intro hg5 (And.intro hst5 (And.intro hrs5 hM5)))
       rw [hs3] at hs5
       clear hP5 hM5 hg5 hst5 hrs5))
  refine R3.wp_walkT (C := CG w5 (w.heap.size + 3) (.cells (gl h (pad7 l)).toArray 71 (0, 0)) (.cells (gl h (pad7 (nowL l (shotsL b l h.lo x1)))).toArray 71 (0, 0)))
    (S := SG (w.heap.size + 3) (.cells (gl h (pad7 (nowL l (shotsL b l h.lo x1)))).toArray 71 (0, 0))) 79 none (fun W => W.heap[w.heap.size + 3]? = some (.cells (gl h (pad7 l)).toArray 71 (0, 0))) (by kernel_rfl) (by kernel_rfl) rfl SG.refl
    (CG.start B5.out.2.2.2).drew (fun o' W W' hx hp hs _ => ((hs.grows hx).block _ (lt_of_heap hp)).trans hp) B5.out.2.2.2 ?_
  simp only []
  repeat
    (refine' R3.WalkR.det (fun _ => rfl) rfl (fun ρ W hW hH hU => ?_) ?_
     rotate_left
     · have hX := hU.2 ⟨_, rfl, by first | decide +kernel | (dsimp only; decide +kernel)⟩
       clear hH hU
       have HW := Lib.hid hW
       have hlo : W.cell? ⟨w.heap.size + 3, 0, none⟩ = some (.int .i64 h.lo) := (cell_of_row W (w.heap.size + 3) 0 _ _ _ hX).trans rfl
       have hEW := (HK.out.2.2.2.2.2.2.grown (grown_more (B5.out.1.any (some (s + 3))) hW.gb (by omega)))
       have hrW : W.cell? ⟨s + 1, 0, none⟩ = some (.slice (some ⟨hb1, off1, none⟩) ps.length k) := by rw [cell_of_row W _ 0 _ _ _ hEW.hR]; rfl
       have hyW : W.cell? ⟨w.heap.size, 0, none⟩ = some (.int .i64 y) := by rw [cell_of_row W _ 0 _ _ _ ((hW.gb.block _ (by omega) (by simp)).trans B5.out.2.1)]; rfl
       have hxW : W.cell? ⟨hb1, off1 + y * 2, none⟩ = some (.int .i64 x1) := by
         refine (World.cell?_of_block (a := ⟨hb1, off1 + y * 2, none⟩) ?_).trans HX.out.1
         have := HX.out.2
         have := HK.out.2.2.2.2.2.2.lt
         exact (hW.gb.block hb1 (by omega) (by simp; omega)).trans (B5.out.1.block hb1 (by omega) (by simp))
       have HXi := Lib.hid hX
       clear hW hX hEW
       first
         | exact gives_load_blk 71 (.tmp 9) rfl rfl HXi.out (gl h (pad7 l)) at0 (HRG.out _ HK.out.2.2.2.1) ⟨rfl, SG.refl _ _, HW.out⟩
         | (go_simp
            first
              | with_reducible exact ⟨rfl, SG.refl _ _, HW.out⟩
              | (go_at_call 33; refine ((HIN.out.1 0 (by decide) (by decide)).1 W).mono ?_; rintro e W1 ⟨rfl, hB1⟩; exact ⟨_, rfl, rfl, SG.of hB1 HW.out, HW.out.next hB1⟩)
              | (go_at_call 34; refine ((HIN.out.1 0 (by decide) (by decide)).2.1 W).mono ?_; rintro e W1 ⟨rfl, hB1⟩; exact ⟨_, rfl, rfl, SG.of hB1 HW.out, HW.out.next hB1⟩))
     simp only [Act.put, List.setIfInBounds_toArray, List.set_cons_succ, List.set_cons_zero])
  have hn7 : (pad7 (nowL l (shotsL b l h.lo x1))).length = 7 := pad7_len (by rw [nowL_len, HL.out]; omega)
  refine' R3.WalkR.fx 47 (fun _ W => W.heap[w.heap.size + 3]? = some (.cells (gl h (pad7 (nowL l (shotsL b l h.lo x1)))).toArray 71 (0, 0))) (fun _ => rfl) rfl (by first | decide +kernel | (dsimp only; decide +kernel)) (by first | decide +kernel | (dsimp only; decide +kernel)) rfl (fun _ _ W W' hv hs _ => hs.keep hv) (fun ρ W hW hH hU => ?_) ?_
  · clear hH hU
    have hfit : ∀ p : List Int, p.length = 7 → 0 + (gl h (pad7 (nowL l (shotsL b l h.lo x1)))).length ≤ (gl h p).length := fun p hp => by rw [gl_len hp, gl_len hn7]; omega
    have hsp : ∀ p : List Int, p.length = 7 → splice (gl h p) 0 (gl h (pad7 (nowL l (shotsL b l h.lo x1)))) = gl h (pad7 (nowL l (shotsL b l h.lo x1))) := fun p hp => splice_all (by rw [gl_len hp, gl_len hn7])
    rcases hW.hg with hx | hx
    · refine gives_store_blk 71 (.tmp 9) (.tmp 47) rfl rfl (gv_eq h _) hx (hfit _ HK.out.2.2.2.1) (gl_one h _) (HRG.out _ hn7) (fun W' hP hM => ?_)
      rw [hsp _ HK.out.2.2.2.1] at hM
      exact ⟨hM, hW.put hP hM rfl⟩
    · refine gives_store_blk 71 (.tmp 9) (.tmp 47) rfl rfl (gv_eq h _) hx (hfit _ hn7) (gl_one h _) (HRG.out _ hn7) (fun W' hP hM => ?_)
      rw [hsp _ hn7] at hM
      exact ⟨hM, hW.put hP hM rfl⟩
  refine R3.WalkR.nil (fun ρ w7 hW hH hF => ?_)
  have hY := hF _ (.head _)
  simp only at hY
  clear hH hF
  have hg7 : w.grownBy w7 none := grown_more B5.out.1 hW.gb (by omega)
  have hs7 : w.heap.size + 4 ≤ w7.heap.size := by have := hW.gb.size; omega
  have hst7 := (hW.gb.block w.heap.size (by omega) (by simp)).trans B5.out.2.1
  have hrs7 := (hW.gb.block (w.heap.size + 1) (by omega) (by simp)).trans B5.out.2.2.1
  have B7 := Lib.hid (And.intro hg7 (And.intro hst7 (And.intro hrs7 hY)))
  clear hW hg7 hst7 hrs7 hY
  have hlen0 : 0 < 31 := by decide
  generalize hT : tryL (okY r h.keep l (shotsL b l h.lo x1)) (fun n => bestL h r b (ps.drop (y + 1)) (yearL l (shotsL b l h.lo x1) n)) 31 0 none = T at HIN
  have HT := Lib.hid hT
  clear hT
  go_wp2
  have hL8 : LoopM w s h d r b ps y (stl y (pad7 l)) (gl h (pad7 (nowL l (shotsL b l h.lo x1)))) (hvl (hvT y none)) w7.heap.size n (w7.alloc (.cells (hvl (hvT y none)).toArray 75)) :=
    ⟨grown_trans (B7.out.1.any _) (World.grownBy_alloc _ _ _), (Below.heap_alloc _ _ _ (by omega)).trans B7.out.2.1, (Below.heap_alloc _ _ _ (by omega)).trans B7.out.2.2.1, (Below.heap_alloc _ _ _ (by omega)).trans B7.out.2.2.2, alloc_at0 w7 _,
      Memo.kept (row := none) ⟨D, HK.out.2.2.2.2.2.1, HK.out.2.2.2.2.1⟩ (grown_trans B7.out.1 (World.grownBy_alloc _ _ _)) (by simp), hsl, hs7, by simp⟩
  have H8 := Lib.hid hL8
  clear hL8
  go_loopg [48] 31 (fun g s48 wx => ∃ (i : Nat) (bo : Pl), i + g = 31 ∧ s48 = .int .i64 i ∧ Hid (Good (m + 1) bo ∧ T = tryL (okY r h.keep l (shotsL b l h.lo x1)) (fun n => bestL h r b (ps.drop (y + 1)) (yearL l (shotsL b l h.lo x1) n)) g i bo ∧
    LoopM w s h d r b ps y (stl y (pad7 l)) (gl h (pad7 (nowL l (shotsL b l h.lo x1)))) (hvl (hvT y bo)) w7.heap.size (n + i * kept m) wx))
  case atStart => exact ⟨0, none, rfl, rfl, Good.none, HT.out.symm, by rw [Nat.zero_mul]; exact H8.out⟩
  case round =>
    obtain ⟨i, bo, hig, rfl, hI⟩ := hrel
    cases gk with
    | zero =>
      obtain rfl : i = 31 := by omega
      have htb := hI.out.2.1
      simp only [tryL] at htb
      have TB := Lib.hid htb
      have KI := Lib.hid (show 31 * kept m + 1 = kept (m + 1) by simp only [kept]; omega)
      have LX := Lib.hid hI.out.2.2
      clear htb
      have hms : wr.cell? ⟨s + 4, 0, none⟩ = some (.map (some (s + 3))) := by rw [cell_of_row wr _ 0 _ _ _ (HK.out.2.2.2.2.2.2.grown LX.out.gb).hS]; rfl
      have hvr : (hvT y bo).2.2.length = 4 := hvT_len (by omega) hI.out.1
      have rowB : RowTy Tryd.prog 75 (hvl (hvT y bo)).length := by rw [hvl_len hvr]; exact rowHarvest
      have HB := Lib.hid (And.intro rowB (hvl_len hvr))
      clear hvr rowB
      go_wp2_with (first
        | (show wpList _ _ _ (Oper.mk (some 76) _ _ _ _ _ :: _) _ _
           refine wpList_load_blk 96 (.tmp 5) rfl rfl rfl LX.out.st (stl y (pad7 l)) at0 (rowSt HK.out.2.2.2.1) ?_)
        | (show wpList _ _ _ (Oper.mk (some 77) _ _ _ _ _ :: _) _ _
           refine wpList_load_blk 75 (.tmp 10) rfl rfl rfl LX.out.bs (hvl (hvT y bo)) at0 HB.out.1 ?_)
        | (at_mapUpdate
           refine wpList_keep_memo (h := h) (d := d) (r := r) (b := b) (ps := ps) (M := s + 3) (n := n + 31 * kept m) rfl (.tmp 75) (.tmp 76) (.tmp 77) rfl rfl rfl LX.out.me (by unfold maxLen; have := HN.out; have := KI.out; omega) HK.out.2.2.1 hd6 rfl HK.out.1 (by rw [HIN.out.2.2.2, TB.out]; rfl) ?_
           intro w9 hm9 hg9
           have hs9 := hg9.size
           have hbs9 := (hg9.block w7.heap.size (by have := LX.out.lt; omega) (by have := LX.out.lq; simp; omega)).trans LX.out.bs
           have hrs9 := (hg9.block (w.heap.size + 1) (by have := LX.out.lt; have := LX.out.lq; omega) (by simp; omega)).trans LX.out.rs
           have B9 := Lib.hid (And.intro hm9 (And.intro (grown_trans LX.out.gb hg9) (And.intro hbs9 hrs9)))
           clear hm9 hg9 hs9 hbs9 hrs9)
        | (show wpList _ _ _ (Oper.mk (some 78) _ _ _ _ _ :: _) _ _
           refine wpList_load_blk 75 (.tmp 10) rfl rfl rfl B9.out.2.2.1 (hvl (hvT y bo)) at0 HB.out.1 ?_)
        | (show wpList _ _ _ (Oper.mk none (Op.store _ (Operand.tmp 6) (Operand.tmp 78)) _ _ _ _ :: _) _ _
           refine wpList_store_blk 75 (.tmp 6) (.tmp 78) rfl rfl rfl rfl rfl B9.out.2.2.2 (by rw [HB.out.2]; decide) (hvl_one _) HB.out.1 ?_
           intro w10 hP10 hM10
           rw [splice_all (by rw [HB.out.2]; rfl)] at hM10
           have B10 := Lib.hid (And.intro hP10 hM10)
           clear hP10 hM10))
      have hgr : w.grownBy w10 (some (s + 3)) := grown_put B9.out.2.1 B10.out.1 (by omega)
      have hmem : Memo h d r b ps (s + 3) (n + kept (m + 1)) w10 := (B9.out.1.mono (by have := KI.out; omega)).kept B10.out.1.grown (by simp; omega)
      have he : ansV h r b ps y l = .agg (hvl (hvT y bo)).toArray := by rw [HIN.out.2.2.2, TB.out]
      have hM10 := B10.out.2
      have h6 := HB.out.2
      have HGM := Lib.hid (And.intro hgr hmem)
      clear hgr hmem
      generalize hvl (hvT y bo) = L at hM10 he h6 ⊢
      obtain ⟨z0, z1, z2, z3, z4, z5, rfl⟩ := len6 h6
      have hres : ∀ i, w10.cell? ⟨w.heap.size + 1, i, none⟩ = _ := fun i => cell_of_row w10 (w.heap.size + 1) i _ _ _ hM10
      refine bodyPost_ret (v := .agg #[z0, z1, z2, z3, z4, z5]) (by simp [results, Tryd.results38, go_sem, hres]) rfl ⟨by rw [he], HGM.out.2, HGM.out.1⟩
    | succ g =>
      have hi31 : i < 31 := by omega
      have hik : i * kept m + 1 ≤ kept (m + 1) := by
        have := Nat.mul_le_mul_right (kept m) (show i ≤ 31 by omega)
        simp only [kept]; omega
      have KI := Lib.hid hik
      obtain ⟨-, -, hsp, -, hcy, hcl, hyl⟩ := HIN.out.1 (i : Int) (by omega) (by omega)
      generalize (cutTo (pad7 (nowL l (shotsL b l h.lo x1))) (i : Int) d (d - r + 1)).1 = L at hsp hcy hcl
      generalize hk : okY r h.keep l (shotsL b l h.lo x1) (i : Int) = ok at hsp hcy
      have HSP := Lib.hid (And.intro hsp (And.intro (HRG.out L hcl) (And.intro (gl_len (h := h) hcl) hk)))
      have HCY := Lib.hid (And.intro hcy hyl)
      have HNG := Lib.hid (HRG.out _ hn7)
      have hiz : (i : Int) < 31 := by omega
      clear hsp hcy hcl hyl hk hik
      cases ok with
      | false =>
        have htb := hI.out.2.1
        rw [tryL_no HSP.out.2.2.2] at htb
        have TB := Lib.hid htb
        clear htb
        have hvr : (hvT y bo).2.2.length = 4 := hvT_len (by omega) hI.out.1
        have rowB : RowTy Tryd.prog 75 (hvl (hvT y bo)).length := by rw [hvl_len hvr]; exact rowHarvest
        have HB := Lib.hid (And.intro rowB (hvl_len hvr))
        clear hvr rowB
        go_wp2_with (first
          | (show wpList _ _ _ (Oper.mk (some 52) _ _ _ _ _ :: _) _ _
             refine wpList_load_blk 71 (.tmp 9) rfl rfl rfl hI.out.2.2.gr (gl h (pad7 (nowL l (shotsL b l h.lo x1)))) at0 HNG.out ?_)
          | (go_at_call 35; refine (HSP.out.1 wr).mono ?_; rintro e W1 ⟨rfl, hB1⟩
             have LA := Lib.hid (hI.out.2.2.next hB1)
             clear hB1)
          | (show wpList _ _ _ (Oper.mk none (Op.store _ (Operand.tmp 12) (Operand.tmp 55)) _ _ _ _ :: _) _ _
             refine wpList_store_blk 71 (.tmp 12) (.tmp 55) (L := List.replicate 13 (Value.int .i64 0)) rfl rfl rfl rfl (gv_eq h L) (alloc_at0 W1 _) (by simp [HSP.out.2.2.1]) (gl_one _ _) HSP.out.2.1 ?_
             intro W2 hP2 hM2
             have LX := Lib.hid ((LA.out.next ((Below.refl _ _).alloc (Nat.le_refl _) _)).putNew hP2 LA.out.lt)
             have hms : W2.cell? ⟨s + 4, 0, none⟩ = some (.map (some (s + 3))) := by rw [cell_of_row W2 _ 0 _ _ _ (HK.out.2.2.2.2.2.2.grown LX.out.gb).hS]; rfl
             clear hP2 hM2)
          | (show wpList _ _ _ (Oper.mk (some 76) _ _ _ _ _ :: _) _ _
             refine wpList_load_blk 96 (.tmp 5) rfl rfl rfl LX.out.st (stl y (pad7 l)) at0 (rowSt HK.out.2.2.2.1) ?_)
          | (show wpList _ _ _ (Oper.mk (some 77) _ _ _ _ _ :: _) _ _
             refine wpList_load_blk 75 (.tmp 10) rfl rfl rfl LX.out.bs (hvl (hvT y bo)) at0 HB.out.1 ?_)
          | (at_mapUpdate
             refine wpList_keep_memo (h := h) (d := d) (r := r) (b := b) (ps := ps) (M := s + 3) (n := n + i * kept m) rfl (.tmp 75) (.tmp 76) (.tmp 77) rfl rfl rfl LX.out.me (by unfold maxLen; have := HN.out; have := KI.out; omega) HK.out.2.2.1 hd6 rfl HK.out.1 (by rw [HIN.out.2.2.2, TB.out]; rfl) ?_
             intro w9 hm9 hg9
             have hs9 := hg9.size
             have hbs9 := (hg9.block w7.heap.size (by have := LX.out.lt; omega) (by have := LX.out.lq; simp; omega)).trans LX.out.bs
             have hrs9 := (hg9.block (w.heap.size + 1) (by have := LX.out.lt; have := LX.out.lq; omega) (by simp; omega)).trans LX.out.rs
             have B9 := Lib.hid (And.intro hm9 (And.intro (grown_trans LX.out.gb hg9) (And.intro hbs9 hrs9)))
             clear hm9 hg9 hs9 hbs9 hrs9)
          | (show wpList _ _ _ (Oper.mk (some 78) _ _ _ _ _ :: _) _ _
             refine wpList_load_blk 75 (.tmp 10) rfl rfl rfl B9.out.2.2.1 (hvl (hvT y bo)) at0 HB.out.1 ?_)
          | (show wpList _ _ _ (Oper.mk none (Op.store _ (Operand.tmp 6) (Operand.tmp 78)) _ _ _ _ :: _) _ _
             refine wpList_store_blk 75 (.tmp 6) (.tmp 78) rfl rfl rfl rfl rfl B9.out.2.2.2 (by rw [HB.out.2]; decide) (hvl_one _) HB.out.1 ?_
             intro w10 hP10 hM10
             rw [splice_all (by rw [HB.out.2]; rfl)] at hM10
             have B10 := Lib.hid (And.intro hP10 hM10)
             clear hP10 hM10))
        have hgr : w.grownBy w10 (some (s + 3)) := grown_put B9.out.2.1 B10.out.1 (by omega)
        have hmem : Memo h d r b ps (s + 3) (n + kept (m + 1)) w10 := (B9.out.1.mono (by have := KI.out; omega)).kept B10.out.1.grown (by simp; omega)
        have he : ansV h r b ps y l = .agg (hvl (hvT y bo)).toArray := by rw [HIN.out.2.2.2, TB.out]
        have hM10 := B10.out.2
        have h6 := HB.out.2
        have HGM := Lib.hid (And.intro hgr hmem)
        clear hgr hmem
        generalize hvl (hvT y bo) = L at hM10 he h6 ⊢
        obtain ⟨z0, z1, z2, z3, z4, z5, rfl⟩ := len6 h6
        have hres : ∀ i, w10.cell? ⟨w.heap.size + 1, i, none⟩ = _ := fun i => cell_of_row w10 (w.heap.size + 1) i _ _ _ hM10
        refine bodyPost_ret (v := .agg #[z0, z1, z2, z3, z4, z5]) (by simp [results, Tryd.results38, go_sem, hres]) rfl ⟨by rw [he], HGM.out.2, HGM.out.1⟩
      | true =>
        have htb := hI.out.2.1
        rw [tryL_yes HSP.out.2.2.2] at htb
        obtain rfl := HCY.out.1 rfl
        have hyb2 := HIN.out.2.1 (i : Int) (by omega) (by omega)
        have hyl := HCY.out.2
        generalize yearL l (shotsL b l h.lo x1) (i : Int) = l' at htb hyb2 hyl HSP
        have hgood := bestL_good h r b (ps.drop (y + 1)) l'
        rw [show (ps.drop (y + 1)).length = m by simp; omega] at hgood
        have hret : ansV h r b ps (y + 1) l' = .agg (hvl (hvT (y + 1) (bestL h r b (ps.drop (y + 1)) l'))).toArray := rfl
        generalize bestL h r b (ps.drop (y + 1)) l' = ro at htb hgood hret
        have l7 := pad7_len (l := l') (by omega)
        have hst1 : stv (y + 1) (pad7 l') = .agg (Value.int .i64 ((y : Int) + 1) :: ints (pad7 l')).toArray := by simp [stv, stl]
        have hcall := fun W => HIH.out l' (n + i * kept m) W hyl hyb2
        rw [hst1] at hcall
        have hk1 : n + i * kept m + kept m ≤ 40000 := by
          have := Nat.mul_le_mul_right (kept m) (show i + 1 ≤ 31 by omega)
          have := HN.out
          simp only [kept] at this
          rw [Nat.succ_mul] at *
          omega
        have TB := Lib.hid (And.intro htb (And.intro hgood (And.intro hret (And.intro l7 (And.intro hcall hk1)))))
        have hrl : (hvT (y + 1) ro).2.2.length = 4 := hvT_len (by omega) hgood
        have rowR : RowTy Tryd.prog 75 (hvl (hvT (y + 1) ro)).length := by rw [hvl_len hrl]; exact rowHarvest
        have HB := Lib.hid (And.intro rowR (And.intro (hvl_len hrl) hrl))
        clear htb hgood hret l7 hcall hk1 hyb2 hst1 rowR hrl
        have hy4 : (y : Int) < 4 := by omega
        go_wp2_with (first
          | (show wpList _ _ _ (Oper.mk (some 52) _ _ _ _ _ :: _) _ _
             refine wpList_load_blk 71 (.tmp 9) rfl rfl rfl hI.out.2.2.gr (gl h (pad7 (nowL l (shotsL b l h.lo x1)))) at0 HNG.out ?_)
          | (go_at_call 35; refine (HSP.out.1 wr).mono ?_; rintro e W1 ⟨rfl, hB1⟩
             have LA := Lib.hid (hI.out.2.2.next hB1)
             clear hB1)
          | (show wpList _ _ _ (Oper.mk none (Op.store _ (Operand.tmp 12) (Operand.tmp 55)) _ _ _ _ :: _) _ _
             refine wpList_store_blk 71 (.tmp 12) (.tmp 55) (L := List.replicate 13 (Value.int .i64 0)) rfl rfl rfl rfl (gv_eq h (pad7 l')) (alloc_at0 W1 _) (by simp [HSP.out.2.2.1]) (gl_one _ _) HSP.out.2.1 ?_
             intro W2 hP2 hM2
             rw [splice_all (by simp [HSP.out.2.2.1])] at hM2
             have L2 := Lib.hid ((LA.out.next ((Below.refl _ _).alloc (Nat.le_refl _) _)).putNew hP2 LA.out.lt)
             have hfr : W2.cell? ⟨s + 5, 0, none⟩ = some (fromV s) := by rw [cell_of_row W2 _ 0 _ _ _ (HK.out.2.2.2.2.2.2.grown L2.out.gb).hF]; rfl
             unfold fromV at hfr
             have hy2 : W2.cell? ⟨w.heap.size, 0, none⟩ = some (.int .i64 y) := by rw [cell_of_row W2 _ 0 _ _ _ L2.out.st]; rfl
             have HM2 := Lib.hid hM2
             clear hP2 hM2)
          | (show wpList _ _ _ (Oper.mk (some 64) _ _ _ _ _ :: _) _ _
             refine wpList_load_blk 58 (.tmp 63) rfl rfl rfl HM2.out (ints (pad7 l')) (culms_at h _) (by rw [ints_len, TB.out.2.2.2.1]; exact rowCulms) ?_)
          | (show wpList _ _ _ (Oper.mk (some 65) _ _ _ _ _ :: _) _ _
             refine wpList_build2 96 (.tmp 62) (.tmp 64) rfl rfl rfl rfl (state_built _ TB.out.2.2.2.1) ?_)
          | (go_at_call 38; refine (TB.out.2.2.2.2.1 W2 (HK.out.2.2.2.2.2.2.grown L2.out.gb) L2.out.me TB.out.2.2.2.2.2).mono ?_
             rintro e W3 ⟨rfl, hm3, hg3⟩
             rw [TB.out.2.2.1]
             have L3 := Lib.hid (L2.out.turn hg3 hm3)
             clear hm3 hg3)
          | (show wpList _ _ _ (Oper.mk none (Op.store _ (Operand.tmp 14) (Operand.tmp 66)) _ _ _ _ :: _) _ _
             refine wpList_store_blk 75 (.tmp 14) (.tmp 66) (L := hvl (false, 0, [0, 0, 0, 0])) rfl rfl rfl rfl rfl (alloc_at0 W3 _) (by rw [HB.out.2.1]; decide) (hvl_one _) HB.out.1 ?_
             intro W4 hP4 hM4
             rw [splice_all (by rw [HB.out.2.1]; rfl)] at hM4
             have L4 := Lib.hid ((L3.out.next ((Below.refl _ _).alloc (Nat.le_refl _) _)).putNew hP4 L3.out.lt)
             have hs4 := hP4.size
             simp only [World.size_alloc] at hs4
             have HM4 := Lib.hid hM4
             clear hP4 hM4))
        have hg0 := TB.out.2.1
        have hbv : (hvT y bo).2.2.length = 4 := hvT_len (by omega) hI.out.1
        have hstep := step_best (y := y) (n := (i : Int)) (by omega) (by omega) hI.out.1 hg0
        have htot := hvT_tot (y := y + 1) hg0
        have hwl : (wit y (i : Int) (hvT (y + 1) ro)).2.2.length = 4 := by simp [wit, HB.out.2.2]
        have hgn := hI.out.1.upd (n := (i : Int)) (by omega) (by omega) hg0
        have hwith := fun W => with_any (hvT (y + 1) ro) HB.out.2.2 y (by omega) (i : Int) (by omega) (by omega) htot.1 (by omega) W
        have hbet := fun W => better_any (hvT y bo) (wit y (i : Int) (hvT (y + 1) ro)) hbv hwl W
        have hbn : (hvT y (upd (i : Int) bo ro)).2.2.length = 4 := hvT_len (by omega) hgn
        rw [hstep] at hbet
        have rowN : ∀ x : Bool × Int × List Int, x.2.2.length = 4 → RowTy Tryd.prog 75 (hvl x).length := fun x hx => by rw [hvl_len hx]; exact rowHarvest
        have HW15 := Lib.hid (And.intro hwith (And.intro hbet (And.intro (rowN _ hbv) (And.intro (rowN _ hbn) (And.intro (hvl_len hbv) (And.intro (hvl_len hbn) hgn))))))
        clear hg0 hbv hstep htot hwl hgn hwith hbet hbn rowN
        refine R3.wp_walkT (C := CG W4 w7.heap.size (.cells (hvl (hvT y bo)).toArray 75 (0, 0)) (.cells (hvl (hvT y (upd (i : Int) bo ro))).toArray 75 (0, 0)))
          (S := SG w7.heap.size (.cells (hvl (hvT y (upd (i : Int) bo ro))).toArray 75 (0, 0))) 79 none (fun W => W.heap[w7.heap.size]? = some (.cells (hvl (hvT y bo)).toArray 75 (0, 0))) (by kernel_rfl) (by kernel_rfl) rfl SG.refl
          (CG.start L4.out.bs).drew (fun o' W W' hx hp hs _ => ((hs.grows hx).block _ (lt_of_heap hp)).trans hp) L4.out.bs ?_
        simp only []
        repeat
          (refine' R3.WalkR.det (fun _ => rfl) rfl (fun ρ W hW hH hU => ?_) ?_
           rotate_left
           · have hX := hU.2 ⟨_, rfl, by first | decide +kernel | (dsimp only; decide +kernel)⟩
             clear hH hU
             have HW := Lib.hid hW
             have hlq := L4.out.lq
             have hyW : W.cell? ⟨w.heap.size, 0, none⟩ = some (.int .i64 y) := by rw [cell_of_row W _ 0 _ _ _ ((hW.gb.block _ (by have := L4.out.lt; omega) (by simp; omega)).trans L4.out.st)]; rfl
             have hm14 : W.heap[W3.heap.size]? = _ := (hW.gb.block W3.heap.size (by omega) (by have := L3.out.lt; simp; omega)).trans HM4.out
             have HXi := Lib.hid (And.intro hX hm14)
             clear hW hX hm14
             first
               | exact gives_load_blk 75 (.tmp 10) rfl rfl HXi.out.1 (hvl (hvT y bo)) at0 HW15.out.2.2.1 ⟨rfl, SG.refl _ _, HW.out⟩
               | exact gives_load_blk 75 (.tmp 14) rfl rfl HXi.out.2 (hvl (hvT (y + 1) ro)) at0 HB.out.1 ⟨rfl, SG.refl _ _, HW.out⟩
               | (go_simp
                  first
                    | with_reducible exact ⟨rfl, SG.refl _ _, HW.out⟩
                    | (go_at_call 40; refine (HW15.out.1 W).mono ?_; rintro e W1 ⟨rfl, hB1⟩; exact ⟨_, rfl, rfl, SG.of hB1 HW.out, HW.out.next hB1⟩)
                    | (go_at_call 39; refine (HW15.out.2.1 W).mono ?_; rintro e W1 ⟨rfl, hB1⟩; exact ⟨_, rfl, rfl, SG.of hB1 HW.out, HW.out.next hB1⟩))
           simp only [Act.put, List.setIfInBounds_toArray, List.set_cons_succ, List.set_cons_zero])
        refine' R3.WalkR.fx 73 (fun _ W => W.heap[w7.heap.size]? = some (.cells (hvl (hvT y (upd (i : Int) bo ro))).toArray 75 (0, 0))) (fun _ => rfl) rfl (by first | decide +kernel | (dsimp only; decide +kernel)) (by first | decide +kernel | (dsimp only; decide +kernel)) rfl (fun _ _ W W' hv hs _ => hs.keep hv) (fun ρ W hW hH hU => ?_) ?_
        · clear hH hU
          have h5 := HW15.out.2.2.2.2.1
          have h6 := HW15.out.2.2.2.2.2.1
          rcases hW.hg with hx | hx
          · refine gives_store_blk 75 (.tmp 10) (.tmp 73) rfl rfl rfl hx (by rw [h5, h6]; decide) (hvl_one _) HW15.out.2.2.2.1 (fun W' hP hM => ?_)
            rw [splice_all (by rw [h5, h6])] at hM
            exact ⟨hM, hW.put hP hM rfl⟩
          · refine gives_store_blk 75 (.tmp 10) (.tmp 73) rfl rfl rfl hx (by rw [h6]; decide) (hvl_one _) HW15.out.2.2.2.1 (fun W' hP hM => ?_)
            rw [splice_all rfl] at hM
            exact ⟨hM, hW.put hP hM rfl⟩
        refine R3.WalkR.nil (fun ρ W5 hW hH hF => ?_)
        have hY := hF _ (.head _)
        simp only at hY
        clear hH hF
        have L5 := L4.out.best hW.gb hY
        have HL5 := Lib.hid L5
        have htb := TB.out.1
        have e1 : ((i : Int) + 1) = ((i + 1 : Nat) : Int) := by push_cast; rfl
        have e2 : n + i * kept m + kept m = n + (i + 1) * kept m := by rw [Nat.succ_mul]; omega
        rw [e1] at htb
        have HF := Lib.hid (And.intro htb e2)
        clear hW hY L5 htb e1 e2
        go_wp2
        go_roundg g
        case measure => omega
        case rel => exact ⟨i + 1, upd (i : Int) bo ro, by omega, by go_num, HW15.out.2.2.2.2.2.2, HF.out.1, by rw [← HF.out.2]; exact HL5.out⟩

end

end Go.Proofs.YtanjolmelbipoaaDoor

