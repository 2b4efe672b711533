/-
  What is in the cells of a batch, in lists of their own (the program's).
-/
import Derived.Test.YtpnnlmaipcjkmaaGreatQR32
import Derived.Laws.Cover3
set_option linter.all false
namespace Go.Proofs.YtpnnlmaipcjkmaaGreat
open Go.RowKit Go.Shelf
open R6 (done done_ne done_me upd_ne upd_me)

attribute [local go_sem] gives

theorem rowAt_take (ws : List (List Int)) (k p : Nat) : rowAt (ws.take k) p = if p < k then rowAt ws p else [] := by
  unfold rowAt
  by_cases h : p < k
  · rw [List.getElem?_take_of_lt h, if_pos h]
  · rw [if_neg h, List.getElem?_eq_none (by simp; omega)]
    rfl
theorem splice_getD (L r : List Int) (o i : Nat) (h : o + r.length ≤ L.length) : (splice L o r)[i]?.getD 0 = if o ≤ i ∧ i < o + r.length then r[i - o]?.getD 0 else L[i]?.getD 0 := by
  unfold splice
  by_cases h1 : i < o
  · rw [if_neg (by omega), List.getElem?_append_left (by simp; omega), List.getElem?_take_of_lt h1]
  · rw [List.getElem?_append_right (by simp; omega)]
    have e : (L.take o).length = o := by simp; omega
    rw [e]
    by_cases h2 : i < o + r.length
    · rw [if_pos ⟨by omega, h2⟩, List.getElem?_append_left (by omega)]
    · rw [if_neg (by omega), List.getElem?_append_right (by omega), List.getElem?_drop]
      congr 2
      omega
theorem wallL_getD (ws : List (List Int)) (i : Nat) (h : i < 24) : (wallL ws)[i]?.getD 0 = atR (rowAt ws (i / 6)) (i % 6) := by
  simp only [wallL, List.getElem?_map, List.getElem?_range h, Option.map_some, Option.getD_some]
theorem wallL_splice (ws : List (List Int)) (k : Nat) (hk : k < 4) (h6 : (rowAt ws k).length ≤ 6) : splice (wallL (ws.take k)) (k * 6) (rowAt ws k) = wallL (ws.take (k + 1)) := by
  have hl : (splice (wallL (ws.take k)) (k * 6) (rowAt ws k)).length = 24 := by simp [splice, wallL_len]; omega
  apply List.ext_getElem (by rw [hl, wallL_len])
  intro i h1 h2
  have h24 : i < 24 := by omega
  have e := splice_getD (wallL (ws.take k)) (rowAt ws k) (k * 6) i (by rw [wallL_len]; omega)
  rw [wallL_getD _ _ h24, List.getElem?_eq_getElem h1, Option.getD_some] at e
  have e2 := wallL_getD (ws.take (k + 1)) i h24
  rw [List.getElem?_eq_getElem h2, Option.getD_some] at e2
  rw [e, e2, rowAt_take, rowAt_take]
  by_cases ha : i / 6 < k
  · rw [if_neg (by omega), if_pos ha, if_pos (by omega)]
  · rw [if_neg ha]
    by_cases hb : i / 6 = k
    · rw [if_pos (show i / 6 < k + 1 by omega), hb]
      by_cases hc : i < k * 6 + (rowAt ws k).length
      · rw [if_pos ⟨by omega, hc⟩, show i - k * 6 = i % 6 by omega]
        rfl
      · rw [if_neg (by omega), atR_out (r := rowAt ws k) (by omega), atR_out (by simp)]
    · rw [if_neg (by omega), if_neg (by omega)]

theorem bw_splice (t : Bt) (P : Value) (b : Int) (M r : List Int) (o : Nat) : splice (bw t P b M) (6 + o) (ints r) = bw t P b (splice M o r) := by
  have e1 : ([.int .i64 t.water, .int .i64 b, P, .int .i64 t.lo, .int .i64 t.hi, .int .i64 t.need] : List Value).length = 6 := rfl
  have e2 : (ints r).length = r.length := by simp [ints]
  unfold splice bw
  rw [e2, List.take_append, List.drop_append, e1, List.take_of_length_le (by rw [e1]; omega), List.drop_of_length_le (by rw [e1]; omega), show 6 + o - 6 = o by omega, show 6 + o + r.length - 6 = o + r.length by omega]
  simp [ints, List.map_take, List.map_drop]

structure AwC (w : World) (V : Array Value) (N : List Value) (W : World) : Prop where
  bel : Below w.heap.size w W
  sz : w.heap.size + 3 ≤ W.heap.size
  b1 : W.heap[w.heap.size]? = some (.cells V 63 (0, 0))
  b2 : ∃ Z : List Value, W.heap[w.heap.size + 1]? = some (.cells Z.toArray 152 (0, 0)) ∧ Z.length = 30
  b3 : W.heap[w.heap.size + 1 + 1]? = some (.cells N.toArray 152 (0, 0))
theorem AwC.put {w W W' : World} {V : Array Value} {N N' : List Value} (h : AwC w V N W) (hg : W.grownBy W' (some (w.heap.size + 1 + 1))) (hM : W'.heap[w.heap.size + 1 + 1]? = some (.cells N'.toArray 152 (0, 0))) : AwC w V N' W' :=
  ⟨h.bel.grown hg h.bel.size (fun k e => by cases e; omega), Nat.le_trans h.sz hg.size, (hg.block _ (lt_of_heap h.b1) (fun e => by injection e with e; omega)).trans h.b1, h.b2.imp fun _ e => ⟨(hg.block _ (lt_of_heap e.1) (fun e => by injection e with e; omega)).trans e.1, e.2⟩, hM⟩

theorem sizeInt1 : (Tryz.prog.info? 3).map (·.size) = some 1 := by kernel_rfl

set_option maxRecDepth 100000 in
set_option maxHeartbeats 8000000 in
theorem atWork_any (t : Bt) (A : Option Addr) (cap : Nat) (l : List Sl) (B : Nat) (w : World) (hB : B ≤ w.heap.size) (hz : Rows w B A l) (h4 : l.length ≤ 4) (h6 : ∀ s ∈ l, 1 ≤ s.zs.length ∧ s.zs.length ≤ 6) :
    Calls Tryz.prog 69 #[.agg (btcells t (.slice A l.length cap))] w
      fun e w' => e = .returned (.agg (bs t (.slice A l.length cap) (t.borax, rws l)).toArray) ∧ Below w.heap.size w w' := by
  obtain ⟨P, hP⟩ : ∃ P : Value, P = .slice A l.length cap := ⟨_, rfl⟩
  obtain ⟨N, hN⟩ : ∃ N : Nat → List Value, N = fun k => bw t P t.borax (wallL ((rws l).take k)) := ⟨_, rfl⟩
  have hNk : ∀ k, N k = bw t P t.borax (wallL ((rws l).take k)) := fun k => by rw [hN]
  have hlr : (rws l).length = l.length := by simp [rws]
  have hR : bs t (.slice A l.length cap) (t.borax, rws l) = N l.length := by
    have e : (rws l).take l.length = rws l := by rw [← hlr, List.take_length]
    rw [hNk, e, hP]
    rfl
  have hNl : ∀ k, (N k).length = 30 := fun k => by rw [hNk]; exact bw_len _ _ _ _ (wallL_len _)
  have hNo : ∀ k, ∀ v ∈ N k, v.oneCell' = true := fun k => by rw [hNk, hP]; exact bw_one _ _ _ _ _ _
  have hN0 : (N 0).toArray = #[.int .i64 t.water, .int .i64 t.borax, .slice A l.length cap, .int .i64 t.lo, .int .i64 t.hi, .int .i64 t.need, .int .i64 0, .int .i64 0, .int .i64 0, .int .i64 0, .int .i64 0, .int .i64 0, .int .i64 0, .int .i64 0, .int .i64 0, .int .i64 0, .int .i64 0, .int .i64 0, .int .i64 0, .int .i64 0, .int .i64 0, .int .i64 0, .int .i64 0, .int .i64 0, .int .i64 0, .int .i64 0, .int .i64 0, .int .i64 0, .int .i64 0, .int .i64 0] := by
    rw [hNk, hP]
    simp [bw, wallL, rowAt, atR, ints, List.range_succ]
  have hNs : ∀ k (hk : k < l.length), splice (N k) (6 + k * 6) (ints l[k].zs) = N (k + 1) := fun k hk => by
    have e : l[k].zs = rowAt (rws l) k := by simp [rowAt, rws, hk]
    have := h6 _ (List.getElem_mem hk)
    rw [hNk, hNk, bw_splice, e, wallL_splice _ _ (by omega) (by rw [← e]; exact this.2)]
  rw [hR]
  have HN := Lib.hid (And.intro hNl (And.intro hNo (And.intro hN0 hNs)))
  have HZ := Lib.hid hz
  have H6 := Lib.hid h6
  clear hP hN hNk hlr hR hNl hNo hN0 hNs hz h6
  unfold btcells
  go_enter Tryz.func69, Tryz.ntmps69
  go_wp2_with (first
    | (show wpList _ _ _ (Oper.mk none (Op.store _ (Operand.tmp 3) (Operand.tmp 6)) _ _ _ _ :: _) _ _
       rw [← HN.out.2.2.1]
       refine wpList_store_blk 152 (.tmp 3) (.tmp 6) (cs := N 0) (L := [.int .i64 0, .int .i64 0, .slice none 0 0, .int .i64 0, .int .i64 0, .int .i64 0, .int .i64 0, .int .i64 0, .int .i64 0, .int .i64 0, .int .i64 0, .int .i64 0, .int .i64 0, .int .i64 0, .int .i64 0, .int .i64 0, .int .i64 0, .int .i64 0, .int .i64 0, .int .i64 0, .int .i64 0, .int .i64 0, .int .i64 0, .int .i64 0, .int .i64 0, .int .i64 0, .int .i64 0, .int .i64 0, .int .i64 0, .int .i64 0]) rfl rfl rfl rfl rfl (alloc3_at2 w _ _ _) (by rw [HN.out.1]; simp) (HN.out.2.1 0) (by rw [HN.out.1]; exact rowBatch) ?_
       intro w4 hP4 hM4
       rw [splice_whole (by rw [HN.out.1]; rfl)] at hM4
       have hs4 := hP4.size
       simp only [World.size_alloc] at hs4
       have h0 : AwC w #[.int .i64 t.water, .int .i64 t.borax, .slice A l.length cap, .int .i64 t.lo, .int .i64 t.hi, .int .i64 t.need] (N 0) w4 :=
         ⟨((((Below.refl _ w).alloc (Nat.le_refl _) _).alloc (by simp) _).alloc (by simp; omega) _).trans (hP4.below (by omega)), by omega,
           (hP4.other w.heap.size (by omega)).trans (alloc3_at0 w _ _ _), ⟨_, (hP4.other (w.heap.size + 1) (by omega)).trans (alloc3_at1 w _ _ _), rfl⟩, hM4⟩
       have hc4 := fun i => cell_of_row w4 w.heap.size i _ _ _ h0.b1
       have H4 := Lib.hid h0
       clear hP4 hM4 h0 hs4))
  go_loopg [10] l.length (fun gg s10 wx => ∃ k : Nat, k + gg = l.length ∧ s10 = .int .i64 k ∧ Hid (AwC w #[.int .i64 t.water, .int .i64 t.borax, .slice A l.length cap, .int .i64 t.lo, .int .i64 t.hi, .int .i64 t.need] (N k) wx))
  case atStart => exact ⟨0, by omega, rfl, H4.out⟩
  case round =>
    obtain ⟨k, hkg, rfl, hC⟩ := hrel
    clear hc4
    cases gk with
    | zero =>
      obtain rfl : k = l.length := by omega
      obtain ⟨Z, hZ2, hZl⟩ := hC.out.b2
      have HE := Lib.hid (And.intro hZ2 hZl)
      clear hZ2 hZl
      go_wp2_with (first
        | (show wpList _ _ _ (Oper.mk (some 24) _ _ _ _ _ :: _) _ _
           refine wpList_load_blk 152 (.tmp 3) rfl rfl rfl hC.out.b3 (N l.length) (fun j v hj => by rw [Nat.zero_add, List.getElem?_toArray]; exact hj) (by rw [HN.out.1]; exact rowBatch) ?_)
        | (show wpList _ _ _ (Oper.mk none (Op.store _ (Operand.tmp 2) (Operand.tmp 24)) _ _ _ _ :: _) _ _
           refine wpList_store_blk 152 (.tmp 2) (.tmp 24) (cs := N l.length) (L := Z) rfl rfl rfl rfl rfl HE.out.1 (by rw [HN.out.1, HE.out.2]; exact Nat.le_refl _) (HN.out.2.1 _) (by rw [HN.out.1]; exact rowBatch) ?_
           intro w5 hP5 hM5
           rw [splice_whole (by rw [HN.out.1, HE.out.2])] at hM5
           have H5 := Lib.hid (And.intro hP5 hM5)
           clear hP5 hM5))
      refine bodyPost_ret (v := .agg (N l.length).toArray) (results_cell Tryz.results69 rfl H5.out.2 (by rw [HN.out.1]; exact rowBatch)) rfl ⟨rfl, ?_⟩
      exact hC.out.bel.trans (H5.out.1.below (by omega))
    | succ gg =>
      have hk : k < l.length := by omega
      have hkz : (k : Int) < l.length := by omega
      have hkz4 : (k : Int) < 4 := by omega
      have hk0 : (0 : Int) ≤ k := by omega
      have hC0 := hC
      clear hC
      have hsp := HN.out.2.2.2 k hk
      have hy6 := H6.out _ (List.getElem_mem hk)
      obtain ⟨ab, off, hA, hcB, hc⟩ := HZ.out.va (by rw [slvs_len]; omega)
      subst hA
      have hy := hc k _ (slvs_at l k hk)
      obtain ⟨sb, so, hsA, hsB, hs⟩ := HZ.out.each _ (List.getElem_mem hk) (by omega)
      generalize l[k] = y at hy hy6 hsA hs hsp
      obtain ⟨yA, yc, ys⟩ := y
      simp only at hsA hs hy6 hsp
      subst hsA
      unfold slv at hy
      have hyl : (ints ys).length = ys.length := by simp [ints]
      have HY := Lib.hid (And.intro hsp (And.intro hy6 (And.intro hy (And.intro hs (And.intro hcB (And.intro hsB hyl))))))
      have hone : OneW wr (w.heap.size + 1 + 1) (.cells (N k).toArray 152 (0, 0)) (.cells (N (k + 1)).toArray 152 (0, 0)) 9 (fun _ => false) (fun _ => undef) wr.drew := OneW.start hC0.out.b3 rfl
      have HONE := Lib.hid hone
      clear hsp hy6 hy hs hc hyl hone hcB hsB
      go_wp2
      refine R6.wp_walk (C := OneW wr (w.heap.size + 1 + 1) (.cells (N k).toArray 152 (0, 0)) (.cells (N (k + 1)).toArray 152 (0, 0)) 9) 25 (by kernel_rfl) (by kernel_rfl) rfl ⟨HONE.out.gb, HONE.out.lt, HONE.out.no, HONE.out.yes⟩ ?_
      simp only []
      repeat (first
        | (refine' R6.WalkR.det (fun _ => rfl) (fun D ρ W hK hC => ?_) ?_
           rotate_left
           · have hcb := fun i => cell_of_row W w.heap.size i _ _ _ ((hC.other (lt_of_heap hC0.out.b1) (by omega)).trans hC0.out.b1)
             have hblk : W.heap[ab]? = w.heap[ab]? := (hC.other (by have := hC0.out.sz; have := HY.out.2.2.2.2.1; omega) (by have := HY.out.2.2.2.2.1; omega)).trans (hC0.out.bel.block ab (by have := HY.out.2.2.2.2.1; omega))
             have hca : W.cell? ⟨ab, off + k, none⟩ = _ := (World.cell?_of_block (w := w) hblk).trans HY.out.2.2.1
             clear hblk
             have HC := Lib.hid hC
             clear hC hK
             go_simp
             first
               | with_reducible exact ⟨rfl, HC.out.move rfl⟩
               | fail
           simp only [Act.put, List.setIfInBounds_toArray, List.set_cons_succ, List.set_cons_zero]))
      refine' R6.WalkR.det (c := goInt ys.length) (fun _ => rfl) (fun D ρ W hK hC => ?_) ?_
      · have h9 := hC.no hK.me
        have hsrc : ∀ (j : Nat) (v : Value), (ints ys)[j]? = some v → W.cell? (Addr.add ⟨sb, so, none⟩ j) = some v := fun j v hv => by
          have hj : j < ys.length := by rw [← HY.out.2.2.2.2.2.2]; exact (List.getElem?_eq_some_iff.1 hv).1
          have hblk : W.heap[sb]? = w.heap[sb]? := (hC.other (by have := hC0.out.sz; have := HY.out.2.2.2.2.2.1; omega) (by have := HY.out.2.2.2.2.2.1; omega)).trans (hC0.out.bel.block sb (by have := HY.out.2.2.2.2.2.1; omega))
          have hca : W.cell? ⟨sb, so + j, none⟩ = _ := (World.cell?_of_block (w := w) hblk).trans (HY.out.2.2.2.1 j hj)
          rw [add_at, hca, ← hv, ints_atL _ _ hj]
        have HC := Lib.hid hC
        clear hC hK
        refine gives_copy_blk (.tmp 16) (.tmp 21) 59 59 rfl 3 Tryz.underlying59 1 ys.length sizeInt1 (w.heap.size + 1 + 1) (6 + k * 6) 6 6 ⟨sb, so, none⟩ ys.length yc (by rfl) (by rfl) (Nat.min_eq_left HY.out.2.1.2).symm (by rw [HY.out.2.2.2.2.2.2]; omega) hsrc h9 (by rw [HY.out.2.2.2.2.2.2, HN.out.1]; have := HY.out.2.1.2; omega) (oneCells_ints _) ?_
        intro W1 hP hM1
        rw [HY.out.1] at hM1
        exact ⟨rfl, HC.out.put hP hM1⟩
      simp only [Act.put]
      refine R6.WalkR.nil (fun D ρ W hD' hC => ?_)
      have HL2 := Lib.hid (hC0.out.put hC.gb (hC.yes (hD' 9 (by decide))))
      clear hC hD'
      go_wp2
      go_roundg gg
      case measure => omega
      case rel => exact ⟨k + 1, by omega, by go_num, HL2.out⟩

end Go.Proofs.YtpnnlmaipcjkmaaGreat

namespace Go.Proofs.YtpnnlmaipcjkmaaGreat
open Go.RowKit Go.Shelf
open R6 (done done_ne done_me upd_ne upd_me)

attribute [local go_sem] gives

theorem info3 : (Tryz.prog.info? 3).map (fun i => (i.zero, i.size, i.bytes)) = some (some (.int .i64 0), 1, 8) := by kernel_rfl

def OwnI (W : World) (base : Nat) (v : Value) (zs : List Int) : Prop := W.ownsRow base 3 1 v zs.length (ints zs)

theorem OwnI.ints {W : World} {base : Nat} {A : Option Addr} {c : Nat} {zs : List Int} (h : OwnI W base (.slice A zs.length c) zs) : Ints W W.heap.size A zs := (Vals.own h).ints
theorem OwnI.grows {W W' : World} {base : Nat} {v : Value} {zs : List Int} (h : OwnI W base v zs) (hg : Grows W W') : OwnI W' base v zs := own_grows h hg
theorem OwnI.less {W : World} {base base' : Nat} {v : Value} {zs : List Int} (h : OwnI W base v zs) (hb : base' ≤ base) : OwnI W base' v zs := by
  refine ⟨h.1, h.2.imp id ?_⟩
  rintro ⟨g, cap, cur, h1, h2, h3⟩
  exact ⟨g, cap, cur, h1, Nat.le_trans hb h2, h3⟩
theorem own_turn {W W' : World} {base : Nat} {e : TypeId} {size n : Nat} {v : Value} {xs : List Value} {r : Option Nat} (h : W.ownsRow base e size v n xs) (hg : W.grownBy W' r)
    (ht : ∀ b cur t fr, r = some b → W.heap[b]? = some (.cells cur t fr) → t ≠ e) : W'.ownsRow base e size v n xs :=
  own_same h fun k cur fr hk => hg.block k (lt_of_heap hk) fun e' => ht k cur _ fr e'.symm hk rfl
theorem own_blockType {W : World} {base : Nat} {e : TypeId} {size n : Nat} {v : Value} {xs : List Value} (h : W.ownsRow base e size v n xs) {b : Nat} (hb : v.ownBlock = some b) : ∃ cur, W.heap[b]? = some (.cells cur e (0, 0)) ∧ base ≤ b := by
  rcases h.2 with ⟨rfl, _⟩ | ⟨g, cap, cur, rfl, h2, h3, _⟩
  · cases hb
  · simp only [Value.ownBlock, Option.some.injEq] at hb
    subst hb
    exact ⟨cur, h3, h2⟩

structure OwnR (W : World) (base : Nat) (v : Value) (ls : List Sl) : Prop where
  row : W.ownsRow base 59 1 v ls.length (slvs ls)
  each : ∀ s ∈ ls, OwnI W base (slv s) s.zs
theorem slvs_one (ls : List Sl) : ∀ v ∈ slvs ls, v.oneCell' = true := by
  intro v hv
  simp only [slvs, List.mem_map] at hv
  obtain ⟨s, _, rfl⟩ := hv
  rfl
theorem OwnR.rows {W : World} {base : Nat} {A : Option Addr} {c : Nat} {ls : List Sl} (h : OwnR W base (.slice A ls.length c) ls) : Rows W W.heap.size A ls :=
  ⟨Vals.own h.row, fun s hs => (h.each s hs).ints⟩
theorem OwnR.grows {W W' : World} {base : Nat} {v : Value} {ls : List Sl} (h : OwnR W base v ls) (hg : Grows W W') : OwnR W' base v ls := ⟨own_grows h.row hg, fun s hs => (h.each s hs).grows hg⟩
theorem OwnR.app {W W' : World} {base : Nat} {v v' : Value} {ls : List Sl} {s : Sl} (h : OwnR W base v ls) (hs : OwnI W base (slv s) s.zs) (hg : W.grownBy W' v.ownBlock) (ho : W'.ownsRow base 59 1 v' (ls.length + 1) (slvs ls ++ [slv s])) : OwnR W' base v' (ls ++ [s]) := by
  have ht : ∀ b cur t fr, v.ownBlock = some b → W.heap[b]? = some (.cells cur t fr) → t ≠ 3 := fun b cur t fr hb hh => by
    obtain ⟨cur', hc, _⟩ := own_blockType h.row hb
    rw [hc] at hh
    simp only [Option.some.injEq, Obj.cells.injEq] at hh
    rw [← hh.2.1]
    decide
  refine ⟨by simpa [slvs] using ho, fun x hx => ?_⟩
  rcases List.mem_append.1 hx with hx | hx
  · exact own_turn (h.each x hx) hg ht
  · rw [List.mem_singleton.1 hx]
    exact own_turn hs hg ht

structure CelC (b0 : Nat) (w1 : World) (v : Value) (ls : List Sl) (z : List Int) (k1 t1 k2 t2 k3 t3 : Nat) (D : Nat → Bool) (σ : Nat → Value) (W : World) : Prop where
  lb : b0 ≤ W.heap.size
  bel : Below b0 w1 W
  own : D k3 = false → OwnR W b0 v ls
  one : D k1 = true → ∃ s : Sl, σ t1 = slv s ∧ s.zs = z ∧ OwnI W b0 (slv s) z
  two : D k2 = true → D k3 = false → ∃ b, σ t2 = .slice (some ⟨b, 0, none⟩) 1 1 ∧ W.heap[b]? = some (.cells #[σ t1] 59 (0, 0))
  fin : D k3 = true → ∃ s : Sl, s.zs = z ∧ OwnR W b0 (σ t3) (ls ++ [s])
section
variable {b0 : Nat} {w1 W W' : World} {v : Value} {ls : List Sl} {z : List Int} {k1 t1 k2 t2 k3 t3 : Nat} {D : Nat → Bool} {σ : Nat → Value}
def celN (k1 t1 k2 t2 k3 t3 : Nat) : Bool := !(k1 == k2 || k1 == k3 || k2 == k3 || t1 == t2 || t1 == t3 || t2 == t3)
theorem CelC.made (h : CelC b0 w1 v ls z k1 t1 k2 t2 k3 t3 D σ W) (hn : celN k1 t1 k2 t2 k3 t3 = true) (h2 : D k2 = false) (h3 : D k3 = false) {s : Sl} (hz : s.zs = z) (hg : Grows W W') (ho : OwnI W' b0 (slv s) z) :
    CelC b0 w1 v ls z k1 t1 k2 t2 k3 t3 (done D k1) (R4.upd σ (some t1) (slv s)) W' := by
  simp only [celN, Bool.not_eq_true', Bool.or_eq_false_iff, beq_eq_false_iff_ne, ne_eq] at hn
  have e2 := done_ne (D := D) (k := k1) (j := k2) (by omega)
  have e3 := done_ne (D := D) (k := k1) (j := k3) (by omega)
  refine ⟨Nat.le_trans h.lb hg.size, h.bel.trans (hg.mono h.lb), ?_, fun _ => ⟨s, upd_me, hz, ho⟩, ?_, ?_⟩
  · rw [e3]; exact fun e => (h.own e).grows hg
  · rw [e2, h2]; intro e; cases e
  · rw [e3, h3]; intro e; cases e
theorem CelC.start (hb : Below b0 w1 W) (hlb : b0 ≤ W.heap.size) (hO : OwnR W b0 v ls) (hD : ∀ k, D k = false) : CelC b0 w1 v ls z k1 t1 k2 t2 k3 t3 D σ W.drew :=
  ⟨hlb, hb.drew, fun _ => ⟨hO.row, hO.each⟩, fun e => absurd (hD k1) (by rw [e]; decide), fun e _ => absurd (hD k2) (by rw [e]; decide), fun e => absurd (hD k3) (by rw [e]; decide)⟩
end

theorem below_low {B B' : Nat} {a b : World} (h : Below B a b) (hB : B' ≤ B) : Below B' a b := ⟨h.os, h.tape, h.output, h.size, fun k hk => h.block k (by omega)⟩

theorem infoSl : (Tryz.prog.info? 59).map (fun i => (i.zero, i.size, i.bytes)) = some (some (.slice none 0 0), 1, 24) := by kernel_rfl

end Go.Proofs.YtpnnlmaipcjkmaaGreat
