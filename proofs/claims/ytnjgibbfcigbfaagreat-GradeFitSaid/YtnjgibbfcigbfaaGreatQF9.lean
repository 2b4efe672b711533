import Derived.Test.YtnjgibbfcigbfaaGreatQF8
import Derived.Laws.Cover3
set_option linter.all false
set_option maxRecDepth 100000
set_option maxHeartbeats 64000000
namespace Go.Proofs.YtnjgibbfcigbfaaGreat
open Go.RowKit Go.Shelf
open R6 (done zAg zAj upd_ne upd_me)
attribute [local go_sem] gives
theorem zI7 (ws : List (List Int)) (k p : Nat) : rowAt (ws.take k) p = if p < k then rowAt ws p else [] := by
 unfold rowAt
 by_cases h : p < k
 · rw [List.getElem?_take_of_lt h, if_pos h]
 · rw [if_neg h, List.getElem?_eq_none (by simp; omega)]
   rfl
theorem zMq (L r : List Int) (o i : Nat) (h : o + r.length ≤ L.length) : (splice L o r)[i]?.getD 0 = if o ≤ i ∧ i < o + r.length then r[i - o]?.getD 0 else L[i]?.getD 0 := by
 unfold splice
 by_cases h1 : i < o
 · rw [if_neg (by omega), List.getElem?_append_left (by simp; omega), List.getElem?_take_of_lt h1]
 · rw [List.getElem?_append_right (by simp; omega)]
   have e : (L.take o).length = o := by simp; omega
   rw [e]
   by_cases h2 : i < o + r.length
   · rw [if_pos ⟨by omega, h2⟩, List.getElem?_append_left (by omega)]
   · rw [if_neg (by omega), List.getElem?_append_right (by omega), List.getElem?_drop]
     congr 2
     omega
theorem zI8 (ws : List (List Int)) (i : Nat) (h : i < 24) : (wallL ws)[i]?.getD 0 = atR (rowAt ws (i / 6)) (i % 6) := by
 simp only [wallL, List.getElem?_map, List.getElem?_range h, Option.map_some, Option.getD_some]
theorem zLb (ws : List (List Int)) (k : Nat) (hk : k < 4) (h6 : (rowAt ws k).length ≤ 6) : splice (wallL (ws.take k)) (k * 6) (rowAt ws k) = wallL (ws.take (k + 1)) := by
 have hl : (splice (wallL (ws.take k)) (k * 6) (rowAt ws k)).length = 24 := by simp [splice, zB8]; omega
 apply List.ext_getElem (by rw [hl, zB8])
 intro i h1 h2; have h24 : i < 24 := by omega
 have e := zMq (wallL (ws.take k)) (rowAt ws k) (k * 6) i (by rw [zB8]; omega)
 rw [zI8 _ _ h24, List.getElem?_eq_getElem h1, Option.getD_some] at e; have e2 := zI8 (ws.take (k + 1)) i h24; rw [List.getElem?_eq_getElem h2, Option.getD_some] at e2; rw [e, e2, zI7, zI7]
 by_cases ha : i / 6 < k
 · rw [if_neg (by omega), if_pos ha, if_pos (by omega)]
 · rw [if_neg ha]
   by_cases hb : i / 6 = k
   · rw [if_pos (show i / 6 < k + 1 by omega), hb]
     by_cases hc : i < k * 6 + (rowAt ws k).length
     · rw [if_pos ⟨by omega, hc⟩, show i - k * 6 = i % 6 by omega]
       rfl
     · rw [if_neg (by omega), zGh (r := rowAt ws k) (by omega), zGh (by simp)]
   · rw [if_neg (by omega), if_neg (by omega)]
theorem zRd (t : Bt) (P : Value) (b : Int) (M r : List Int) (o : Nat) : splice (bw t P b M) (6 + o) (ints r) = bw t P b (splice M o r) := by
 have e1 : ([.int .i64 t.water, .int .i64 b, P, .int .i64 t.lo, .int .i64 t.hi, .int .i64 t.need] : List Value).length = 6 := rfl; have e2 : (ints r).length = r.length := by simp [ints]
 unfold splice bw; rw [e2, List.take_append, List.drop_append, e1, List.take_of_length_le (by rw [e1]; omega), List.drop_of_length_le (by rw [e1]; omega), show 6 + o - 6 = o by omega, show 6 + o + r.length - 6 = o + r.length by omega]
 simp [ints, List.map_take, List.map_drop]
structure AwC (w : World) (V : Array Value) (N : List Value) (W : World) : Prop where
 bel : Grows w W
 sz : w.heap.size + 3 ≤ W.heap.size
 b1 : W.heap[w.heap.size]? = some (.cells V 63 (0, 0))
 b2 : ∃ Z : List Value, W.heap[w.heap.size + 1]? = some (.cells Z.toArray 152 (0, 0)) ∧ Z.length = 30
 b3 : W.heap[w.heap.size + 1 + 1]? = some (.cells N.toArray 152 (0, 0))
theorem AwC.put {w W W' : World} {V : Array Value} {N N' : List Value} (h : AwC w V N W) (hg : W.grownBy W' (some (w.heap.size + 1 + 1))) (hM : W'.heap[w.heap.size + 1 + 1]? = some (.cells N'.toArray 152 (0, 0))) : AwC w V N' W' :=
 ⟨h.bel.grown hg h.bel.size (fun k e => by cases e; omega), Nat.le_trans h.sz hg.size, (hg.block _ (zAa h.b1) (fun e => by injection e with e; omega)).trans h.b1, h.b2.imp fun _ e => ⟨(hg.block _ (zAa e.1) (fun e => by injection e with e; omega)).trans e.1, e.2⟩, hM⟩
theorem zG6 : (Tryz.prog.info? 3).map (·.size) = some 1 := by kernel_rfl
theorem zF6 (t : Bt) (A : Option Addr) (cap : Nat) (l : List Sl) (B : Nat) (w : World) (hB : B ≤ w.heap.size) (hz : Rows w B A l) (h4 : l.length ≤ 4) (h6 : ∀ s ∈ l, 1 ≤ s.zs.length ∧ s.zs.length ≤ 6) :
 Calls Tryz.prog 69 #[.agg (zAt t (.slice A l.length cap))] w
  fun e w' => e = .returned (.agg (bs t (.slice A l.length cap) (t.borax, rws l)).toArray) ∧ Grows w w' := by
 obtain ⟨P, hP⟩ : ∃ P : Value, P = .slice A l.length cap := ⟨_, rfl⟩; obtain ⟨N, hN⟩ : ∃ N : Nat → List Value, N = fun k => bw t P t.borax (wallL ((rws l).take k)) := ⟨_, rfl⟩
 have hNk : ∀ k, N k = bw t P t.borax (wallL ((rws l).take k)) := fun k => by rw [hN]
 have hlr : (rws l).length = l.length := by simp [rws]
 have hR : bs t (.slice A l.length cap) (t.borax, rws l) = N l.length := by
  have e : (rws l).take l.length = rws l := by rw [← hlr, List.take_length]
  rw [hNk, e, hP]
  rfl
 have hNl : ∀ k, (N k).length = 30 := fun k => by rw [hNk]; exact zQ2 _ _ _ _ (zB8 _)
 have hNo : ∀ k, ∀ v ∈ N k, v.oneCell' = true := fun k => by rw [hNk, hP]; exact zVg _ _ _ _ _ _
 have hN0 : (N 0).toArray = #[.int .i64 t.water, .int .i64 t.borax, .slice A l.length cap, .int .i64 t.lo, .int .i64 t.hi, .int .i64 t.need, .int .i64 0, .int .i64 0, .int .i64 0, .int .i64 0, .int .i64 0, .int .i64 0, .int .i64 0, .int .i64 0, .int .i64 0, .int .i64 0, .int .i64 0, .int .i64 0, .int .i64 0, .int .i64 0, .int .i64 0, .int .i64 0, .int .i64 0, .int .i64 0, .int .i64 0, .int .i64 0, .int .i64 0, .int .i64 0, .int .i64 0, .int .i64 0] := by
  rw [hNk, hP]; simp [bw, wallL, rowAt, atR, ints, List.range_succ]
 have hNs : ∀ k (hk : k < l.length), splice (N k) (6 + k * 6) (ints l[k].zs) = N (k + 1) := fun k hk => by
  have e : l[k].zs = rowAt (rws l) k := by simp [rowAt, rws, hk]
  have := h6 _ (List.getElem_mem hk); rw [hNk, hNk, zRd, e, zLb _ _ (by omega) (by rw [← e]; exact this.2)]
 rw [hR]; have HN := zz4 hNl hNo hN0 hNs; have HZ := zzh hz; have H6 := zzh h6; clear hP hN hNk hlr hR hNl hNo hN0 hNs hz h6; unfold zAt
 go_enter Tryz.func69, Tryz.ntmps69
 go_wp2_with (first
  | (show wpList _ _ _ (Oper.mk none (Op.store _ (Operand.tmp 3) (Operand.tmp 6)) _ _ _ _ :: _) _ _; rw [← HN.out.2.2.1]; refine zAb 152 (.tmp 3) (.tmp 6) (cs := N 0) (L := [.int .i64 0, .int .i64 0, .slice none 0 0, .int .i64 0, .int .i64 0, .int .i64 0, .int .i64 0, .int .i64 0, .int .i64 0, .int .i64 0, .int .i64 0, .int .i64 0, .int .i64 0, .int .i64 0, .int .i64 0, .int .i64 0, .int .i64 0, .int .i64 0, .int .i64 0, .int .i64 0, .int .i64 0, .int .i64 0, .int .i64 0, .int .i64 0, .int .i64 0, .int .i64 0, .int .i64 0, .int .i64 0, .int .i64 0, .int .i64 0]) rfl rfl rfl rfl rfl (zA9 w _ _ _) (by rw [HN.out.1]; simp) (HN.out.2.1 0) (by rw [HN.out.1]; exact zAz) ?_
     intro w4 hP4 hM4; rw [zAe (by rw [HN.out.1]; rfl)] at hM4
     have hs4 := hP4.size; simp only [World.size_alloc] at hs4
     have h0 : AwC w #[.int .i64 t.water, .int .i64 t.borax, .slice A l.length cap, .int .i64 t.lo, .int .i64 t.hi, .int .i64 t.need] (N 0) w4 :=
      ⟨((((Below.refl _ w).alloc (Nat.le_refl _) _).alloc (by simp) _).alloc (by simp; omega) _).trans (hP4.below (by omega)), by omega,
        (hP4.other w.heap.size (by omega)).trans (zA7 w _ _ _), ⟨_, (hP4.other (w.heap.size + 1) (by omega)).trans (zA8 w _ _ _), rfl⟩, hM4⟩
     have hc4 := fun i => cell_of_row w4 w.heap.size i _ _ _ h0.b1
     have H4 := zzh h0; clear hP4 hM4 h0 hs4))
 go_loopg [10] l.length (fun gg s10 wx => ∃ k : Nat, k + gg = l.length ∧ s10 = .int .i64 k ∧ Hid (AwC w #[.int .i64 t.water, .int .i64 t.borax, .slice A l.length cap, .int .i64 t.lo, .int .i64 t.hi, .int .i64 t.need] (N k) wx))
 case atStart => exact ⟨0, by omega, rfl, H4.out⟩
 case round =>
  obtain ⟨k, hkg, rfl, hC⟩ := hrel; clear hc4; cases gk with
  | zero =>
    obtain rfl : k = l.length := by omega
    obtain ⟨Z, hZ2, hZl⟩ := hC.out.b2; have HE := zz2 hZ2 hZl; clear hZ2 hZl
    go_wp2_with (first
     | (refine zAc 152 (.tmp 3) rfl rfl rfl hC.out.b3 (N l.length) (fun j v hj => by rw [Nat.zero_add, List.getElem?_toArray]; exact hj) (by rw [HN.out.1]; exact zAz) ?_)
     | (refine zAb 152 (.tmp 2) (.tmp 24) (cs := N l.length) (L := Z) rfl rfl rfl rfl rfl HE.out.1 (by rw [HN.out.1, HE.out.2]; exact Nat.le_refl _) (HN.out.2.1 _) (by rw [HN.out.1]; exact zAz) ?_
        intro w5 hP5 hM5; rw [zAe (by rw [HN.out.1, HE.out.2])] at hM5
        have H5 := zz2 hP5 hM5; clear hP5 hM5))
    refine bodyPost_ret (v := .agg (N l.length).toArray) (zC5 Tryz.results69 rfl H5.out.2 (by rw [HN.out.1]; exact zAz)) rfl ⟨rfl, ?_⟩
    exact hC.out.bel.trans (H5.out.1.below (by omega))
  | succ gg =>
    have hk : k < l.length := by omega
    have hkz : (k : Int) < l.length := by omega
    have hkz4 : (k : Int) < 4 := by omega
    have hk0 : (0 : Int) ≤ k := by omega
    have hC0 := hC; clear hC; have hsp := HN.out.2.2.2 k hk; have hy6 := H6.out _ (List.getElem_mem hk); obtain ⟨ab, off, hA, hcB, hc⟩ := HZ.out.va (by rw [zCm]; omega)
    subst hA; have hy := hc k _ (zEx l k hk); obtain ⟨sb, so, hsA, hsB, hs⟩ := HZ.out.each _ (List.getElem_mem hk) (by omega)
    generalize l[k] = y at hy hy6 hsA hs hsp; obtain ⟨yA, yc, ys⟩ := y; simp only at hsA hs hy6 hsp; subst hsA; unfold slv at hy; have hyl : (ints ys).length = ys.length := by simp [ints]
    have HY := zzh (And.intro hsp (And.intro hy6 (And.intro hy (And.intro hs (And.intro hcB (And.intro hsB hyl)))))); have hone : OneW wr (w.heap.size + 1 + 1) (.cells (N k).toArray 152 (0, 0)) (.cells (N (k + 1)).toArray 152 (0, 0)) 9 (fun _ => false) (fun _ => undef) wr.drew := OneW.start hC0.out.b3 rfl
    have HONE := zzh hone; clear hsp hy6 hy hs hc hyl hone hcB hsB; go_wp2; refine R6.wp_walk (C := OneW wr (w.heap.size + 1 + 1) (.cells (N k).toArray 152 (0, 0)) (.cells (N (k + 1)).toArray 152 (0, 0)) 9) 25 (by kernel_rfl) (by kernel_rfl) rfl ⟨HONE.out.gb, HONE.out.lt, HONE.out.no, HONE.out.yes⟩ ?_
    simp only []
    repeat (first
     | (refine' R6.WalkR.det (fun _ => rfl) (fun D ρ W hK hC => ?_) ?_
        rotate_left
        · have hcb := fun i => cell_of_row W w.heap.size i _ _ _ ((hC.other (zAa hC0.out.b1) (by omega)).trans hC0.out.b1)
          have hblk : W.heap[ab]? = w.heap[ab]? := (hC.other (by have := hC0.out.sz; have := HY.out.2.2.2.2.1; omega) (by have := HY.out.2.2.2.2.1; omega)).trans (hC0.out.bel.block ab (by have := HY.out.2.2.2.2.1; omega))
          have hca : W.cell? ⟨ab, off + k, none⟩ = _ := (World.cell?_of_block (w := w) hblk).trans HY.out.2.2.1; clear hblk; have HC := zzh hC; clear hC hK; go_simp
          first
           | with_reducible exact ⟨rfl, HC.out.move rfl⟩
           | fail
        simp only [Act.put, zza, zzb, zzc]))
    refine' R6.WalkR.det (c := goInt ys.length) (fun _ => rfl) (fun D ρ W hK hC => ?_) ?_
    · have h9 := hC.no hK.me
      have hsrc : ∀ (j : Nat) (v : Value), (ints ys)[j]? = some v → W.cell? (Addr.add ⟨sb, so, none⟩ j) = some v := fun j v hv => by
       have hj : j < ys.length := by rw [← HY.out.2.2.2.2.2.2]; exact (List.getElem?_eq_some_iff.1 hv).1
       have hblk : W.heap[sb]? = w.heap[sb]? := (hC.other (by have := hC0.out.sz; have := HY.out.2.2.2.2.2.1; omega) (by have := HY.out.2.2.2.2.2.1; omega)).trans (hC0.out.bel.block sb (by have := HY.out.2.2.2.2.2.1; omega))
       have hca : W.cell? ⟨sb, so + j, none⟩ = _ := (World.cell?_of_block (w := w) hblk).trans (HY.out.2.2.2.1 j hj); rw [add_at, hca, ← hv, zKn _ _ hj]
      have HC := zzh hC; clear hC hK; refine zI2 (.tmp 16) (.tmp 21) 59 59 rfl 3 Tryz.underlying59 1 ys.length zG6 (w.heap.size + 1 + 1) (6 + k * 6) 6 6 ⟨sb, so, none⟩ ys.length yc (by rfl) (by rfl) (Nat.min_eq_left HY.out.2.1.2).symm (by rw [HY.out.2.2.2.2.2.2]; omega) hsrc h9 (by rw [HY.out.2.2.2.2.2.2, HN.out.1]; have := HY.out.2.1.2; omega) (zBp _) ?_
      intro W1 hP hM1; rw [HY.out.1] at hM1; exact ⟨rfl, HC.out.put hP hM1⟩
    simp only [Act.put]; refine R6.WalkR.nil (fun D ρ W hD' hC => ?_)
    have HL2 := zzh (hC0.out.put hC.gb (hC.yes (hD' 9 (by decide))))
    clear hC hD'; go_wp2
    go_roundg gg
    case measure => omega
    case rel => exact ⟨k + 1, by omega, by go_num, HL2.out⟩
theorem zF7 {P : Program} (w : World) (t e : TypeId) (a : Option Addr) (l c : Nat) (h : P.underlying t = some (.slice e)) : (binOp .eql t (.slice a l c) (.slice none 0 0)).run P w = .ok (.bool a.isNone) w := by
 simp only [binOp]; simp [run_equal_slice_nil w t e a l c h]
theorem info3 : (Tryz.prog.info? 3).map (fun i => (i.zero, i.size, i.bytes)) = some (some (.int .i64 0), 1, 8) := by kernel_rfl
def OwnI (W : World) (base : Nat) (v : Value) (zs : List Int) : Prop := W.ownsRow base 3 1 v zs.length (ints zs)
theorem zRe (b off cap : Nat) (zs : List Int) (w : World) (hl : zs.length ≤ 1000) (hI : Ints w w.heap.size (some ⟨b, off, none⟩) zs) :
 Calls Tryz.prog 121 #[.slice (some ⟨b, off, none⟩) zs.length cap] w fun e w' => ∃ g c, e = .returned (.slice (some ⟨g, 0, none⟩) zs.length c) ∧ OwnI w' w.heap.size (.slice (some ⟨g, 0, none⟩) zs.length c) zs ∧ Grows w w' := by
 obtain ⟨i0, hi, hz0, hz1, hz2⟩ := info_parts info3; have HI := zz4 hi hz0 hz1 hz2; have h1 := zBp zs; have hsl : (ints zs).length = zs.length * 1 := by simp [ints]
 have HV := zzh hI.vals; have Hsl := zzh hsl; clear hI hi hz0 hz1 hz2 hsl; have hnil : ∀ W, (binOp .eql 59 (.slice (some ⟨b, off, none⟩) zs.length cap) (.slice none 0 0)).run Tryz.prog W = .ok (.bool false) W := fun W => zF7 W 59 3 (some ⟨b, off, none⟩) zs.length cap Tryz.underlying59
 go_enter Tryz.func121, Tryz.ntmps121
 go_wp2_with (first
  | (at_builtin
     refine zTa (by rfl) (.tmp 5) (.tmp 6) _ (by rfl) w.heap.size 3 i0 _ 1 8 Tryz.underlying59 HI.out.1 HI.out.2.1 HI.out.2.2.1 HI.out.2.2.2 rfl (by omega) _ (by rfl) (zAd _ _) (by omega)
      w.heap.size (some ⟨b, off, none⟩) zs.length cap (ints zs) (by rfl) (HV.out.below ((Below.refl _ _).alloc (Nat.le_refl _) _)) Hsl.out h1 (by simp only [maxLen]; omega) (by omega) ?_
     intro x1 y1 w3 hown hgrow hat hx1 hx1s; have HO := zzh hown; have HB3 := zzh (Below.ofGrown ((Below.refl w.heap.size w).alloc (Nat.le_refl _) _) hgrow (by simp) (Nat.le_refl _))
     clear hown hgrow hat)
  | fail)
 go_ret
 exact ⟨x1, y1, rfl, HO.out, HB3.out⟩
theorem OwnI.ints {W : World} {base : Nat} {A : Option Addr} {c : Nat} {zs : List Int} (h : OwnI W base (.slice A zs.length c) zs) : Ints W W.heap.size A zs := (Vals.own h).ints
theorem OwnI.grows {W W' : World} {base : Nat} {v : Value} {zs : List Int} (h : OwnI W base v zs) (hg : Grows W W') : OwnI W' base v zs := zBi h hg
theorem OwnI.less {W : World} {base base' : Nat} {v : Value} {zs : List Int} (h : OwnI W base v zs) (hb : base' ≤ base) : OwnI W base' v zs := by
 refine ⟨h.1, h.2.imp id ?_⟩; rintro ⟨g, cap, cur, h1, h2, h3⟩; exact ⟨g, cap, cur, h1, Nat.le_trans hb h2, h3⟩
theorem zN0 {W W' : World} {base : Nat} {e : TypeId} {size n : Nat} {v : Value} {xs : List Value} {r : Option Nat} (h : W.ownsRow base e size v n xs) (hg : W.grownBy W' r)
 (ht : ∀ b cur t fr, r = some b → W.heap[b]? = some (.cells cur t fr) → t ≠ e) : W'.ownsRow base e size v n xs :=
 zOk h fun k cur fr hk => hg.block k (zAa hk) fun e' => ht k cur _ fr e'.symm hk rfl
theorem zE9 {W : World} {base : Nat} {e : TypeId} {size n : Nat} {v : Value} {xs : List Value} (h : W.ownsRow base e size v n xs) {b : Nat} (hb : v.ownBlock = some b) : ∃ cur, W.heap[b]? = some (.cells cur e (0, 0)) ∧ base ≤ b := by
 rcases h.2 with ⟨rfl, _⟩ | ⟨g, cap, cur, rfl, h2, h3, _⟩
 · cases hb
 · simp only [Value.ownBlock, Option.some.injEq] at hb; subst hb; exact ⟨cur, h3, h2⟩
structure OwnR (W : World) (base : Nat) (v : Value) (ls : List Sl) : Prop where
 row : W.ownsRow base 59 1 v ls.length (slvs ls)
 each : ∀ s ∈ ls, OwnI W base (slv s) s.zs
theorem zUf (ls : List Sl) : ∀ v ∈ slvs ls, v.oneCell' = true := by
 intro v hv; simp only [slvs, List.mem_map] at hv; obtain ⟨s, _, rfl⟩ := hv
 rfl
theorem OwnR.rows {W : World} {base : Nat} {A : Option Addr} {c : Nat} {ls : List Sl} (h : OwnR W base (.slice A ls.length c) ls) : Rows W W.heap.size A ls :=
 ⟨Vals.own h.row, fun s hs => (h.each s hs).ints⟩
theorem OwnR.grows {W W' : World} {base : Nat} {v : Value} {ls : List Sl} (h : OwnR W base v ls) (hg : Grows W W') : OwnR W' base v ls := ⟨zBi h.row hg, fun s hs => (h.each s hs).grows hg⟩
theorem OwnR.less {W : World} {base base' : Nat} {v : Value} {ls : List Sl} (h : OwnR W base v ls) (hb : base' ≤ base) : OwnR W base' v ls := by
 refine ⟨⟨h.row.1, h.row.2.imp id ?_⟩, fun s hs => (h.each s hs).less hb⟩
 rintro ⟨g, cap, cur, h1, h2, h3⟩; exact ⟨g, cap, cur, h1, Nat.le_trans hb h2, h3⟩
theorem OwnR.app {W W' : World} {base : Nat} {v v' : Value} {ls : List Sl} {s : Sl} (h : OwnR W base v ls) (hs : OwnI W base (slv s) s.zs) (hg : W.grownBy W' v.ownBlock) (ho : W'.ownsRow base 59 1 v' (ls.length + 1) (slvs ls ++ [slv s])) : OwnR W' base v' (ls ++ [s]) := by
 have ht : ∀ b cur t fr, v.ownBlock = some b → W.heap[b]? = some (.cells cur t fr) → t ≠ 3 := fun b cur t fr hb hh => by
  obtain ⟨cur', hc, _⟩ := zE9 h.row hb; rw [hc] at hh; simp only [Option.some.injEq, Obj.cells.injEq] at hh; rw [← hh.2.1]
  decide
 refine ⟨by simpa [slvs] using ho, fun x hx => ?_⟩
 rcases List.mem_append.1 hx with hx | hx
 · exact zN0 (h.each x hx) hg ht
 · rw [List.mem_singleton.1 hx]; exact zN0 hs hg ht
structure CelC (b0 : Nat) (w1 : World) (v : Value) (ls : List Sl) (z : List Int) (k1 t1 k2 t2 k3 t3 : Nat) (D : Nat → Bool) (σ : Nat → Value) (W : World) : Prop where
 lb : b0 ≤ W.heap.size
 bel : Below b0 w1 W
 own : D k3 = false → OwnR W b0 v ls
 one : D k1 = true → ∃ s : Sl, σ t1 = slv s ∧ s.zs = z ∧ OwnI W b0 (slv s) z
 two : D k2 = true → D k3 = false → ∃ b, σ t2 = .slice (some ⟨b, 0, none⟩) 1 1 ∧ W.heap[b]? = some (.cells #[σ t1] 59 (0, 0))
 fin : D k3 = true → ∃ s : Sl, s.zs = z ∧ OwnR W b0 (σ t3) (ls ++ [s])
def celK (k1 t1 k2 t2 k3 t3 k : Nat) (d : Option Nat) : Bool := !(k == k1 || k == k2 || k == k3 || d == some t1 || d == some t2 || d == some t3)
section
variable {b0 : Nat} {w1 W W' : World} {v : Value} {ls : List Sl} {z : List Int} {k1 t1 k2 t2 k3 t3 : Nat} {D : Nat → Bool} {σ : Nat → Value}
theorem CelC.move {k : Nat} {d : Option Nat} {u : Value} (h : CelC b0 w1 v ls z k1 t1 k2 t2 k3 t3 D σ W) (hk : celK k1 t1 k2 t2 k3 t3 k d = true) : CelC b0 w1 v ls z k1 t1 k2 t2 k3 t3 (done D k) (R4.upd σ d u) W := by
 simp only [celK, Bool.not_eq_true', Bool.or_eq_false_iff, beq_eq_false_iff_ne, ne_eq] at hk; obtain ⟨⟨⟨⟨⟨a1, a2⟩, a3⟩, d1⟩, d2⟩, d3⟩ := hk; have e1 := zAg (D := D) (k := k) (j := k1) (by omega)
 have e2 := zAg (D := D) (k := k) (j := k2) (by omega)
 have e3 := zAg (D := D) (k := k) (j := k3) (by omega)
 have u1 := upd_ne (ρ := σ) (v := u) d1; have u2 := upd_ne (ρ := σ) (v := u) d2; have u3 := upd_ne (ρ := σ) (v := u) d3; exact ⟨h.lb, h.bel, by rw [e3]; exact h.own, by rw [e1, u1]; exact h.one, by rw [e2, e3, u2, u1]; exact h.two, by rw [e3, u3]; exact h.fin⟩
def celN (k1 t1 k2 t2 k3 t3 : Nat) : Bool := !(k1 == k2 || k1 == k3 || k2 == k3 || t1 == t2 || t1 == t3 || t2 == t3)
theorem CelC.made (h : CelC b0 w1 v ls z k1 t1 k2 t2 k3 t3 D σ W) (hn : celN k1 t1 k2 t2 k3 t3 = true) (h2 : D k2 = false) (h3 : D k3 = false) {s : Sl} (hz : s.zs = z) (hg : Grows W W') (ho : OwnI W' b0 (slv s) z) :
 CelC b0 w1 v ls z k1 t1 k2 t2 k3 t3 (done D k1) (R4.upd σ (some t1) (slv s)) W' := by
 simp only [celN, Bool.not_eq_true', Bool.or_eq_false_iff, beq_eq_false_iff_ne, ne_eq] at hn; have e2 := zAg (D := D) (k := k1) (j := k2) (by omega)
 have e3 := zAg (D := D) (k := k1) (j := k3) (by omega)
 refine ⟨Nat.le_trans h.lb hg.size, h.bel.trans (hg.mono h.lb), ?_, fun _ => ⟨s, upd_me, hz, ho⟩, ?_, ?_⟩
 · rw [e3]; exact fun e => (h.own e).grows hg
 · rw [e2, h2]; intro e; cases e
 · rw [e3, h3]; intro e; cases e
theorem CelC.built (h : CelC b0 w1 v ls z k1 t1 k2 t2 k3 t3 D σ W) (hn : celN k1 t1 k2 t2 k3 t3 = true) (h3 : D k3 = false) :
 CelC b0 w1 v ls z k1 t1 k2 t2 k3 t3 (done D k2) (R4.upd σ (some t2) (.slice (some ⟨W.heap.size, 0, none⟩) 1 1)) (W.alloc (.cells #[σ t1] 59)) := by
 simp only [celN, Bool.not_eq_true', Bool.or_eq_false_iff, beq_eq_false_iff_ne, ne_eq] at hn; have e1 := zAg (D := D) (k := k2) (j := k1) (by omega)
 have e3 := zAg (D := D) (k := k2) (j := k3) (by omega)
 have hg : Grows W (W.alloc (.cells #[σ t1] 59)) := grow1 _ _; have u1 : R4.upd σ (some t2) (.slice (some ⟨W.heap.size, 0, none⟩) 1 1) t1 = σ t1 := upd_ne (by simp; omega)
 refine ⟨Nat.le_trans h.lb hg.size, h.bel.trans (hg.mono h.lb), ?_, ?_, fun _ _ => ⟨_, upd_me, ?_⟩, ?_⟩
 · rw [e3]; exact fun e => (h.own e).grows hg
 · rw [e1, u1]; exact fun e => let ⟨s, a, b, c⟩ := h.one e; ⟨s, a, b, c.grows hg⟩
 · rw [u1]; exact zAd _ _
 · rw [e3, h3]; intro e; cases e
theorem CelC.apped (h : CelC b0 w1 v ls z k1 t1 k2 t2 k3 t3 D σ W) (h3 : D k3 = false) {s : Sl} (hσ : σ t1 = slv s) (hz : s.zs = z) (hs : OwnI W b0 (slv s) z) {v' : Value}
 (ho : W'.ownsRow b0 59 1 v' (ls.length + 1) (slvs ls ++ [slv s])) (hg : W.grownBy W' v.ownBlock) (hn : celN k1 t1 k2 t2 k3 t3 = true) : CelC b0 w1 v ls z k1 t1 k2 t2 k3 t3 (done D k3) (R4.upd σ (some t3) v') W' := by
 simp only [celN, Bool.not_eq_true', Bool.or_eq_false_iff, beq_eq_false_iff_ne, ne_eq] at hn; have hO := h.own h3; have u1 : R4.upd σ (some t3) v' t1 = σ t1 := upd_ne (by simp; omega)
 have hO' := hO.app (s := s) (by rw [hz]; exact hs) hg ho
 refine ⟨Nat.le_trans h.lb hg.size, h.bel.grown hg h.lb (fun k e => (zE9 hO.row e).choose_spec.2), fun e => ?_, fun _ => ⟨s, by rw [u1]; exact hσ, hz, ?_⟩, fun _ e => ?_, fun _ => ⟨s, hz, by rw [upd_me]; exact hO'⟩⟩
 · rw [zAj] at e; cases e
 · have := hO'.each s (by simp)
   rw [hz] at this; exact this
 · rw [zAj] at e; cases e
theorem CelC.start (hb : Below b0 w1 W) (hlb : b0 ≤ W.heap.size) (hO : OwnR W b0 v ls) (hD : ∀ k, D k = false) : CelC b0 w1 v ls z k1 t1 k2 t2 k3 t3 D σ W.drew :=
 ⟨hlb, hb.drew, fun _ => ⟨hO.row, hO.each⟩, fun e => absurd (hD k1) (by rw [e]; decide), fun e _ => absurd (hD k2) (by rw [e]; decide), fun e => absurd (hD k3) (by rw [e]; decide)⟩
end
theorem zFa {B B' : Nat} {a b : World} (h : Below B a b) (hB : B' ≤ B) : Below B' a b := ⟨h.os, h.tape, h.output, h.size, fun k hk => h.block k (by omega)⟩
theorem infoSl : (Tryz.prog.info? 59).map (fun i => (i.zero, i.size, i.bytes)) = some (some (.slice none 0 0), 1, 24) := by kernel_rfl
def CellsPost (w : World) (ws : List (List Int)) (e : Ending) (w' : World) : Prop :=
 ∃ A c ls, e = .returned (.slice A ls.length c) ∧ rws ls = ws ∧ OwnR w' w.heap.size (.slice A ls.length c) ls ∧ Grows w w'
theorem zRf (t : Bt) (A : Option Addr) (cap : Nat) (l : List Sl) (st : St) (B : Nat) (w : World) (hB : B ≤ w.heap.size) (hz : Rows w B A l) (h4 : l.length ≤ 4) (h6 : ∀ s ∈ l, s.zs.length ≤ 6) (hl : lens st.2 = lens (rws l)) :
 Calls Tryz.prog 74 #[.agg (bs t (.slice A l.length cap) st).toArray] w (CellsPost w st.2) := by
 have hn : st.2.length = l.length := by have := zDy hl; simpa [rws] using this
 obtain ⟨V, hV⟩ : ∃ V, V = (bs t (.slice A l.length cap) st).toArray := ⟨_, rfl⟩; rw [← hV]; have hV2 : V[2]? = some (.slice A l.length cap) := by rw [hV]; rfl
 have hVw : ∀ p c, p < 4 → c < 6 → V[6 + p * 6 + c]? = some (.int .i64 (atR (rowAt st.2 p) c)) := fun p c hp hc => by rw [hV, List.getElem?_toArray]; exact bv_at t _ st.1 st.2 p c hp hc
 have hrl : ∀ p (hp : p < l.length), (rowAt st.2 p).length = l[p].zs.length := fun p hp => by
  have := zGi hl p; rw [this]; simp [rowAt, rws, hp]
 obtain ⟨w1, hw1⟩ : ∃ w1, w.alloc (.cells V 152) = w1 := ⟨_, rfl⟩; have hs1 : w1.heap.size = w.heap.size + 1 := by rw [← hw1]; simp
 have hb1 : w1.heap[w.heap.size]? = some (.cells V 152 (0, 0)) := by rw [← hw1]; exact zAd _ _
 have hbw : Grows w w1 := by rw [← hw1]; exact (Below.refl _ _).alloc (Nat.le_refl _) _
 have hc2 := (cell_of_row w1 w.heap.size 2 _ _ _ hb1).trans hV2; have HV := zz4 hVw hrl hn hV2; obtain ⟨i0, hi, hz0, hz1, hz2⟩ := info_parts infoSl; have HI := zz4 hi hz0 hz1 hz2; clear hi hz0 hz1 hz2; have HZ := zzh hz; have H6 := zzh h6; have H1 := zz3 hs1 hb1 hbw; clear hV hV2 hVw hrl hs1 hb1 hbw hz h6 hl hn
 go_enter Tryz.func74, Tryz.ntmps74
 go_wp2
 go_loopg [3, 9] l.length (fun gg s3 s9 wx => ∃ (k : Nat) (ls : List Sl) (v : Value), k + gg = l.length ∧ ls.length = k ∧ s3 = v ∧ s9 = .int .i64 k ∧ Hid (rws ls = st.2.take k) ∧ Hid (OwnR wx (w.heap.size + 1) v ls) ∧ Hid (Below (w.heap.size + 1) w1 wx) ∧ w.heap.size + 1 ≤ wx.heap.size)
 case atStart => exact ⟨0, [], _, by omega, rfl, rfl, rfl, rfl, ⟨⟨rfl, .inl ⟨rfl, rfl⟩⟩, fun s hs => by cases hs⟩, Below.refl _ _, by rw [H1.out.1]; exact Nat.le_refl _⟩
 case round =>
  obtain ⟨k, ls, v, hkg, hlk, hs3, rfl, hR, hO, hBr, hsr⟩ := hrel; obtain rfl := hs3.symm; clear hc2; have HLK := zzh hlk; clear hlk; cases gk with
  | zero =>
    have hkl : k = l.length := by omega
    have HKL := zzh hkl; have hkn : ¬ (k : Int) < l.length := by omega
    clear hkl; go_wp2; go_ret
    obtain ⟨A', c', hv⟩ := zBo hO.out.row; refine ⟨A', c', ls, by rw [hv]; rfl, ?_, ?_, H1.out.2.2.trans (zFa hBr.out (by omega))⟩
    · rw [hR.out, HKL.out, ← HV.out.2.2.1, List.take_length]
    · rw [← hv]; exact hO.out.less (by omega)
  | succ gg =>
    have hk : k < l.length := by omega
    have hkz : (k : Int) < l.length := by omega
    have hkz4 : (k : Int) < 4 := by omega
    have hk0 : (0 : Int) ≤ k := by omega
    have hw := fun c hc => HV.out.1 k c (by omega) hc
    have hzl := HV.out.2.1 k hk
    have hrt : st.2.take (k + 1) = st.2.take k ++ [rowAt st.2 k] := by
     have hk2 : k < st.2.length := by rw [HV.out.2.2.1]; exact hk
     rw [List.take_add_one, List.getElem?_eq_getElem hk2]; simp [rowAt, hk2]
    obtain ⟨ab, off, hA, hcB, hc⟩ := HZ.out.va (by rw [zCm]; omega)
    subst hA; have hy := hc k _ (zEx l k hk); have hy6 := H6.out _ (List.getElem_mem hk); generalize l[k] = y at hy hzl hy6; obtain ⟨yA, yc, ys⟩ := y; simp only at hy6 hzl; unfold slv at hy; simp only at hy; rw [← hzl] at hy; generalize rowAt st.2 k = z at hw hzl hy hrt; have hz6 : (z.length : Int) ≤ 6 := by omega
    have hz0 : (0 : Int) ≤ z.length := by omega
    have hzi : ∀ W : World, W.heap[w.heap.size]? = some (.cells V 152 (0, 0)) → Ints W W.heap.size (some ⟨w.heap.size, 6 + k * 6, none⟩) z := fun W hW _ =>
     ⟨w.heap.size, 6 + k * 6, rfl, zAa hW, fun j hj => (cell_of_row W w.heap.size (6 + k * 6 + j) _ _ _ hW).trans (hw j (by omega))⟩
    have hcl := fun (W : World) hW => zRe w.heap.size (6 + k * 6) 6 z W (by omega) (hzi W hW)
    have HC0 := zzh hcl; have HY := zz3 hy hcB hrt; have hst : CelC (w.heap.size + 1) w1 v ls z 12 24 13 25 14 26 (fun _ => false) (fun _ => undef) wr.drew := CelC.start hBr.out hsr hO.out (fun _ => rfl)
    have HST := zzh hst; clear hy hcB hc hcl hw hzi hrt hzl hy6 hst; go_wp2; refine R6.wp_walk (C := CelC (w.heap.size + 1) w1 v ls z 12 24 13 25 14 26) 29 (by kernel_rfl) (by kernel_rfl) rfl (CelC.start hBr.out hsr hO.out (fun _ => rfl)) ?_
    simp only []
    repeat (first
     | (refine' R6.WalkR.det (fun _ => rfl) (fun D ρ W hK hC => ?_) ?_
        rotate_left
        · have hbb := (hC.bel.block w.heap.size (by omega)).trans H1.out.2.1
          have hcb := (cell_of_row W w.heap.size 2 _ _ _ hbb).trans HV.out.2.2.2; have hblk : W.heap[ab]? = w.heap[ab]? := (hC.bel.block ab (by have := HY.out.2.1; omega)).trans (H1.out.2.2.block ab (by have := HY.out.2.1; omega))
          have hca : W.cell? ⟨ab, off + k, none⟩ = _ := (World.cell?_of_block (w := w) hblk).trans HY.out.1; clear hblk hbb; have HC := zzh hC; clear hC hK; go_simp
          first
           | with_reducible exact ⟨rfl, HC.out.move (by decide)⟩
           | fail
        simp only [Act.put, zza, zzb, zzc]))
    refine' R6.WalkR.nd (fun _ => rfl) rfl (fun D ρ W hK hC => ?_) ?_
    · have h13 := hK.post 13 (by first | exact zA5 (by decide +kernel) | decide +kernel)
      have h14 := hK.post 14 (by first | exact zA5 (by decide +kernel) | decide +kernel)
      have hbb := (hC.bel.block w.heap.size (by omega)).trans H1.out.2.1
      have HC := zzh hC; have HBB := zzh hbb; clear hC hK hbb; go_simp; go_at_call 121; refine (HC0.out W HBB.out).mono ?_; rintro e W1 ⟨g, c, rfl, hO1, hB1⟩; exact ⟨_, rfl, HC.out.made (by decide) h13 h14 (s := ⟨some ⟨g, 0, none⟩, c, z⟩) rfl hB1 (hO1.less HC.out.lb)⟩
    simp only [Act.put, zza, zzb, zzc]; refine' R6.WalkR.nd (fun _ => rfl) rfl (fun D ρ W hK hC => ?_) ?_
    · have h14 := hK.post 14 (by first | exact zA5 (by decide +kernel) | decide +kernel)
      obtain ⟨⟨sA, sc, sz⟩, hv, -, -⟩ := hC.one (hK.pre 12 (zA5 (by decide +kernel)))
      have hb := hC.built (by decide) h14
      unfold slv at hv; simp only at hv; rw [hv] at hb; have HC := zzh hb; clear hC hK hb; go_simp; exact HC.out
    simp only [Act.put, zza, zzb, zzc]; refine' R6.WalkR.nd (fun _ => rfl) rfl (fun D ρ W hK hC => ?_) ?_
    · obtain ⟨s, hv, hz, hs⟩ := hC.one (hK.pre 12 (by decide +kernel))
      obtain ⟨b3, hv3, hg3⟩ := hC.two (hK.pre 13 (zA5 (by decide +kernel))) hK.me
      rw [hv] at hg3
      refine zTe (.tmp 12) (.tmp 25) 60 rfl (w.heap.size + 1) 59 i0 _ 1 24 (v := v) (n := ls.length) (xs := slvs ls) Tryz.underlying60 HI.out.1 HI.out.2.1 HI.out.2.2.1 HI.out.2.2.2 rfl (by omega) rfl (hC.own hK.me).row hv3
       (zKo (vs := [slv s]) hg3 (zAa hg3)) rfl (zUf [s]) (by have := HLK.out; simp only [maxLen]; omega) (by have := HLK.out; omega) hC.lb (fun v' w' ho' hgr => ?_)
      exact hC.apped hK.me hv hz hs ho' hgr (by decide)
    simp only [Act.put, zza, zzb, zzc]; refine' R6.WalkR.fn 26 (fun v => v) (fun _ => rfl) (by decide +kernel) (fun D ρ W hK hC => ?_) ?_
    · have HC := zzh hC; clear hC hK; go_simp
      first
       | exact HC.out.move (by decide)
       | exact ⟨rfl, HC.out.move (by decide)⟩
    simp only [Act.put, zza, zzb, zzc]; refine R6.WalkR.nil (fun D ρ W hD' hC => ?_)
    obtain ⟨s, hz, hO2⟩ := hC.fin (hD' 14 (by decide))
    have HE := zz4 hz hO2 hC.bel hC.lb; clear hC hD' hz hO2; go_wp2
    go_roundg gg
    case measure => omega
    case rel =>
     refine ⟨k + 1, ls ++ [s], _, by omega, by have := HLK.out; simp [this], rfl, by go_num, ?_, HE.out.2.1, HE.out.2.2.1, HE.out.2.2.2⟩
     show rws (ls ++ [s]) = _; rw [HY.out.2.2, ← hR.out, ← HE.out.1]; simp [rws]
end Go.Proofs.YtnjgibbfcigbfaaGreat
