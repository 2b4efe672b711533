/-
  The sticks that are sawn of trunks (the program's).
-/
import Derived.Test.YtepkkhdfobhhjaaStF
namespace Go.Proofs.Ytepkkhdfobhhjaa
open Go.RowKit Go.Shelf

attribute [local go_sem] Oper.semAt_some

/-- The sticks of a trunk, and those of all. -/
def stk (i g : Int) (ps : List Int) : List T3 := ps.flatMap fun p => if 100 ≤ p then [⟨i, p, g⟩] else []
theorem stk_app (i g : Int) (a b : List Int) : stk i g (a ++ b) = stk i g a ++ stk i g b := by simp [stk]
theorem stk_len (i g : Int) (ps : List Int) : (stk i g ps).length ≤ ps.length := by
  induction ps with
  | nil => simp [stk]
  | cons p ps ih =>
    have e : stk i g (p :: ps) = stk i g [p] ++ stk i g ps := stk_app i g [p] ps
    rw [e, List.length_append, List.length_cons]
    have : (stk i g [p]).length ≤ 1 := by
      simp only [stk, List.flatMap_cons, List.flatMap_nil, List.append_nil]
      split <;> simp
    omega
def sawF (saw : Int) : Nat → List (Int × Int × List Int) → List T3
  | _, [] => []
  | i, x :: l => stk i x.2.1 (pcs x.1 saw x.2.2) ++ sawF saw (i + 1) l
theorem sawF_drop (saw : Int) (l : List (Int × Int × List Int)) (k : Nat) (hk : k < l.length) : sawF saw k (l.drop k) = stk k l[k].2.1 (pcs l[k].1 saw l[k].2.2) ++ sawF saw (k + 1) (l.drop (k + 1)) := by
  rw [List.drop_eq_getElem_cons hk]; rfl

theorem st_own_bt {W : World} {base : Nat} {e : TypeId} {size n : Nat} {v : Value} {xs : List Value} (h : W.ownsRow base e size v n xs) {b : Nat} (hb : v.ownBlock = some b) : ∃ cur, W.heap[b]? = some (.cells cur e (0, 0)) := by
  rcases h.2 with ⟨rfl, _⟩ | ⟨g, cap, cur, rfl, h2, h3, _⟩
  · cases hb
  · simp only [Value.ownBlock, Option.some.injEq] at hb
    subst hb
    exact ⟨cur, h3⟩
/-- An append and a store of what it gives leave a block of another type. -/
theorem app_keeps {W w4 : World} {tmp : Obj} {n₀ k : Nat} {e : TypeId} {size : Nat} {v u : Value} {xs : List Value} (hrow : W.ownsRow n₀ e size v k xs) (hg : (W.alloc tmp).grownBy w4 v.ownBlock) {j B : Nat} {cs : Array Value} {t : TypeId}
    (hj : W.heap[j]? = some (.cells cs t (0, 0))) (ht : t ≠ e) (hB : j ≠ B) : (w4.setCell ⟨B, 0, none⟩ u).heap[j]? = some (.cells cs t (0, 0)) := by
  have hlt := lt_of_heap hj
  refine (Below.heap_setCell _ _ _ _ (by simpa using hB)).trans ((hg.block j (by simp; omega) (fun e' => ?_)).trans ((Below.heap_alloc _ _ _ (by omega)).trans hj))
  obtain ⟨cur, hc⟩ := st_own_bt hrow e'.symm
  rw [hj] at hc
  cases hc
  exact ht rfl

/-- The marks of loops over iterators that a call has left behind. -/
def Mks (B : Nat) (W : World) : List Deferred → Prop
  | [] => True
  | d :: ds => (∃ D, d = { target := .collected D, args := #[] } ∧ B ≤ D ∧ W.heap[D]? = some (.deferred (some [])) ∧ ∀ e ∈ ds, e ≠ d) ∧ Mks B W ds
def KdD (W W' : World) : Prop := ∀ D : Nat, W.heap[D]? = some (Obj.deferred (some [])) → W'.heap[D]? = some (Obj.deferred (some []))
theorem kdD_own {W0 : World} {B : Nat} (h : W0.heap.size ≤ B) : OwnFrom (β := List Int) B (fun _ A => KdD W0 A) := fun _ _ _ _ hs hg hr D hD =>
  (hg.block D (lt_of_heap (hs D hD)) (fun e => by have := (hr D e.symm).1; have := lt_of_heap hD; omega)).trans (hs D hD)
theorem blk_own (j : Nat) (cs : Array Value) (ty : TypeId) : Own (β := List Int) (fun _ A => A.heap[j]? = some (.cells cs ty (0, 0))) := fun _ _ _ _ hs hg hr => (grownBy_keeps_cells hg hr hs rfl).trans hs
theorem KdD.below {W W' : World} (h : Below W.heap.size W W') : KdD W W' := fun D hD => (h.block D (lt_of_heap hD)).trans hD
theorem Mks.kd {B : Nat} {W W' : World} (h : KdD W W') : ∀ {ds : List Deferred}, Mks B W ds → Mks B W' ds
  | [], _ => trivial
  | _ :: _, ⟨⟨D, e, hB, hD, hne⟩, hs⟩ => ⟨⟨D, e, hB, h D hD, hne⟩, Mks.kd h hs⟩
theorem Mks.mem {B : Nat} {W : World} : ∀ {ds : List Deferred}, Mks B W ds → ∀ e ∈ ds, ∃ D, e = { target := .collected D, args := #[] } ∧ W.heap[D]? = some (.deferred (some []))
  | [], _, e, he => by cases he
  | d :: ds, ⟨⟨D, hd, _, hD, _⟩, hs⟩, e, he => by
    rcases List.mem_cons.1 he with rfl | he
    · exact ⟨D, hd, hD⟩
    · exact Mks.mem hs e he
theorem Mks.put {B : Nat} {W : World} {D : Nat} {o : Obj} : ∀ {ds : List Deferred}, Mks B W ds → (∀ e ∈ ds, e ≠ { target := .collected D, args := #[] }) → Mks B (W.putObj D o) ds
  | [], _, _ => trivial
  | d :: ds, ⟨⟨D', hd, hB, hD', hne⟩, hs⟩, h => by
    refine ⟨⟨D', hd, hB, ?_, hne⟩, Mks.put hs fun e he => h e (List.mem_cons_of_mem _ he)⟩
    have h1 := h d List.mem_cons_self
    rw [hd] at h1
    exact (World.putObj_heap_other (fun e => h1 (by rw [e]))).trans hD'
theorem leaves_marks {F : Fence} {n : Nat} {P : Program} {fn : Func} {tmps : Array Value} {R : Ending → World → Prop} (B : Nat) (G : World → Prop)
    (hG : ∀ W D, G W → B ≤ D → W.heap[D]? = some (.deferred (some [])) → G (W.putObj D (.deferred none))) (hend : ∀ W, G W → LeavesIn F n P fn tmps R [] .returning W) :
    ∀ (ds : List Deferred) (W : World), G W → Mks B W ds → LeavesInM F n P fn tmps R ds .returning W
  | [], W, h, _ => hend W h
  | d :: ds, W, h, ⟨⟨D, hd, hB, hD, hne⟩, hs⟩ => by
    subst hd
    exact ⟨by simp, .inl ⟨D, _, rfl, run_takeDeferred hD, leaves_marks B G hG hend ds _ (hG W D h hB hD) (hs.put hne)⟩⟩

theorem cell_three_new (w : World) (x y z : Value) (t : TypeId) : ∀ j u, [x, y, z][j]? = some u → (w.alloc (.cells #[x, y, z] t)).cell? ((⟨w.heap.size, 0, none⟩ : Addr).add j) = some u := fun j u hj => by
  rw [Addr.add_mid, Nat.zero_add, cell_of_row _ w.heap.size j _ _ _ (alloc_at0 w _)]
  simpa using hj
theorem okTk_bnd {x : Tk} (h : okTk (tkE x) = true) : 100 ≤ x.n ∧ x.n ≤ 20000 ∧ ∀ z ∈ x.zs, 0 ≤ z ∧ z ≤ 20000 := by
  simp only [okTk, tkE, Bool.and_eq_true, List.all_eq_true] at h
  have h1 := okPc_bnd h.1.1
  refine ⟨h1.1, h1.2.1, fun z hz => ?_⟩
  have h2 := h.1.2.2 z hz
  simp only [allB, List.all_cons, List.all_nil, Bool.and_true, inR_iff] at h2
  omega
theorem infoStick : (Try.prog.info? 61).map (fun i => (i.zero, i.size, i.bytes)) = some (some (.agg #[.int .i64 0, .int .i64 0, .int .i64 0]), 3, 24) := by kernel_rfl

/-- A list of sticks. -/
def SksV (w : World) (e : Ending) (w' : World) (L : List T3) : Prop := ∃ A c, e = .returned (.slice A L.length c) ∧ Vals w' w'.heap.size A (L.flatMap t3) ∧ Below w.heap.size w w'

set_option maxRecDepth 100000 in
set_option maxHeartbeats 8000000 in
theorem sawn_any (A : Option Addr) (cap : Nat) (l : List Tk) (saw : Int) (B : Nat) (w : World) (hB : B ≤ w.heap.size) (hz : TksAt w B l A) (hl : smallT l) (hok : ∀ x ∈ l, okTk (tkE x) = true) (h0 : 0 ≤ saw) (h50 : saw ≤ 50) :
    Calls Try.prog 40 #[.slice A l.length cap, .int .i64 saw] w fun e w' => SksV w e w' (sawF saw 0 (l.map tkE)) := by
  have hll := hl.1
  have hrec : ∀ k (hk : k < l.length), sawF saw k ((l.map tkE).drop k) = stk k l[k].g (pcs l[k].n saw l[k].zs) ++ sawF saw (k + 1) ((l.map tkE).drop (k + 1)) := fun k hk => by
    have h := sawF_drop saw (l.map tkE) k (by simpa using hk)
    simp only [List.getElem_map] at h
    exact h
  have hend : sawF saw l.length ((l.map tkE).drop l.length) = [] := by rw [List.drop_of_length_le (by simp)]; rfl
  generalize hgE : l.map tkE = E at hrec hend ⊢
  have HZ := Lib.hid hz
  have HL := Lib.hid (And.intro hl hok)
  have HR := Lib.hid (And.intro hrec hend)
  clear hz hl hok hrec hend hgE
  refine (callsIn_wide (n := 4)).1 ?_
  refine callsIn_of_wp_marks Try.func40 rfl trivial ?_ rfl
  simp only [Try.ntmps40, List.size_toArray, List.length_cons, List.length_nil, Nat.reduceAdd, Nat.reduceSub, Array.replicate_succ, Array.replicate_zero, List.push_toArray, List.append_toArray, List.nil_append, List.cons_append]
  gi_wp2_with fail
  refine wpIn_loop (fun a' wr => ∃ (k : Nat) (L : List T3) (v : Value) (ds : List Deferred) (u6 u7 u8 u12 u13 u14 u15 u16 u17 u18 u20 u21 u22 u23 u24 u25 u26 u27 u28 u29 u30 : Value),
      a' = { tmps := #[.slice A l.length cap, .int .i64 saw, undef, undef, .slice none 0 0, .pointer (some ⟨w.heap.size, 0, none⟩), u6, u7, u8, .slice A l.length cap, .int .i64 l.length, .int .i64 (k : Int), u12, u13, u14, u15, u16, u17, u18, undef, u20, u21, u22, u23, u24, u25, u26, u27, u28, u29, u30, undef], defers := ds } ∧
      k ≤ l.length ∧ Hid (L ++ sawF saw k (E.drop k) = sawF saw 0 E) ∧ Hid (L.length ≤ k * 2000) ∧ Hid (Boxed wr w.heap.size 25 v) ∧ Hid (wr.ownsRow w.heap.size 61 3 v L.length (L.flatMap t3)) ∧ Hid (Below w.heap.size w wr) ∧ Hid (Mks w.heap.size wr ds))
    (fun a' _ => l.length - (intOf (a'.tmps.getD 11 undef)).toNat) ?_ ?_
  · exact ⟨0, [], .slice none 0 0, [], _, _, _, _, _, _, _, _, _, _, _, _, _, _, _, _, _, _, _, _, _, rfl, Nat.zero_le _, rfl, Nat.le_refl _, alloc_at0 _ _, World.ownsRow_nil _ _ _ _, grow1 _ _, trivial⟩
  · intro _ wr hinv
    obtain ⟨k, L, v, ds, u6, u7, u8, u12, u13, u14, u15, u16, u17, u18, u20, u21, u22, u23, u24, u25, u26, u27, u28, u29, u30, rfl, hk, hacc, hLl, hbox, hrow, hbel, hmk⟩ := hinv
    try dsimp only
    by_cases hlt : k < l.length
    · have hkz : (k : Int) < l.length := by omega
      obtain ⟨c, off, hA, hcB, hc⟩ := vals_elem tkc_len HZ.out.v (by decide) hlt
      subst hA
      have hc' : ∀ j u, (tkc l[k])[j]? = some u → wr.cell? ⟨c, off + k * 3 + j, none⟩ = some u := fun j u hu => (hbel.out.cell (p := ⟨c, off + k * 3 + j, none⟩) (by simp; omega)).trans (hc j u hu)
      have hin := (HZ.out.r _ (List.getElem_mem hlt)).below (hbel.out.mono hB)
      have hzl := HL.out.1.2 _ (List.getElem_mem hlt)
      have hok := HL.out.2 _ (List.getElem_mem hlt)
      have hre := HR.out.1 k hlt
      have hcell : ∀ u, (tkc u).length = 3 := tkc_len
      generalize l[k] = y at hc' hin hzl hok hre
      have HC := Lib.hid hc'
      have HY := Lib.hid (And.intro hin (And.intro hzl (And.intro hok hre)))
      clear hc hc' hin hzl hok hre
      gi_wp2_with (first
        | (show wpListIn _ _ _ _ _ (Oper.mk (some 15) _ _ _ _ _ :: _) _ _
           refine wpListIn_load_at 59 (.tmp 14) rfl rfl rfl (tkc y) HC.out rowTrunk ?_)
        | (show wpListIn _ _ _ _ _ (Oper.mk none (Op.store _ (Operand.tmp 7) (Operand.tmp 15)) _ _ _ _ :: _) _ _
           refine wpListIn_store_blk 59 (.tmp 7) (.tmp 15) rfl rfl rfl rfl (alloc2_at1 _ _ _) (by simp [tkc_len]) (by rw [List.all_toArray, List.all_eq_true]; exact fun u hu => tkc_one [y] u (by simpa using hu)) (by rw [List.size_toArray, tkc_len]; exact rowTrunk) ?_
           intro w4 hP4 hM4
           have hs4 := hP4.size
           simp only [World.size_alloc] at hs4
           have hb4 : Below wr.heap.size wr w4 := (((Below.refl _ wr).alloc (Nat.le_refl _) _).alloc (by simp) _).trans (hP4.below (by omega))
           have hk4 := (hP4.other wr.heap.size (by omega)).trans (alloc2_at0 wr _ _)
           have H4 := Lib.hid (And.intro hb4 (And.intro hk4 hM4))
           have HS4 := Lib.hid hs4
           clear hP4 hM4 hb4 hk4 hs4)
        | (show wpListIn _ _ _ _ _ (Oper.mk (some 16) _ _ _ _ _ :: _) _ _
           refine wpListIn_load_blk 59 (.tmp 7) rfl rfl rfl H4.out.2.2 (tkc y) (fun j v hj => by rw [Nat.zero_add, List.getElem?_toArray]; exact hj) rowTrunk ?_)
        | (refine ⟨trivial, ?_⟩
           gi_at_call 55
           refine (callsIn_wide.2 (pieces_any (tkc y) saw w4)).mono ?_
           rintro e w5 ⟨rfl, hw5⟩
           have H5 := Lib.hid hw5
           clear hw5))
      have hs4 := HS4.out
      have hs5 : w5.heap.size = w4.heap.size + 2 := by rw [H5.out]; simp
      have hb5 : Below w4.heap.size w4 w5 := by rw [H5.out]; exact ((Below.refl _ _).alloc (Nat.le_refl _) _).alloc (by simp) _
      have hb0 : w5.heap[w4.heap.size]? = some (.cells (tkc y).toArray 59 (0, 0)) := by rw [H5.out]; exact alloc2_at0 _ _ _
      have hb1 : w5.heap[w4.heap.size + 1]? = some (.cells #[.int .i64 saw] 3 (0, 0)) := by rw [H5.out]; exact alloc2_at1 _ _ _
      have hbw5 : Below wr.heap.size wr w5 := H4.out.1.trans (hb5.mono (by omega))
      have hsw := hbel.out.size
      have hbox5 : Boxed w5 w.heap.size 25 v := (hbw5.block _ hbox.out.lt).trans hbox.out
      have hrow5 := own_grows hrow.out hbw5
      have hk6 : w5.heap[wr.heap.size]? = some (.cells #[.int .i64 (k : Int)] 3 (0, 0)) := (hb5.block _ (by omega)).trans H4.out.2.1
      have hk7 : w5.heap[wr.heap.size + 1]? = some (.cells (tkc y).toArray 59 (0, 0)) := (hb5.block _ (by omega)).trans H4.out.2.2
      have hbnd := okTk_bnd HY.out.2.2.1
      have hkk := HL.out.1.1
      have hseq := pieces_stops y saw (4 - 1) w.heap.size w4.heap.size (by omega) HY.out.2.1 w5 (by omega) h0 h50 hbnd.1 hbnd.2.1 hbnd.2.2 (by omega) ((HY.out.1.mono hB).below (hbw5.mono hsw)) hb0 hb1
      have HD := Lib.hid (And.intro hacc.out (And.intro hLl.out (And.intro HY.out.2.2.2 (And.intro hbel.out (And.intro hmk.out hbw5)))))
      refine wpIn_rangeFunc_ownF rfl (by omega) (gf := 77) (lb := #[.pointer (some ⟨w4.heap.size, 0, none⟩), .pointer (some ⟨w4.heap.size + 1, 0, none⟩)]) rfl trivial (enters_of Try.func77 (by kernel_rfl) rfl) hseq
        (fun h k => h.trans k)
        (fun W l o o' hl _ _ _ => ⟨fun j hj => World.putObj_heap_other (by omega), World.putObj_heap_other (by omega), World.putObj_heap_other (by omega)⟩) (Below.refl _ _) (fun _ => rfl)
        (fun pre A => (∃ v, Boxed A w.heap.size 25 v ∧ A.ownsRow w.heap.size 61 3 v (L ++ stk k y.g pre).length ((L ++ stk k y.g pre).flatMap t3) ∧ True) ∧
          ((A.heap[wr.heap.size]? = some (.cells #[.int .i64 (k : Int)] 3 (0, 0))) ∧ (A.heap[wr.heap.size + 1]? = some (.cells (tkc y).toArray 59 (0, 0))) ∧
            (A.heap[w4.heap.size]? = some (.cells (tkc y).toArray 59 (0, 0))) ∧ (A.heap[w4.heap.size + 1]? = some (.cells #[.int .i64 saw] 3 (0, 0))) ∧ KdD w5 A ∧ Below w.heap.size w5 A))
        (fun _ _ _ => False)
        (OwnFrom.and (Own.from (holdsRow_own w.heap.size w.heap.size 25 61 3 _ _ (fun _ _ => True)) _) (OwnFrom.and (Own.from (blk_own _ _ _) _) (OwnFrom.and (Own.from (blk_own _ _ _) _) (OwnFrom.and (Own.from (blk_own _ _ _) _) (OwnFrom.and (Own.from (blk_own _ _ _) _) (OwnFrom.and (kdD_own (Nat.le_refl _)) (ownFrom_below (by omega) (by omega))))))))
        (fun _ _ _ _ _ hs _ _ => hs)
        ⟨⟨v, hbox5, by simpa [stk] using hrow5, trivial⟩, hk6, hk7, hb0, hb1, fun _ h => h, Below.refl _ _⟩
        (fun p => { tmps := #[.slice (some ⟨c, off, none⟩) l.length cap, .int .i64 saw, undef, undef, .slice none 0 0, .pointer (some ⟨w.heap.size, 0, none⟩), .pointer (some ⟨wr.heap.size, 0, none⟩), .pointer (some ⟨wr.heap.size + 1, 0, none⟩), .int .i64 p, .slice (some ⟨c, off, none⟩) l.length cap, .int .i64 l.length, .int .i64 (k : Int), .bool true, .int .i64 (k : Int), .pointer (some ⟨c, off + k * 3, none⟩), .agg (tkc y).toArray, .agg (tkc y).toArray, .int .i64 saw, .func (.func 77) #[] #[.pointer (some ⟨w4.heap.size, 0, none⟩), .pointer (some ⟨w4.heap.size + 1, 0, none⟩)], .int .i64 p, u20, u21, u22, u23, u24, u25, u26, u27, u28, u29, u30, undef], defers := [] }) ?assign ?body ?done ?stop
      case assign =>
        intro l' p W K hK
        have hKK := Lib.hid hK
        clear hK
        simp only [encP]
        clear hb0 hb1 hk6 hk7 hbox5 hrow5 hseq hs4 hs5 hb5 hbw5
        gi_wp2_with fail
        exact hKK.out
      case body =>
        rintro l' pre p W ⟨⟨v', hv, hrow', -⟩, hi6, hi7, hi8, hi9, hkd, hbe⟩ hlt'
        have hsl := stk_len k y.g pre
        have hll' := hLl.out
        have hzl' := HY.out.2.1
        have hst1 : L ++ stk k y.g (pre ++ [p]) = L ++ stk k y.g pre ++ stk k y.g [p] := by rw [stk_app, List.append_assoc]
        have hone : stk k y.g [p] = if 100 ≤ p then [⟨k, p, y.g⟩] else [] := by simp [stk]
        have hLn : (L ++ stk k y.g pre).length ≤ 3000000 := by rw [List.length_append]; omega
        rw [hone] at hst1
        generalize L ++ stk k y.g pre = M at hrow' hst1 hLn
        have hvc := hv.cell
        have hc6 := cell_of_row W wr.heap.size 0 _ _ _ hi6
        have hc7 := fun i => cell_of_row W (wr.heap.size + 1) i _ _ _ hi7
        unfold tkc at hc7
        have HI := Lib.hid (And.intro hv (And.intro hrow' (And.intro hi6 (And.intro hi7 (And.intro hi8 (And.intro hi9 (And.intro hkd hbe)))))))
        have HK := Lib.hid hst1
        have hsW := hbe.size
        have hww := hbox.out.lt
        have hwW : wr.heap.size + 1 + 1 ≤ W.heap.size := by omega
        by_cases hp : 100 ≤ p
        · obtain ⟨i0, hi, hz0, hz1, hz2⟩ := info_parts infoStick
          have HF := Lib.hid (And.intro hi (And.intro hz0 (And.intro hz1 hz2)))
          clear hv hrow' hi6 hi7 hi8 hi9 hkd hbe hst1 hone hi hz0 hz1 hz2 hb0 hb1 hk6 hk7 hbox5 hrow5 hseq hs4 hs5 hb5 hbw5
          gi_wp2_with
            (gi_at_builtin
             refine wpListIn_append_own _ rfl (.tmp 22) (.tmp 28) 25 rfl w.heap.size 61 i0 _ 3 24 Try.underlying25 HF.out.1 HF.out.2.1 HF.out.2.2.1 HF.out.2.2.2 rfl (by decide) v' M.length (M.flatMap t3) rfl (HI.out.2.1.alloc _)
               ⟨W.heap.size, 0, none⟩ 1 1 [.int .i64 (k : Int), .int .i64 p, .int .i64 y.g] rfl rfl (cell_three_new _ _ _ _ _) (by simp [Value.oneCell']) (by simp only [maxLen]; omega) (by omega) (by simp; omega) ?_
             intro v2 w8 hown' hgrow _
             obtain ⟨g', cap', rfl⟩ := ownsRow_succ hown'
             obtain ⟨hv1, hv2, hr2, hk2, hb2⟩ := HI.out.1.appended (n₀ := w.heap.size) (by decide) HI.out.2.1 (by omega) (Nat.le_refl _) hown' hgrow
             have hc1 := hv1.cell
             have hf1 := hv1.frozen
             have H8 := Lib.hid (And.intro hv2 (And.intro hr2 (And.intro hk2 (And.intro hb2 hgrow))))
             clear hv1 hv2 hr2 hk2 hb2 hown' hgrow)
          have hst1 := HK.out
          rw [if_pos hp] at hst1
          have k6 := app_keeps HI.out.2.1 H8.out.2.2.2.2 HI.out.2.2.1 (by decide) (B := w.heap.size) (u := .slice (some ⟨g', 0, none⟩) (M.length + 1) cap') (by omega)
          have k7 := app_keeps HI.out.2.1 H8.out.2.2.2.2 HI.out.2.2.2.1 (by decide) (B := w.heap.size) (u := .slice (some ⟨g', 0, none⟩) (M.length + 1) cap') (by omega)
          have hs4 := HS4.out
          have k8 := app_keeps HI.out.2.1 H8.out.2.2.2.2 HI.out.2.2.2.2.1 (by decide) (B := w.heap.size) (u := .slice (some ⟨g', 0, none⟩) (M.length + 1) cap') (by omega)
          have k9 := app_keeps HI.out.2.1 H8.out.2.2.2.2 HI.out.2.2.2.2.2.1 (by decide) (B := w.heap.size) (u := .slice (some ⟨g', 0, none⟩) (M.length + 1) cap') (by omega)
          refine ⟨H8.out.2.2.1, ⟨fun j hj => H8.out.2.2.2.1.block _ hj, k8.trans HI.out.2.2.2.2.1.symm, k9.trans HI.out.2.2.2.2.2.1.symm⟩, ⟨_, H8.out.1, ?_, trivial⟩, k6, k7, k8, k9, fun D hD => H8.out.2.2.1.same D _ (HI.out.2.2.2.2.2.2.1 D hD) rfl, HI.out.2.2.2.2.2.2.2.trans H8.out.2.2.2.1⟩
          have e1 : L.length + (stk k y.g (pre ++ [p])).length = M.length + 1 := by rw [← List.length_append, hst1]; simp
          have e2 : L.flatMap t3 ++ (stk k y.g (pre ++ [p])).flatMap t3 = M.flatMap t3 ++ [.int .i64 (k : Int), .int .i64 p, .int .i64 y.g] := by rw [← List.flatMap_append, hst1, List.flatMap_append]; rfl
          try simp only [List.length_append, List.flatMap_append]
          rw [e1, e2]
          exact H8.out.2.1
        · clear hv hrow' hi6 hi7 hi8 hi9 hkd hbe hst1 hone hb0 hb1 hk6 hk7 hbox5 hrow5 hseq hs4 hs5 hb5 hbw5
          gi_wp2_with fail
          have hst1 := HK.out
          rw [if_neg (by omega), List.append_nil] at hst1
          refine ⟨KeepsOthers.refl _, ⟨fun _ _ => rfl, rfl, rfl⟩, ⟨v', HI.out.1, ?_⟩, HI.out.2.2⟩
          have e1 : L.length + (stk k y.g (pre ++ [p])).length = M.length := by rw [← List.length_append, hst1]
          have e2 : L.flatMap t3 ++ (stk k y.g (pre ++ [p])).flatMap t3 = M.flatMap t3 := by rw [← List.flatMap_append, hst1]
          try simp only [List.length_append, List.flatMap_append]
          rw [e1, e2]
          first | exact HI.out.2.1 | exact ⟨HI.out.2.1, trivial⟩
      case done =>
        rintro D xs W hD rfl ⟨⟨v', hv, hrow', -⟩, hi6, hi7, hi8, hi9, hkd, hbe⟩ hDd
        have hst := stk_len k y.g (pcs y.n saw y.zs)
        have hpl : (pcs y.n saw y.zs).length = y.zs.length + 1 := by simp [pcs, pcK_len]
        have hzl' := HY.out.2.1
        have hbelW : Below w.heap.size w W := HD.out.2.2.2.1.trans ((HD.out.2.2.2.2.2.mono hsw).trans hbe)
        have hmkW : Mks w.heap.size W ds := (Mks.kd (KdD.below HD.out.2.2.2.2.2) HD.out.2.2.2.2.1).kd hkd
        have hne : ∀ e ∈ ds, e ≠ { target := .collected D, args := #[] } := fun e he h => by
          obtain ⟨D', e1, hD'⟩ := HD.out.2.2.2.2.1.mem e he
          rw [e1] at h
          have := lt_of_heap hD'
          have hDD : D' = D := by injection h with h1 _; injection h1
          omega
        have hDw : w.heap.size ≤ D := by omega
        have hN := Lib.hid (And.intro hv (And.intro hrow' (And.intro hbelW (And.intro (show Mks w.heap.size W ({ target := .collected D, args := #[] } :: ds) from ⟨⟨D, rfl, hDw, hDd, hne⟩, hmkW⟩) hst))))
        clear hv hrow' hi6 hi7 hi8 hi9 hkd hbe hDd hbelW hmkW hne hst hb0 hb1 hk6 hk7 hbox5 hrow5 hseq hs4 hs5 hb5 hbw5
        gi_wp2_with fail
        refine ⟨⟨k + 1, L ++ stk k y.g (pcs y.n saw y.zs), v', _, _, _, _, _, _, _, _, _, _, _, _, _, _, _, _, _, _, _, _, _, _, rfl, by omega, ?_, ?_, hN.out.1, hN.out.2.1, hN.out.2.2.1, hN.out.2.2.2.1⟩, ?_⟩
        · show _ = _
          rw [List.append_assoc, ← HD.out.2.2.1]
          exact HD.out.1
        · show _ ≤ _
          have h1 := hN.out.2.2.2.2
          have h2 := HD.out.2.1
          rw [List.length_append, Nat.succ_mul]
          omega
        · simp [intOf]
          omega
      case stop =>
        rintro D c' pre W _ _ h _
        exact h.elim
    · obtain rfl : k = l.length := by omega
      have hvc := hbox.out.cell
      gi_wp2_with fail
      have hacc' := hacc.out
      rw [HR.out.2, List.append_nil] at hacc'
      refine leaves_marks w.heap.size (fun W => W.ownsRow w.heap.size 61 3 v L.length (L.flatMap t3) ∧ Below w.heap.size w W) ?_ ?_ ds wr ⟨hrow.out, hbel.out⟩ hmk.out
      · rintro W D ⟨h1, h2⟩ hDB hD
        exact ⟨ownsRow_putObj h1 (.deferred none) hD rfl, below_putObj h2 (r := D) hDB (.deferred none)⟩
      · rintro W ⟨h1, h2⟩
        refine ⟨v, by simp [results, Try.results40, go_sem], ?_⟩
        rw [← hacc']
        rcases h1.2 with ⟨rfl, hn0⟩ | ⟨g0, cap0, cur, rfl, _⟩
        · rw [List.eq_nil_of_length_eq_zero hn0]
          exact ⟨none, 0, rfl, fun h => by simp at h, h2⟩
        · exact ⟨some ⟨g0, 0, none⟩, cap0, rfl, Vals.own h1, h2⟩

end Go.Proofs.Ytepkkhdfobhhjaa
