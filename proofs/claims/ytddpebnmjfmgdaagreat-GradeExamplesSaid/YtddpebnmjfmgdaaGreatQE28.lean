/-
  What flows in an hour (the program's).
-/
import Derived.Test.YtddpebnmjfmgdaaGreatQE25
import Derived.Test.YtddpebnmjfmgdaaGreatQE27
set_option linter.all false
namespace Go.Proofs.YtddpebnmjfmgdaaGreat
open Go.RowKit
open R6 (done done_ne done_me upd_ne upd_me)

attribute [local go_sem] gives

section
variable {P : Program} {ops : Array Oper} {rest : List Oper} {op : Oper} {a : Act} {w : World} {Q : Exit → Act → World → Prop}
theorem wpList_store_one (ty : TypeId) (x y : Operand) (hgd : op.guard = none) (ho : op.op = .store ty x y) (hd : op.dst = none) {b o : Nat} (hx : a.eval x = .pointer (some ⟨b, o, none⟩)) {z : Int} (hy : a.eval y = .int .i64 z)
    {L : List Value} {t : TypeId} (hb : w.heap[b]? = some (.cells L.toArray t (0, 0))) (hfit : o < L.length) (hty : (P.info? ty).map (·.size) = some 1)
    (h : ∀ w', Put w w' b → w'.heap[b]? = some (.cells (L.set o (.int .i64 z)).toArray t (0, 0)) → wpList P ops Q rest a w') : wpList P ops Q (op :: rest) a w := by
  refine wpList_plain hgd fun K hK => ?_
  have hrun := run_store_one (P := P) (v := .int .i64 z) hb hfit rfl rfl hty
  unfold Oper.wp execOp
  simp only [ho, hx, hy, Sem.run_bind, Sem.run_pure, hrun, Result.andThen_ok]
  refine hK _ _ ?_
  rw [hd]
  refine h _ (put_setCells b [.int .i64 z] o w) ?_
  have := heap_setCell_same w b o _ _ (.int .i64 z) hb
  rwa [List.setIfInBounds_toArray] at this
end

theorem results_cell {P : Program} {fn : Func} {tmps : Array Value} {w : World} {t b : Nat} {ty tt : TypeId} {cs : List Value} {fr : Nat × Nat} (hr : fn.results = #[.cell t ty]) (ht : tmps.getD t undef = .pointer (some ⟨b, 0, none⟩))
    (hb : w.heap[b]? = some (.cells cs.toArray tt fr)) (hty : RowTy P ty cs.length) : (results fn tmps).run P w = .ok (.agg cs.toArray) w := by
  obtain ⟨⟨d, hu, hd⟩, hi⟩ := hty
  have hl := run_loadVar_mid (P := P) w b 0 ty cs d (fun j v hv => by
    rw [Nat.zero_add, cell_of_row w b j _ _ _ hb, List.getElem?_toArray]; exact hv) hu hd hi
  rw [Array.getD_eq_getD_getElem?] at ht
  unfold results
  rw [hr]
  simp [ht, asAddr, hl]

theorem flow_any (sp o c : Int) (b : Nat) (h1 : 1 ≤ sp) (h2 : sp ≤ 250) (o0 : 0 ≤ o) (o1 : o ≤ 10000) (c0 : 0 ≤ c) (c1 : c ≤ 10000) (w : World) (hb : w.heap[b]? = some (.cells #[.int .i64 sp] 3 (0, 0))) :
    Calls Tryz.prog 178 #[.int .i64 o, .int .i64 c, .pointer (some ⟨b, 0, none⟩)] w fun e w' => e = .returned (.int .i64 (fl sp o c)) ∧ w = w' := by
  have hc := fun i => cell_of_row w b i _ _ _ hb
  have p1 : (o - c) * sp ≤ 2500000 := by
    rcases Int.le_total c o with h | h
    · have : (o - c) * sp ≤ (o - c) * 250 := Int.mul_le_mul_of_nonneg_left h2 (by omega); omega
    · have : (o - c) * sp ≤ 0 := Int.mul_nonpos_of_nonpos_of_nonneg (by omega) (by omega); omega
  have p2 : -2500000 ≤ (o - c) * sp := by
    rcases Int.le_total o c with h | h
    · have : (c - o) * sp ≤ (c - o) * 250 := Int.mul_le_mul_of_nonneg_left h2 (by omega)
      have e : (o - c) * sp = - ((c - o) * sp) := by rw [← Int.neg_mul, Int.neg_sub]
      omega
    · have : 0 ≤ (o - c) * sp := Int.mul_nonneg (by omega) (by omega); omega
  unfold fl
  go_enter Tryz.func178, Tryz.ntmps178
  go_wp2
  go_ret
  exact ⟨rfl, rfl⟩

def bv (t : Bt) (P : Value) (b : Int) (ws : List (List Int)) : List Value := [.int .i64 t.water, .int .i64 b, P, .int .i64 t.lo, .int .i64 t.hi, .int .i64 t.need] ++ ints (wallL ws)
theorem bv_len (t : Bt) (P : Value) (b : Int) (ws : List (List Int)) : (bv t P b ws).length = 30 := by simp [bv, ints, wallL_len]
theorem bv_at (t : Bt) (P : Value) (b : Int) (ws : List (List Int)) (p c : Nat) (hp : p < 4) (hc : c < 6) : (bv t P b ws)[6 + p * 6 + c]? = some (.int .i64 (atR (rowAt ws p) c)) := by
  unfold bv
  rw [List.getElem?_append_right (by simp; omega)]
  simp only [List.length_cons, List.length_nil, ints, List.getElem?_map]
  rw [show 6 + p * 6 + c - (0 + 1 + 1 + 1 + 1 + 1 + 1) = p * 6 + c by omega, wallL_at ws p c hp hc]
  rfl
theorem bv_one (t : Bt) (A : Option Addr) (n c : Nat) (b : Int) (ws : List (List Int)) : ∀ v ∈ bv t (.slice A n c) b ws, v.oneCell' = true := by
  intro v hv
  simp only [bv, List.mem_append, List.mem_cons, List.not_mem_nil, or_false] at hv
  rcases hv with (rfl | rfl | rfl | rfl | rfl | rfl) | hv
  all_goals first | rfl | exact oneCells_ints _ v hv
theorem rowBatch : RowTy Tryz.prog 152 30 := ⟨⟨_, Tryz.underlying152, rfl⟩, by kernel_rfl⟩

def partL (s sp : Int) (r : List Int) (k : Nat) : List Int := (List.range 7).map fun i => if i < k then inFl s sp r i else 0
theorem partL_set (s sp : Int) (r : List Int) (k : Nat) : (ints (partL s sp r k)).set k (.int .i64 (inFl s sp r k)) = ints (partL s sp r (k + 1)) := by
  unfold ints partL
  rw [List.map_map, List.map_map]
  apply List.ext_getElem (by simp)
  intro i h1 h2
  simp only [List.getElem_set, List.getElem_map, List.getElem_range, Function.comp_apply]
  by_cases e : k = i
  · subst e; simp
  · rw [if_neg e]
    by_cases h : i < k
    · rw [if_pos h, if_pos (by omega)]
    · rw [if_neg h, if_neg (by omega)]
theorem partL_end (s sp : Int) (r : List Int) (k : Nat) (h : r.length ≤ k) : partL s sp r k = (List.range 7).map (inFl s sp r) := by
  unfold partL
  apply List.map_congr_left
  intro i _
  by_cases hi : i < k
  · rw [if_pos hi]
  · rw [if_neg hi]; simp [inFl, show ¬ i < r.length by omega]

theorem row7 : RowTy Tryz.prog 136 7 := ⟨⟨_, Tryz.underlying136, rfl⟩, by kernel_rfl⟩

def outK (s : Int) (r : List Int) (k : Nat) : Int := if k = 0 then s else atR r (k - 1)

structure FlC (w : World) (cs : Array Value) (L : List Value) (W : World) : Prop where
  bel : Below w.heap.size w W
  sz : w.heap.size + 3 ≤ W.heap.size
  b3 : W.heap[w.heap.size]? = some (.cells cs 152 (0, 0))
  b6 : W.heap[w.heap.size + 1]? = some (.cells #[.int .i64 0, .int .i64 0, .int .i64 0, .int .i64 0, .int .i64 0, .int .i64 0, .int .i64 0] 136 (0, 0))
  b7 : W.heap[w.heap.size + 1 + 1]? = some (.cells L.toArray 136 (0, 0))

theorem FlC.put {w W W' : World} {cs : Array Value} {L L' : List Value} (h : FlC w cs L W) (hp : Put W W' (w.heap.size + 1 + 1)) (hM : W'.heap[w.heap.size + 1 + 1]? = some (.cells L'.toArray 136 (0, 0))) : FlC w cs L' W' :=
  ⟨h.bel.trans (hp.below (by omega)), by rw [hp.size]; exact h.sz, (hp.other _ (by omega)).trans h.b3, (hp.other _ (by omega)).trans h.b6, hM⟩

set_option maxRecDepth 100000 in
set_option maxHeartbeats 4000000 in
theorem flows_any (t : Bt) (A : Option Addr) (cap : Nat) (l : List Sl) (b sp : Int) (ws : List (List Int)) (p sb : Nat) (B : Nat) (w : World) (hB : B ≤ w.heap.size) (hz : Rows w B A l) (hs : w.heap[sb]? = some (.cells #[.int .i64 sp] 3 (0, 0)))
    (h1 : 1 ≤ sp) (h2 : sp ≤ 250) (hg : GoodS t.water (b, ws)) (hl : lens ws = lens (rws l)) (hp : p < ws.length) :
    Calls Tryz.prog 179 #[.agg (bv t (.slice A l.length cap) b ws).toArray, .int .i64 p, .func (.func 178) #[] #[.pointer (some ⟨sb, 0, none⟩)]] w
      fun e w' => e = .returned (.agg (ints ((List.range 7).map (inFl (b / t.water) sp (rowAt ws p)))).toArray) ∧ Below w.heap.size w w' := by
  have HZ := Lib.hid hz
  have HG := Lib.hid hg
  have hq : b.tdiv t.water = b / t.water := Int.tdiv_eq_ediv_of_nonneg hg.b0
  have hw0 : ¬ t.water = 0 := by have := hg.w1; omega
  have hq0 : 0 ≤ b.tdiv t.water := by rw [hq]; exact Int.ediv_nonneg hg.b0 (by have := hg.w1; omega)
  have hq1 : b.tdiv t.water ≤ 10000 := by rw [hq]; exact hg.bs
  have hn4 : p < 4 := by have := hg.n4; simp only at this; omega
  have hpl : p < l.length := by have := lens_len hl; simp [rws] at this; omega
  have hpl2 : (p : Int) < l.length := by omega
  have hrl := lens_at hl p
  have er : rowAt (rws l) p = (l[p]).zs := by simp [rowAt, rws, hpl]
  rw [er] at hrl
  have hmem := List.getElem_mem hpl
  have hrow : okRow (rowAt ws p) := hg.rows _ (by simp only [rowAt, List.getElem?_eq_getElem hp, Option.getD_some]; exact List.getElem_mem hp)
  obtain ⟨ab, off, hA, hcB, hc⟩ := hz.va (by rw [slvs_len]; omega)
  subst hA
  have hy := hc p _ (slvs_at l p hpl)
  generalize l[p] = y at hy hrl
  unfold slv at hy
  rw [← hrl] at hy
  have hr6 := hrow.l6
  have hbat := bv_at t (.slice (some ⟨ab, off, none⟩) l.length cap) b ws p
  have hrw := fun c => hbat c hn4
  obtain ⟨V, hV⟩ : ∃ V, V = (bv t (.slice (some ⟨ab, off, none⟩) l.length cap) b ws).toArray := ⟨_, rfl⟩
  rw [← hV]
  obtain ⟨wa, hwa⟩ : ∃ wa, w.alloc (.cells V 152) = wa := ⟨_, rfl⟩
  obtain ⟨wb, hwb⟩ : ∃ wb, wa.alloc (.cells #[.int .i64 0, .int .i64 0, .int .i64 0, .int .i64 0, .int .i64 0, .int .i64 0, .int .i64 0] 136) = wb := ⟨_, rfl⟩
  obtain ⟨wc, hwc⟩ : ∃ wc, wb.alloc (.cells #[.int .i64 0, .int .i64 0, .int .i64 0, .int .i64 0, .int .i64 0, .int .i64 0, .int .i64 0] 136) = wc := ⟨_, rfl⟩
  have hsa : wa.heap.size = w.heap.size + 1 := by rw [← hwa]; simp
  have hsb : wb.heap.size = w.heap.size + 1 + 1 := by rw [← hwb, ← hsa]; simp
  have hV0 : V[0]? = some (.int .i64 t.water) := by rw [hV]; rfl
  have hV1 : V[1]? = some (.int .i64 b) := by rw [hV]; rfl
  have hV2 : V[2]? = some (.slice (some ⟨ab, off, none⟩) l.length cap) := by rw [hV]; rfl
  have hV3 : ∀ c, c < 6 → V[6 + p * 6 + c]? = some (.int .i64 (atR (rowAt ws p) c)) := fun c h => by rw [hV, List.getElem?_toArray]; exact hrw c h
  have hbel : Below w.heap.size w wc := by
    rw [← hwc, ← hwb, ← hwa]
    exact (((Below.refl _ w).alloc (Nat.le_refl _) _).alloc (by simp) _).alloc (by simp; omega) _
  have hF : FlC w V (ints (partL (b / t.water) sp (rowAt ws p) 0)) wc := by
    refine ⟨hbel, ?_, ?_, ?_, ?_⟩
    · rw [← hwc]; simp [hsb]
    · rw [← hwc, ← hwb, ← hwa]; exact alloc3_at0 _ _ _ _
    · rw [← hwc, ← hwb, ← hwa]; exact alloc3_at1 _ _ _ _
    · rw [← hwc, ← hwb, ← hwa]; exact alloc3_at2 _ _ _ _
  have hcc := fun i => cell_of_row wc w.heap.size i _ _ _ hF.b3
  have hc0 := (hcc 0).trans hV0
  have hc1 := (hcc 1).trans hV1
  have hc2 := (hcc 2).trans hV2
  have hcy : wc.cell? ⟨ab, off + p, none⟩ = _ := (hbel.cell (p := ⟨ab, off + p, none⟩) (by simp; omega)).trans hy
  have HF := Lib.hid hF
  have HV3 := Lib.hid hV3
  have HV := Lib.hid hV
  have HS := Lib.hid (And.intro hs (And.intro hl hmem))
  have HB := Lib.hid (And.intro hB hcB)
  have hp0 : (0 : Int) ≤ p := by omega
  have hrl6 : ((rowAt ws p).length : Int) ≤ 6 := by omega
  clear hz hg hrl er hmem hc hy hbat hrw hV hV0 hV1 hV2 hV3 hbel hF hcc hs hl hB hcB HZ
  generalize hR : rowAt ws p = r at *
  obtain ⟨R7, hR7⟩ : ∃ R7, R7 = (List.range 7).map (inFl (b / t.water) sp r) := ⟨_, rfl⟩
  rw [← hR7]
  have HR7 := Lib.hid hR7
  clear hR7
  go_enter Tryz.func179, Tryz.ntmps179
  go_wp2
  go_loopg [8, 25] r.length (fun gg s8 s25 wx => ∃ k : Nat, k + gg = r.length ∧ s8 = .int .i64 (outK (b / t.water) r k) ∧ s25 = .int .i64 k ∧ Hid (FlC w V (ints (partL (b / t.water) sp r k)) wx))
  case atStart => exact ⟨0, by omega, by rw [← hq]; rfl, rfl, HF.out⟩
  case round =>
    obtain ⟨k, hkg, rfl, rfl, hC⟩ := hrel
    cases gk with
    | zero =>
      obtain rfl : k = r.length := by omega
      have h7 := hC.out.b7
      rw [partL_end _ _ _ _ (Nat.le_refl _), ← HR7.out] at h7
      have hl7 : (ints R7).length = 7 := by rw [HR7.out]; simp [ints]
      have H7 := Lib.hid h7
      clear h7
      go_wp2_with (first
        | (show wpList _ _ _ (Oper.mk (some 42) _ _ _ _ _ :: _) _ _
           refine wpList_load_blk 136 (.tmp 7) rfl rfl rfl H7.out (ints R7) (fun j v hj => by rw [Nat.zero_add, List.getElem?_toArray]; exact hj) (by rw [hl7]; exact row7) ?_)
        | (show wpList _ _ _ (Oper.mk none (Op.store _ (Operand.tmp 6) (Operand.tmp 42)) _ _ _ _ :: _) _ _
           refine wpList_store_blk 136 (.tmp 6) (.tmp 42) (cs := ints R7) (L := List.replicate 7 (.int .i64 0)) rfl rfl rfl rfl rfl hC.out.b6 (by rw [hl7]; simp) (oneCells_ints _) (by rw [hl7]; exact row7) ?_
           intro w2 hP2 hM2
           rw [splice_whole (by rw [hl7]; simp)] at hM2
           have H2 := Lib.hid (And.intro hP2 hM2)
           clear hP2 hM2))
      refine bodyPost_ret (v := .agg (ints R7).toArray) (results_cell Tryz.results179 rfl H2.out.2 (by rw [hl7]; exact row7)) rfl ⟨rfl, ?_⟩
      exact hC.out.bel.trans (H2.out.1.below (by omega))
    | succ gg =>
      have hk : k < r.length := by omega
      have hkz : (k : Int) < r.length := by omega
      have hk7 : (k : Int) < 7 := by omega
      have hk6 : (k : Int) < 6 := by omega
      have hcell := (cell_of_row wr w.heap.size (6 + p * 6 + k) _ _ _ hC.out.b3).trans (HV3.out k (by omega))
      have hO : 0 ≤ (outK (b / t.water) r k) ∧ (outK (b / t.water) r k) ≤ 10000 := by
        unfold outK
        split
        · exact ⟨Int.ediv_nonneg HG.out.b0 (by have := HG.out.w1; omega), HG.out.bs⟩
        · exact ⟨hrow.b0 _, hrow.b1 _⟩
      have hin : inFl (b / t.water) sp r k = fl sp (outK (b / t.water) r k) (atR r k) := by simp [inFl, outK, hk]
      have hset := partL_set (b / t.water) sp r k
      have hb0 := hrow.b0 k
      have hb1 := hrow.b1 k
      have hnx : outK (b / t.water) r (k + 1) = atR r k := by simp [outK]
      have hfl := fun W hW => flow_any sp (outK (b / t.water) r k) (atR r k) sb h1 h2 hO.1 hO.2 hb0 hb1 W hW
      rw [← hin] at hfl
      generalize (outK (b / t.water) r k) = o at hfl hO ⊢
      generalize inFl (b / t.water) sp r k = f at hfl hset
      generalize atR r k = c at hfl hnx hcell
      have HFL := Lib.hid hfl
      have HK := Lib.hid (And.intro hset hnx)
      clear hfl hset hnx hin hb0 hb1 hO
      go_wp2_with (first
        | (go_at_call 178; refine (HFL.out _ ((hC.out.bel.block _ (lt_of_heap HS.out.1)).trans HS.out.1)).mono ?_; rintro e w1 ⟨rfl, rfl⟩)
        | (show wpList _ _ _ (Oper.mk none (Op.store _ (Operand.tmp 39) (Operand.tmp 38)) _ _ _ _ :: _) _ _
           refine wpList_store_one 3 (.tmp 39) (.tmp 38) rfl rfl rfl rfl rfl hC.out.b7 (by simp [ints, partL]; omega) (by kernel_rfl) ?_
           intro w2 hP2 hM2
           have H2 := Lib.hid (And.intro hP2 hM2)
           clear hP2 hM2))
      go_roundg gg
      case measure => omega
      case rel => exact ⟨k + 1, by omega, by rw [HK.out.2], by go_num, hC.out.put H2.out.1 (by rw [← HK.out.1]; exact H2.out.2)⟩

end Go.Proofs.YtddpebnmjfmgdaaGreat
