/-
  Walls of two hours are compared.
-/
import Derived.Test.YtpnnlmaipcjkmaaGreatQR29
import Derived.Test.YtpnnlmaipcjkmaaGreatQR30
import Derived.ChangeKeysEq
set_option linter.all false
namespace Go.Proofs.YtpnnlmaipcjkmaaGreat
open Go.RowKit
open R6 (done done_ne done_me upd_ne upd_me)

attribute [local go_sem] gives

section
variable {P : Program} {ops : Array Oper} {rest : List Oper} {op : Oper} {a : Act} {w : World} {Q : Exit → Act → World → Prop}
theorem wpList_store_one (ty : TypeId) (x y : Operand) (hgd : op.guard = none) (ho : op.op = .store ty x y) (hd : op.dst = none) {b o : Nat} (hx : a.eval x = .pointer (some ⟨b, o, none⟩)) {z : Int} (hy : a.eval y = .int .i64 z)
    {L : List Value} {t : TypeId} (hb : w.heap[b]? = some (.cells L.toArray t (0, 0))) (hfit : o < L.length) (hty : (P.info? ty).map (·.size) = some 1)
    (h : ∀ w', Put w w' b → w'.heap[b]? = some (.cells (L.set o (.int .i64 z)).toArray t (0, 0)) → wpList P ops Q rest a w') : wpList P ops Q (op :: rest) a w := by
  refine wpList_plain hgd fun K hK => ?_
  have hrun := run_store_one (P := P) (v := .int .i64 z) hb hfit rfl rfl hty
  unfold Oper.wp execOp
  simp only [ho, hx, hy, Sem.run_bind, Sem.run_pure, hrun, Result.andThen_ok]
  refine hK _ _ ?_
  rw [hd]
  refine h _ (put_setCells b [.int .i64 z] o w) ?_
  have := heap_setCell_same w b o _ _ (.int .i64 z) hb
  rwa [List.setIfInBounds_toArray] at this
end

theorem results_cell {P : Program} {fn : Func} {tmps : Array Value} {w : World} {t b : Nat} {ty tt : TypeId} {cs : List Value} {fr : Nat × Nat} (hr : fn.results = #[.cell t ty]) (ht : tmps.getD t undef = .pointer (some ⟨b, 0, none⟩))
    (hb : w.heap[b]? = some (.cells cs.toArray tt fr)) (hty : RowTy P ty cs.length) : (results fn tmps).run P w = .ok (.agg cs.toArray) w := by
  obtain ⟨⟨d, hu, hd⟩, hi⟩ := hty
  have hl := run_loadVar_mid (P := P) w b 0 ty cs d (fun j v hv => by
    rw [Nat.zero_add, cell_of_row w b j _ _ _ hb, List.getElem?_toArray]; exact hv) hu hd hi
  rw [Array.getD_eq_getD_getElem?] at ht
  unfold results
  rw [hr]
  simp [ht, asAddr, hl]

theorem flow_any (sp o c : Int) (b : Nat) (h1 : 1 ≤ sp) (h2 : sp ≤ 250) (o0 : 0 ≤ o) (o1 : o ≤ 10000) (c0 : 0 ≤ c) (c1 : c ≤ 10000) (w : World) (hb : w.heap[b]? = some (.cells #[.int .i64 sp] 3 (0, 0))) :
    Calls Tryz.prog 178 #[.int .i64 o, .int .i64 c, .pointer (some ⟨b, 0, none⟩)] w fun e w' => e = .returned (.int .i64 (fl sp o c)) ∧ w = w' := by
  have hc := fun i => cell_of_row w b i _ _ _ hb
  have p1 : (o - c) * sp ≤ 2500000 := by
    rcases Int.le_total c o with h | h
    · have : (o - c) * sp ≤ (o - c) * 250 := Int.mul_le_mul_of_nonneg_left h2 (by omega); omega
    · have : (o - c) * sp ≤ 0 := Int.mul_nonpos_of_nonpos_of_nonneg (by omega) (by omega); omega
  have p2 : -2500000 ≤ (o - c) * sp := by
    rcases Int.le_total o c with h | h
    · have : (c - o) * sp ≤ (c - o) * 250 := Int.mul_le_mul_of_nonneg_left h2 (by omega)
      have e : (o - c) * sp = - ((c - o) * sp) := by rw [← Int.neg_mul, Int.neg_sub]
      omega
    · have : 0 ≤ (o - c) * sp := Int.mul_nonneg (by omega) (by omega); omega
  unfold fl
  go_enter Tryz.func178, Tryz.ntmps178
  go_wp2
  go_ret
  exact ⟨rfl, rfl⟩

def bv (t : Bt) (P : Value) (b : Int) (ws : List (List Int)) : List Value := [.int .i64 t.water, .int .i64 b, P, .int .i64 t.lo, .int .i64 t.hi, .int .i64 t.need] ++ ints (wallL ws)
theorem bv_len (t : Bt) (P : Value) (b : Int) (ws : List (List Int)) : (bv t P b ws).length = 30 := by simp [bv, ints, wallL_len]
theorem bv_at (t : Bt) (P : Value) (b : Int) (ws : List (List Int)) (p c : Nat) (hp : p < 4) (hc : c < 6) : (bv t P b ws)[6 + p * 6 + c]? = some (.int .i64 (atR (rowAt ws p) c)) := by
  unfold bv
  rw [List.getElem?_append_right (by simp; omega)]
  simp only [List.length_cons, List.length_nil, ints, List.getElem?_map]
  rw [show 6 + p * 6 + c - (0 + 1 + 1 + 1 + 1 + 1 + 1) = p * 6 + c by omega, wallL_at ws p c hp hc]
  rfl
theorem bv_one (t : Bt) (A : Option Addr) (n c : Nat) (b : Int) (ws : List (List Int)) : ∀ v ∈ bv t (.slice A n c) b ws, v.oneCell' = true := by
  intro v hv
  simp only [bv, List.mem_append, List.mem_cons, List.not_mem_nil, or_false] at hv
  rcases hv with (rfl | rfl | rfl | rfl | rfl | rfl) | hv
  all_goals first | rfl | exact oneCells_ints _ v hv
theorem rowBatch : RowTy Tryz.prog 152 30 := ⟨⟨_, Tryz.underlying152, rfl⟩, by kernel_rfl⟩

def partL (s sp : Int) (r : List Int) (k : Nat) : List Int := (List.range 7).map fun i => if i < k then inFl s sp r i else 0
theorem partL_set (s sp : Int) (r : List Int) (k : Nat) : (ints (partL s sp r k)).set k (.int .i64 (inFl s sp r k)) = ints (partL s sp r (k + 1)) := by
  unfold ints partL
  rw [List.map_map, List.map_map]
  apply List.ext_getElem (by simp)
  intro i h1 h2
  simp only [List.getElem_set, List.getElem_map, List.getElem_range, Function.comp_apply]
  by_cases e : k = i
  · subst e; simp
  · rw [if_neg e]
    by_cases h : i < k
    · rw [if_pos h, if_pos (by omega)]
    · rw [if_neg h, if_neg (by omega)]
theorem partL_end (s sp : Int) (r : List Int) (k : Nat) (h : r.length ≤ k) : partL s sp r k = (List.range 7).map (inFl s sp r) := by
  unfold partL
  apply List.map_congr_left
  intro i _
  by_cases hi : i < k
  · rw [if_pos hi]
  · rw [if_neg hi]; simp [inFl, show ¬ i < r.length by omega]

theorem row7 : RowTy Tryz.prog 136 7 := ⟨⟨_, Tryz.underlying136, rfl⟩, by kernel_rfl⟩

def outK (s : Int) (r : List Int) (k : Nat) : Int := if k = 0 then s else atR r (k - 1)

structure FlC (w : World) (cs : Array Value) (L : List Value) (W : World) : Prop where
  bel : Below w.heap.size w W
  sz : w.heap.size + 3 ≤ W.heap.size
  b3 : W.heap[w.heap.size]? = some (.cells cs 152 (0, 0))
  b6 : W.heap[w.heap.size + 1]? = some (.cells #[.int .i64 0, .int .i64 0, .int .i64 0, .int .i64 0, .int .i64 0, .int .i64 0, .int .i64 0] 136 (0, 0))
  b7 : W.heap[w.heap.size + 1 + 1]? = some (.cells L.toArray 136 (0, 0))

theorem FlC.put {w W W' : World} {cs : Array Value} {L L' : List Value} (h : FlC w cs L W) (hp : Put W W' (w.heap.size + 1 + 1)) (hM : W'.heap[w.heap.size + 1 + 1]? = some (.cells L'.toArray 136 (0, 0))) : FlC w cs L' W' :=
  ⟨h.bel.trans (hp.below (by omega)), by rw [hp.size]; exact h.sz, (hp.other _ (by omega)).trans h.b3, (hp.other _ (by omega)).trans h.b6, hM⟩

set_option maxRecDepth 100000 in
set_option maxHeartbeats 4000000 in
theorem flows_any (t : Bt) (A : Option Addr) (cap : Nat) (l : List Sl) (b sp : Int) (ws : List (List Int)) (p sb : Nat) (B : Nat) (w : World) (hB : B ≤ w.heap.size) (hz : Rows w B A l) (hs : w.heap[sb]? = some (.cells #[.int .i64 sp] 3 (0, 0)))
    (h1 : 1 ≤ sp) (h2 : sp ≤ 250) (hg : GoodS t.water (b, ws)) (hl : lens ws = lens (rws l)) (hp : p < ws.length) :
    Calls Tryz.prog 179 #[.agg (bv t (.slice A l.length cap) b ws).toArray, .int .i64 p, .func (.func 178) #[] #[.pointer (some ⟨sb, 0, none⟩)]] w
      fun e w' => e = .returned (.agg (ints ((List.range 7).map (inFl (b / t.water) sp (rowAt ws p)))).toArray) ∧ Below w.heap.size w w' := by
  have HZ := Lib.hid hz
  have HG := Lib.hid hg
  have hq : b.tdiv t.water = b / t.water := Int.tdiv_eq_ediv_of_nonneg hg.b0
  have hw0 : ¬ t.water = 0 := by have := hg.w1; omega
  have hq0 : 0 ≤ b.tdiv t.water := by rw [hq]; exact Int.ediv_nonneg hg.b0 (by have := hg.w1; omega)
  have hq1 : b.tdiv t.water ≤ 10000 := by rw [hq]; exact hg.bs
  have hn4 : p < 4 := by have := hg.n4; simp only at this; omega
  have hpl : p < l.length := by have := lens_len hl; simp [rws] at this; omega
  have hpl2 : (p : Int) < l.length := by omega
  have hrl := lens_at hl p
  have er : rowAt (rws l) p = (l[p]).zs := by simp [rowAt, rws, hpl]
  rw [er] at hrl
  have hmem := List.getElem_mem hpl
  have hrow : okRow (rowAt ws p) := hg.rows _ (by simp only [rowAt, List.getElem?_eq_getElem hp, Option.getD_some]; exact List.getElem_mem hp)
  obtain ⟨ab, off, hA, hcB, hc⟩ := hz.va (by rw [slvs_len]; omega)
  subst hA
  have hy := hc p _ (slvs_at l p hpl)
  generalize l[p] = y at hy hrl
  unfold slv at hy
  rw [← hrl] at hy
  have hr6 := hrow.l6
  have hbat := bv_at t (.slice (some ⟨ab, off, none⟩) l.length cap) b ws p
  have hrw := fun c => hbat c hn4
  obtain ⟨V, hV⟩ : ∃ V, V = (bv t (.slice (some ⟨ab, off, none⟩) l.length cap) b ws).toArray := ⟨_, rfl⟩
  rw [← hV]
  obtain ⟨wa, hwa⟩ : ∃ wa, w.alloc (.cells V 152) = wa := ⟨_, rfl⟩
  obtain ⟨wb, hwb⟩ : ∃ wb, wa.alloc (.cells #[.int .i64 0, .int .i64 0, .int .i64 0, .int .i64 0, .int .i64 0, .int .i64 0, .int .i64 0] 136) = wb := ⟨_, rfl⟩
  obtain ⟨wc, hwc⟩ : ∃ wc, wb.alloc (.cells #[.int .i64 0, .int .i64 0, .int .i64 0, .int .i64 0, .int .i64 0, .int .i64 0, .int .i64 0] 136) = wc := ⟨_, rfl⟩
  have hsa : wa.heap.size = w.heap.size + 1 := by rw [← hwa]; simp
  have hsb : wb.heap.size = w.heap.size + 1 + 1 := by rw [← hwb, ← hsa]; simp
  have hV0 : V[0]? = some (.int .i64 t.water) := by rw [hV]; rfl
  have hV1 : V[1]? = some (.int .i64 b) := by rw [hV]; rfl
  have hV2 : V[2]? = some (.slice (some ⟨ab, off, none⟩) l.length cap) := by rw [hV]; rfl
  have hV3 : ∀ c, c < 6 → V[6 + p * 6 + c]? = some (.int .i64 (atR (rowAt ws p) c)) := fun c h => by rw [hV, List.getElem?_toArray]; exact hrw c h
  have hbel : Below w.heap.size w wc := by
    rw [← hwc, ← hwb, ← hwa]
    exact (((Below.refl _ w).alloc (Nat.le_refl _) _).alloc (by simp) _).alloc (by simp; omega) _
  have hF : FlC w V (ints (partL (b / t.water) sp (rowAt ws p) 0)) wc := by
    refine ⟨hbel, ?_, ?_, ?_, ?_⟩
    · rw [← hwc]; simp [hsb]
    · rw [← hwc, ← hwb, ← hwa]; exact alloc3_at0 _ _ _ _
    · rw [← hwc, ← hwb, ← hwa]; exact alloc3_at1 _ _ _ _
    · rw [← hwc, ← hwb, ← hwa]; exact alloc3_at2 _ _ _ _
  have hcc := fun i => cell_of_row wc w.heap.size i _ _ _ hF.b3
  have hc0 := (hcc 0).trans hV0
  have hc1 := (hcc 1).trans hV1
  have hc2 := (hcc 2).trans hV2
  have hcy : wc.cell? ⟨ab, off + p, none⟩ = _ := (hbel.cell (p := ⟨ab, off + p, none⟩) (by simp; omega)).trans hy
  have HF := Lib.hid hF
  have HV3 := Lib.hid hV3
  have HV := Lib.hid hV
  have HS := Lib.hid (And.intro hs (And.intro hl hmem))
  have HB := Lib.hid (And.intro hB hcB)
  have hp0 : (0 : Int) ≤ p := by omega
  have hrl6 : ((rowAt ws p).length : Int) ≤ 6 := by omega
  clear hz hg hrl er hmem hc hy hbat hrw hV hV0 hV1 hV2 hV3 hbel hF hcc hs hl hB hcB HZ
  generalize hR : rowAt ws p = r at *
  obtain ⟨R7, hR7⟩ : ∃ R7, R7 = (List.range 7).map (inFl (b / t.water) sp r) := ⟨_, rfl⟩
  rw [← hR7]
  have HR7 := Lib.hid hR7
  clear hR7
  go_enter Tryz.func179, Tryz.ntmps179
  go_wp2
  go_loopg [8, 25] r.length (fun gg s8 s25 wx => ∃ k : Nat, k + gg = r.length ∧ s8 = .int .i64 (outK (b / t.water) r k) ∧ s25 = .int .i64 k ∧ Hid (FlC w V (ints (partL (b / t.water) sp r k)) wx))
  case atStart => exact ⟨0, by omega, by rw [← hq]; rfl, rfl, HF.out⟩
  case round =>
    obtain ⟨k, hkg, rfl, rfl, hC⟩ := hrel
    cases gk with
    | zero =>
      obtain rfl : k = r.length := by omega
      have h7 := hC.out.b7
      rw [partL_end _ _ _ _ (Nat.le_refl _), ← HR7.out] at h7
      have hl7 : (ints R7).length = 7 := by rw [HR7.out]; simp [ints]
      have H7 := Lib.hid h7
      clear h7
      go_wp2_with (first
        | (show wpList _ _ _ (Oper.mk (some 42) _ _ _ _ _ :: _) _ _
           refine wpList_load_blk 136 (.tmp 7) rfl rfl rfl H7.out (ints R7) (fun j v hj => by rw [Nat.zero_add, List.getElem?_toArray]; exact hj) (by rw [hl7]; exact row7) ?_)
        | (show wpList _ _ _ (Oper.mk none (Op.store _ (Operand.tmp 6) (Operand.tmp 42)) _ _ _ _ :: _) _ _
           refine wpList_store_blk 136 (.tmp 6) (.tmp 42) (cs := ints R7) (L := List.replicate 7 (.int .i64 0)) rfl rfl rfl rfl rfl hC.out.b6 (by rw [hl7]; simp) (oneCells_ints _) (by rw [hl7]; exact row7) ?_
           intro w2 hP2 hM2
           rw [splice_whole (by rw [hl7]; simp)] at hM2
           have H2 := Lib.hid (And.intro hP2 hM2)
           clear hP2 hM2))
      refine bodyPost_ret (v := .agg (ints R7).toArray) (results_cell Tryz.results179 rfl H2.out.2 (by rw [hl7]; exact row7)) rfl ⟨rfl, ?_⟩
      exact hC.out.bel.trans (H2.out.1.below (by omega))
    | succ gg =>
      have hk : k < r.length := by omega
      have hkz : (k : Int) < r.length := by omega
      have hk7 : (k : Int) < 7 := by omega
      have hk6 : (k : Int) < 6 := by omega
      have hcell := (cell_of_row wr w.heap.size (6 + p * 6 + k) _ _ _ hC.out.b3).trans (HV3.out k (by omega))
      have hO : 0 ≤ (outK (b / t.water) r k) ∧ (outK (b / t.water) r k) ≤ 10000 := by
        unfold outK
        split
        · exact ⟨Int.ediv_nonneg HG.out.b0 (by have := HG.out.w1; omega), HG.out.bs⟩
        · exact ⟨hrow.b0 _, hrow.b1 _⟩
      have hin : inFl (b / t.water) sp r k = fl sp (outK (b / t.water) r k) (atR r k) := by simp [inFl, outK, hk]
      have hset := partL_set (b / t.water) sp r k
      have hb0 := hrow.b0 k
      have hb1 := hrow.b1 k
      have hnx : outK (b / t.water) r (k + 1) = atR r k := by simp [outK]
      have hfl := fun W hW => flow_any sp (outK (b / t.water) r k) (atR r k) sb h1 h2 hO.1 hO.2 hb0 hb1 W hW
      rw [← hin] at hfl
      generalize (outK (b / t.water) r k) = o at hfl hO ⊢
      generalize inFl (b / t.water) sp r k = f at hfl hset
      generalize atR r k = c at hfl hnx hcell
      have HFL := Lib.hid hfl
      have HK := Lib.hid (And.intro hset hnx)
      clear hfl hset hnx hin hb0 hb1 hO
      go_wp2_with (first
        | (go_at_call 178; refine (HFL.out _ ((hC.out.bel.block _ (lt_of_heap HS.out.1)).trans HS.out.1)).mono ?_; rintro e w1 ⟨rfl, rfl⟩)
        | (show wpList _ _ _ (Oper.mk none (Op.store _ (Operand.tmp 39) (Operand.tmp 38)) _ _ _ _ :: _) _ _
           refine wpList_store_one 3 (.tmp 39) (.tmp 38) rfl rfl rfl rfl rfl hC.out.b7 (by simp [ints, partL]; omega) (by kernel_rfl) ?_
           intro w2 hP2 hM2
           have H2 := Lib.hid (And.intro hP2 hM2)
           clear hP2 hM2))
      go_roundg gg
      case measure => omega
      case rel => exact ⟨k + 1, by omega, by rw [HK.out.2], by go_num, hC.out.put H2.out.1 (by rw [← HK.out.1]; exact H2.out.2)⟩

end Go.Proofs.YtpnnlmaipcjkmaaGreat

namespace Go.Proofs.YtpnnlmaipcjkmaaGreat
open Go.RowKit
open R6 (done done_ne done_me upd_ne upd_me)

attribute [local go_sem] gives

def bw (t : Bt) (P : Value) (b : Int) (M : List Int) : List Value := [.int .i64 t.water, .int .i64 b, P, .int .i64 t.lo, .int .i64 t.hi, .int .i64 t.need] ++ ints M
theorem bw_len (t : Bt) (P : Value) (b : Int) (M : List Int) (h : M.length = 24) : (bw t P b M).length = 30 := by simp [bw, ints, h]
theorem bw_b (t : Bt) (P : Value) (b b' : Int) (M : List Int) : (bw t P b M).set 1 (.int .i64 b') = bw t P b' M := rfl
theorem bw_set (t : Bt) (P : Value) (b x : Int) (M : List Int) (n : Nat) : (bw t P b M).set (6 + n) (.int .i64 x) = bw t P b (M.set n x) := by
  unfold bw ints
  rw [List.set_append_right _ _ (by simp)]
  simp [List.map_set]
theorem bw_at (t : Bt) (P : Value) (b : Int) (M : List Int) (n : Nat) (hn : n < M.length) : (bw t P b M)[6 + n]? = some (.int .i64 (M[n]?.getD 0)) := by
  unfold bw
  rw [List.getElem?_append_right (by simp)]
  simp [ints, hn]
theorem bw_one (t : Bt) (A : Option Addr) (n c : Nat) (b : Int) (M : List Int) : ∀ v ∈ bw t (.slice A n c) b M, v.oneCell' = true := by
  intro v hv
  simp only [bw, List.mem_append, List.mem_cons, List.not_mem_nil, or_false] at hv
  rcases hv with (rfl | rfl | rfl | rfl | rfl | rfl) | hv
  all_goals first | rfl | exact oneCells_ints _ v hv

def midL (old new : List Int) (n : Nat) : List Int := new.take n ++ old.drop n
theorem midL_len {old new : List Int} (h : old.length = new.length) (n : Nat) : (midL old new n).length = new.length := by simp [midL]; omega
theorem midL_zero (old new : List Int) : midL old new 0 = old := by simp [midL]
theorem midL_at {old new : List Int} {n : Nat} (hn : n < new.length) : (midL old new n)[n]?.getD 0 = old[n]?.getD 0 := by
  unfold midL
  rw [List.getElem?_append_right (by simp; omega)]
  simp [show n - min n new.length = 0 by omega]
theorem midL_set {old new : List Int} (h : old.length = new.length) {n : Nat} (hn : n < new.length) : (midL old new n).set n (new[n]?.getD 0) = midL old new (n + 1) := by
  unfold midL
  have e : old.drop n = old[n] :: old.drop (n + 1) := List.drop_eq_getElem_cons (by omega)
  rw [List.set_append_right _ _ (by simp; omega), e, show n - (new.take n).length = 0 by simp; omega, List.set_cons_zero, List.take_add_one, List.getElem?_eq_getElem hn]
  simp only [Option.getD_some, Option.toList_some, List.append_assoc, List.singleton_append]
theorem midL_end {old new : List Int} {n : Nat} (h : old.drop n = new.drop n) : midL old new n = new := by
  unfold midL
  rw [h, List.take_append_drop]

theorem rowAt_map (f : List Int → List Int) {ws : List (List Int)} {k : Nat} (hk : k < ws.length) : rowAt (ws.map f) k = f (rowAt ws k) := by
  simp [rowAt, hk]
theorem wallL_new (s sp : Int) {ws : List (List Int)} {k j : Nat} (hk : k < ws.length) (h4 : k < 4) (hj : j < 6) :
    (wallL (ws.map (hourRow s sp)))[k * 6 + j]?.getD 0 = atR (rowAt ws k) j + (inFl s sp (rowAt ws k) j - inFl s sp (rowAt ws k) (j + 1)) := by
  rw [wallL_at _ k j h4 hj, rowAt_map _ hk, hourRow_all]
  rfl
theorem wallL_drop (f : List Int → List Int) (ws : List (List Int)) : (wallL ws).drop (ws.length * 6) = (wallL (ws.map f)).drop (ws.length * 6) := by
  apply List.ext_getElem (by simp [wallL_len])
  intro i h1 h2
  have h24 : ws.length * 6 + i < 24 := by simpa [wallL_len, Nat.lt_sub_iff_add_lt'] using h1
  have e1 : rowAt ws ((ws.length * 6 + i) / 6) = [] := by
    unfold rowAt
    rw [List.getElem?_eq_none (by omega)]; rfl
  have e2 : rowAt (ws.map f) ((ws.length * 6 + i) / 6) = [] := by
    unfold rowAt
    rw [List.getElem?_eq_none (by simp; omega)]; rfl
  simp only [List.getElem_drop, wallL, List.getElem_map, List.getElem_range, e1, e2]

def hourBk (s sp b : Int) (ws : List (List Int)) (k : Nat) : Int := b - ((ws.take k).map (inFl s sp · 0)).sum
theorem hourBk_zero (s sp b : Int) (ws : List (List Int)) : hourBk s sp b ws 0 = b := by simp [hourBk]
theorem hourBk_succ (s sp b : Int) (ws : List (List Int)) {k : Nat} (hk : k < ws.length) : hourBk s sp b ws (k + 1) = hourBk s sp b ws k - inFl s sp (rowAt ws k) 0 := by
  unfold hourBk
  rw [List.take_add_one, List.map_append, List.sum_append, List.getElem?_eq_getElem hk]
  simp only [rowAt, List.getElem?_eq_getElem hk, Option.getD_some, Option.toList_some, List.map_cons, List.map_nil, List.sum_cons, List.sum_nil]
  omega
theorem hourBk_end (s sp b : Int) (ws : List (List Int)) : hourBk s sp b ws ws.length = hourB s sp b ws := by simp [hourBk, hourB]
theorem hourBk_bnd {s sp b : Int} {ws : List (List Int)} (h1 : 1 ≤ sp) (h2 : sp ≤ 250) (s0 : 0 ≤ s) (s1 : s ≤ 10000) (n4 : ws.length ≤ 4) (hr : ∀ r ∈ ws, okRow r) (k : Nat) : b - 10000 ≤ hourBk s sp b ws k ∧ hourBk s sp b ws k ≤ b + 10000 := by
  have h := sumFl_bnd h1 h2 s0 s1 (ws.take k) (fun r hm => hr r (List.mem_of_mem_take hm))
  have hl : (ws.take k).length ≤ 4 := by simp; omega
  have hl2 : ((ws.take k).length : Int) ≤ 4 := by omega
  have m1 : ((ws.take k).length : Int) * s ≤ 4 * s := Int.mul_le_mul_of_nonneg_right hl2 s0
  have m2 : ((ws.take k).length : Int) * (10000 - s) ≤ 4 * (10000 - s) := Int.mul_le_mul_of_nonneg_right hl2 (by omega)
  have m3 : ((ws.take k).length : Int) * (s - 10000) = - (((ws.take k).length : Int) * (10000 - s)) := by rw [← Int.mul_neg, Int.neg_sub]
  rw [m3] at h
  unfold hourBk
  generalize ((ws.take k).length : Int) * s = X at *
  generalize ((ws.take k).length : Int) * (10000 - s) = Y at *
  omega

structure LtC (w : World) (V : List Value) (sp : Int) (N : List Value) (W : World) : Prop where
  bel : Below w.heap.size w W
  sz : w.heap.size + 4 ≤ W.heap.size
  b2 : W.heap[w.heap.size]? = some (.cells V.toArray 152 (0, 0))
  b3 : W.heap[w.heap.size + 1]? = some (.cells #[.int .i64 sp] 3 (0, 0))
  b4 : ∃ Z : List Value, Z.length = 30 ∧ W.heap[w.heap.size + 1 + 1]? = some (.cells Z.toArray 152 (0, 0))
  b6 : W.heap[w.heap.size + 1 + 1 + 1]? = some (.cells N.toArray 152 (0, 0))
theorem LtC.next {w W W' : World} {V N : List Value} {sp : Int} (h : LtC w V sp N W) (hB : Below W.heap.size W W') : LtC w V sp N W' :=
  ⟨h.bel.trans (hB.mono h.bel.size), Nat.le_trans h.sz hB.size, (hB.block _ (lt_of_heap h.b2)).trans h.b2, (hB.block _ (lt_of_heap h.b3)).trans h.b3, h.b4.imp fun _ e => ⟨e.1, (hB.block _ (lt_of_heap e.2)).trans e.2⟩, (hB.block _ (lt_of_heap h.b6)).trans h.b6⟩
theorem LtC.put {w W W' : World} {V N N' : List Value} {sp : Int} (h : LtC w V sp N W) (hg : W.grownBy W' (some (w.heap.size + 1 + 1 + 1))) (hM : W'.heap[w.heap.size + 1 + 1 + 1]? = some (.cells N'.toArray 152 (0, 0))) : LtC w V sp N' W' :=
  ⟨h.bel.grown hg h.bel.size (fun k e => by cases e; omega), Nat.le_trans h.sz hg.size, (hg.block _ (lt_of_heap h.b2) (fun e => by injection e with e; omega)).trans h.b2, (hg.block _ (lt_of_heap h.b3) (fun e => by injection e with e; omega)).trans h.b3, h.b4.imp fun _ e => ⟨e.1, (hg.block _ (lt_of_heap e.2) (fun e => by injection e with e; omega)).trans e.2⟩, hM⟩
theorem LtC.far {w W W' : World} {V N : List Value} {sp : Int} (h : LtC w V sp N W) {b : Nat} (hb : w.heap.size + 4 ≤ b) (hp : Put W W' b) : LtC w V sp N W' :=
  ⟨h.bel.trans (hp.below (by omega)), by rw [hp.size]; exact h.sz, (hp.other _ (by omega)).trans h.b2, (hp.other _ (by omega)).trans h.b3, h.b4.imp fun _ e => ⟨e.1, (hp.other _ (by omega)).trans e.2⟩, (hp.other _ (by omega)).trans h.b6⟩

set_option maxRecDepth 100000 in
set_option maxHeartbeats 8000000 in
theorem later_any (t : Bt) (A : Option Addr) (cap : Nat) (l : List Sl) (b sp : Int) (ws : List (List Int)) (B : Nat) (w : World) (hB : B ≤ w.heap.size) (hz : Rows w B A l)
    (h1 : 1 ≤ sp) (h2 : sp ≤ 250) (hg : GoodS t.water (b, ws)) (hl : lens ws = lens (rws l)) :
    Calls Tryz.prog 162 #[.agg (bv t (.slice A l.length cap) b ws).toArray, .int .i64 sp] w
      fun e w' => e = .returned (.agg (bv t (.slice A l.length cap) (hourS t.water sp (b, ws)).1 (hourS t.water sp (b, ws)).2).toArray) ∧ Below w.heap.size w w' := by
  have hn : ws.length = l.length := by have := lens_len hl; simpa [rws] using this
  have hn4 : l.length ≤ 4 := by have := hg.n4; simp only at this; omega
  have hs0 : 0 ≤ b / t.water := Int.ediv_nonneg hg.b0 (by have := hg.w1; omega)
  have hb1 : b ≤ 100010000 := by
    have h := hg.bs
    simp only at h
    have hw := hg.w1
    have hw2 := hg.w2
    have := Int.lt_ediv_add_one_mul_self b (show 0 < t.water by omega)
    have h3 : (b / t.water + 1) * t.water ≤ 10001 * t.water := Int.mul_le_mul_of_nonneg_right (by omega) (by omega)
    omega
  have hfl := fun p sb W (hp : p < ws.length) (hW : Below w.heap.size w W) (hs : W.heap[sb]? = some (.cells #[.int .i64 sp] 3 (0, 0))) =>
    flows_any t A cap l b sp ws p sb B W (Nat.le_trans hB hW.size) (hz.below (hW.mono hB)) hs h1 h2 hg hl hp
  have hone := bv_one t A l.length cap b ws
  have hlv := bv_len t (.slice A l.length cap) b ws
  obtain ⟨V, hV⟩ : ∃ V, V = bv t (.slice A l.length cap) b ws := ⟨_, rfl⟩
  rw [← hV] at hone hlv hfl ⊢
  obtain ⟨P, hP⟩ : ∃ P : Value, P = .slice A l.length cap := ⟨_, rfl⟩
  obtain ⟨s, hs⟩ : ∃ s, s = b / t.water := ⟨_, rfl⟩
  obtain ⟨old, hold⟩ : ∃ old, old = wallL ws := ⟨_, rfl⟩
  obtain ⟨new, hnew⟩ : ∃ new, new = wallL (ws.map (hourRow s sp)) := ⟨_, rfl⟩
  have hlo : old.length = 24 := by rw [hold]; exact wallL_len _
  have hln : new.length = 24 := by rw [hnew]; exact wallL_len _
  have hR : (bv t (.slice A l.length cap) (hourS t.water sp (b, ws)).1 (hourS t.water sp (b, ws)).2) = bw t P (hourBk s sp b ws ws.length) (midL old new (ws.length * 6)) := by
    rw [hourBk_end, midL_end (by rw [hold, hnew]; exact wallL_drop _ _), hnew, hP, hs]
    rfl
  rw [hR]
  have hV0 : V = bw t P (hourBk s sp b ws 0) (midL old new (0 * 6)) := by rw [hV, hourBk_zero, Nat.zero_mul, midL_zero, hP, hold]; rfl
  rw [hn]
  have hPv : V.toArray[2]? = some (.slice A l.length cap) := by rw [hV]; rfl
  obtain ⟨wa, hwa⟩ : ∃ wa, w.alloc (.cells V.toArray 152) = wa := ⟨_, rfl⟩
  obtain ⟨wb, hwb⟩ : ∃ wb, wa.alloc (.cells #[.int .i64 sp] 3) = wb := ⟨_, rfl⟩
  obtain ⟨wc, hwc⟩ : ∃ wc, wb.alloc (.cells #[.int .i64 0, .int .i64 0, .slice none 0 0, .int .i64 0, .int .i64 0, .int .i64 0, .int .i64 0, .int .i64 0, .int .i64 0, .int .i64 0, .int .i64 0, .int .i64 0, .int .i64 0, .int .i64 0, .int .i64 0, .int .i64 0, .int .i64 0, .int .i64 0, .int .i64 0, .int .i64 0, .int .i64 0, .int .i64 0, .int .i64 0, .int .i64 0, .int .i64 0, .int .i64 0, .int .i64 0, .int .i64 0, .int .i64 0, .int .i64 0] 152) = wc := ⟨_, rfl⟩
  have hsa : wa.heap.size = w.heap.size + 1 := by rw [← hwa]; simp
  have hsb : wb.heap.size = w.heap.size + 1 + 1 := by rw [← hwb, ← hsa]; simp
  have hsc : wc.heap.size = w.heap.size + 1 + 1 + 1 := by rw [← hwc, ← hsb]; simp
  have hbel : Below w.heap.size w wc := by
    rw [← hwc, ← hwb, ← hwa]
    exact (((Below.refl _ w).alloc (Nat.le_refl _) _).alloc (by simp) _).alloc (by simp; omega) _
  have hb2 : wc.heap[w.heap.size]? = some (.cells V.toArray 152 (0, 0)) := by rw [← hwc, ← hwb, ← hwa]; exact alloc3_at0 _ _ _ _
  have hb3 : wc.heap[w.heap.size + 1]? = some (.cells #[.int .i64 sp] 3 (0, 0)) := by rw [← hwc, ← hwb, ← hwa]; exact alloc3_at1 _ _ _ _
  have hb4 : wc.heap[w.heap.size + 1 + 1]? = some (.cells #[.int .i64 0, .int .i64 0, .slice none 0 0, .int .i64 0, .int .i64 0, .int .i64 0, .int .i64 0, .int .i64 0, .int .i64 0, .int .i64 0, .int .i64 0, .int .i64 0, .int .i64 0, .int .i64 0, .int .i64 0, .int .i64 0, .int .i64 0, .int .i64 0, .int .i64 0, .int .i64 0, .int .i64 0, .int .i64 0, .int .i64 0, .int .i64 0, .int .i64 0, .int .i64 0, .int .i64 0, .int .i64 0, .int .i64 0, .int .i64 0] 152 (0, 0)) := by rw [← hwc, ← hwb, ← hwa]; exact alloc3_at2 _ _ _ _
  have hst : ∀ w4, Put (wc.alloc (.cells #[.int .i64 0, .int .i64 0, .slice none 0 0, .int .i64 0, .int .i64 0, .int .i64 0, .int .i64 0, .int .i64 0, .int .i64 0, .int .i64 0, .int .i64 0, .int .i64 0, .int .i64 0, .int .i64 0, .int .i64 0, .int .i64 0, .int .i64 0, .int .i64 0, .int .i64 0, .int .i64 0, .int .i64 0, .int .i64 0, .int .i64 0, .int .i64 0, .int .i64 0, .int .i64 0, .int .i64 0, .int .i64 0, .int .i64 0, .int .i64 0] 152)) w4 (w.heap.size + 1 + 1 + 1) → w4.heap[w.heap.size + 1 + 1 + 1]? = some (.cells V.toArray 152 (0, 0)) → LtC w V sp V w4 := fun w4 hp hm =>
    ⟨(hbel.alloc (by omega) _).trans (hp.below (by omega)), by rw [hp.size]; simp [hsc],
      (hp.other _ (by omega)).trans ((Below.heap_alloc _ _ _ (by omega)).trans hb2), (hp.other _ (by omega)).trans ((Below.heap_alloc _ _ _ (by omega)).trans hb3),
      ⟨[.int .i64 0, .int .i64 0, .slice none 0 0, .int .i64 0, .int .i64 0, .int .i64 0, .int .i64 0, .int .i64 0, .int .i64 0, .int .i64 0, .int .i64 0, .int .i64 0, .int .i64 0, .int .i64 0, .int .i64 0, .int .i64 0, .int .i64 0, .int .i64 0, .int .i64 0, .int .i64 0, .int .i64 0, .int .i64 0, .int .i64 0, .int .i64 0, .int .i64 0, .int .i64 0, .int .i64 0, .int .i64 0, .int .i64 0, .int .i64 0], rfl, (hp.other _ (by omega)).trans ((Below.heap_alloc _ _ _ (by omega)).trans hb4)⟩, hm⟩
  have hrows := hg.rows
  simp only at hrows
  have HG := Lib.hid (And.intro hg (And.intro hrows (And.intro hs0 hb1)))
  have HST := Lib.hid hst
  have HFL := Lib.hid hfl
  have HD := Lib.hid (And.intro hold (And.intro hnew (And.intro hs (And.intro hP (And.intro hV hR)))))
  have HL := Lib.hid (And.intro hlo (And.intro hln (And.intro hone (And.intro hlv hV0))))
  have HN := Lib.hid (And.intro hn hPv)
  have HB2 := Lib.hid hb2
  clear hold hnew hs hP hV hR hlo hln hone hlv hV0 hst hfl hg hrows hz hbel hb2 hb3 hb4 hl hn hs0 hb1 hPv
  go_enter Tryz.func162, Tryz.ntmps162
  go_wp2_with (first
    | (show wpList _ _ _ (Oper.mk (some 11) _ _ _ _ _ :: _) _ _
       refine wpList_load_blk 152 (.tmp 2) rfl rfl rfl HB2.out V (fun j v hj => by rw [Nat.zero_add, List.getElem?_toArray]; exact hj) (by rw [HL.out.2.2.2.1]; exact rowBatch) ?_)
    | (show wpList _ _ _ (Oper.mk none (Op.store _ (Operand.tmp 6) (Operand.tmp 11)) _ _ _ _ :: _) _ _
       refine wpList_store_blk 152 (.tmp 6) (.tmp 11) (cs := V) (L := [.int .i64 0, .int .i64 0, .slice none 0 0, .int .i64 0, .int .i64 0, .int .i64 0, .int .i64 0, .int .i64 0, .int .i64 0, .int .i64 0, .int .i64 0, .int .i64 0, .int .i64 0, .int .i64 0, .int .i64 0, .int .i64 0, .int .i64 0, .int .i64 0, .int .i64 0, .int .i64 0, .int .i64 0, .int .i64 0, .int .i64 0, .int .i64 0, .int .i64 0, .int .i64 0, .int .i64 0, .int .i64 0, .int .i64 0, .int .i64 0]) rfl rfl rfl rfl rfl (by rw [← hsc]; exact alloc_at0 _ _) (by rw [HL.out.2.2.2.1]; simp) HL.out.2.2.1 (by rw [HL.out.2.2.2.1]; exact rowBatch) ?_
       intro w4 hP4 hM4
       rw [splice_whole (by rw [HL.out.2.2.2.1]; rfl)] at hM4
       have h4 := HST.out w4 hP4 hM4
       have hc2 := (cell_of_row w4 w.heap.size 2 _ _ _ h4.b2).trans HN.out.2
       have H4 := Lib.hid h4
       clear hP4 hM4 h4))
  go_loopg [16] l.length (fun gg s16 wx => ∃ k : Nat, k + gg = l.length ∧ s16 = .int .i64 k ∧ Hid (LtC w V sp (bw t P (hourBk s sp b ws k) (midL old new (k * 6))) wx))
  case atStart => exact ⟨0, by omega, rfl, by rw [← HL.out.2.2.2.2]; exact H4.out⟩
  case round =>
    obtain ⟨k, hkg, rfl, hC⟩ := hrel
    cases gk with
    | zero =>
      obtain rfl : k = l.length := by omega
      have hb6 := hC.out.b6
      obtain ⟨Z, hZl, hb4⟩ := hC.out.b4
      have hle : (bw t P (hourBk s sp b ws l.length) (midL old new (l.length * 6))).length = 30 := bw_len _ _ _ _ (by rw [midL_len (by rw [HL.out.1, HL.out.2.1])]; exact HL.out.2.1)
      have hon : ∀ v ∈ bw t P (hourBk s sp b ws l.length) (midL old new (l.length * 6)), v.oneCell' = true := by rw [HD.out.2.2.2.1]; exact bw_one _ _ _ _ _ _
      generalize hRe : bw t P (hourBk s sp b ws l.length) (midL old new (l.length * 6)) = R at hb6 hle hon
      have HRE := Lib.hid hRe
      clear hRe
      have HE := Lib.hid (And.intro hb6 (And.intro hb4 (And.intro hle (And.intro hon hZl))))
      clear hb6 hb4 hle hon hZl
      go_wp2_with (first
        | (show wpList _ _ _ (Oper.mk (some 54) _ _ _ _ _ :: _) _ _
           refine wpList_load_blk 152 (.tmp 6) rfl rfl rfl HE.out.1 R (fun j v hj => by rw [Nat.zero_add, List.getElem?_toArray]; exact hj) (by rw [HE.out.2.2.1]; exact rowBatch) ?_)
        | (show wpList _ _ _ (Oper.mk none (Op.store _ (Operand.tmp 4) (Operand.tmp 54)) _ _ _ _ :: _) _ _
           refine wpList_store_blk 152 (.tmp 4) (.tmp 54) (cs := R) (L := Z) rfl rfl rfl rfl rfl HE.out.2.1 (by rw [HE.out.2.2.1, HE.out.2.2.2.2]; exact Nat.le_refl _) HE.out.2.2.2.1 (by rw [HE.out.2.2.1]; exact rowBatch) ?_
           intro w5 hP5 hM5
           rw [splice_whole (by rw [HE.out.2.2.1, HE.out.2.2.2.2])] at hM5
           have H5 := Lib.hid (And.intro hP5 hM5)
           clear hP5 hM5))
      refine bodyPost_ret (v := .agg R.toArray) (results_cell Tryz.results162 rfl H5.out.2 (by rw [HE.out.2.2.1]; exact rowBatch)) rfl ⟨by rw [HRE.out], ?_⟩
      exact hC.out.bel.trans (H5.out.1.below (by omega))
    | succ gg =>
      have hk : k < ws.length := by have := HN.out.1; omega
      have hkz : (k : Int) < l.length := by omega
      have hk4 : k < 4 := by omega
      have hkz4 : (k : Int) < 4 := by omega
      have hk0 : (0 : Int) ≤ k := by omega
      have hrow : okRow (rowAt ws k) := HG.out.2.1 _ (by simp only [rowAt, List.getElem?_eq_getElem hk, Option.getD_some]; exact List.getElem_mem hk)
      have hbd := hourBk_bnd (b := b) h1 h2 HG.out.2.2.1 HG.out.1.bs HG.out.1.n4 HG.out.2.1 k
      have hsu := hourBk_succ s sp b ws hk
      have hFb := fun i => inFl_bnd h1 h2 HG.out.2.2.1 HG.out.1.bs hrow i
      have hcl := HFL.out k (w.heap.size + 1) wr hk hC.out.bel hC.out.b3
      rw [← HD.out.2.2.1] at hFb hcl hbd
      have hold : ∀ j, j < 6 → old[k * 6 + j]?.getD 0 = atR (rowAt ws k) j := fun j hj => by rw [HD.out.1, wallL_at ws k j hk4 hj]; rfl
      have hnew : ∀ j, j < 6 → new[k * 6 + j]?.getD 0 = atR (rowAt ws k) j + (inFl s sp (rowAt ws k) j - inFl s sp (rowAt ws k) (j + 1)) := fun j hj => by rw [HD.out.2.1]; exact wallL_new s sp hk hk4 hj
      have hrb : ∀ j, 0 ≤ atR (rowAt ws k) j ∧ atR (rowAt ws k) j ≤ 10000 := fun j => ⟨hrow.b0 j, hrow.b1 j⟩
      have hFb2 : ∀ i, -2500 ≤ inFl s sp (rowAt ws k) i ∧ inFl s sp (rowAt ws k) i ≤ 2500 := fun i => by
        have := hFb i; have := hrb i; omega
      generalize inFl s sp (rowAt ws k) = F at hsu hcl hnew hFb2
      generalize atR (rowAt ws k) = r at hold hnew hrb
      have hF7l : (ints ((List.range 7).map F)).length = 7 := by simp [ints]
      have hF7 : ∀ i, i < 7 → (ints ((List.range 7).map F))[i]? = some (.int .i64 (F i)) := fun i hi => by simp [ints, List.getElem?_range hi]
      have hF7o := oneCells_ints ((List.range 7).map F)
      generalize ints ((List.range 7).map F) = F7 at hcl hF7 hF7l hF7o
      have hf0 := hFb2 0
      have hbb := HG.out.2.2.2
      have hbb0 := HG.out.1.b0
      simp only at hbb0
      have hmid : bw t P (hourBk s sp b ws (k + 1)) (midL old new (k * 6)) = (bw t P (hourBk s sp b ws k) (midL old new (k * 6))).set 1 (.int .i64 (hourBk s sp b ws k - F 0)) := by rw [bw_b, hsu]
      have hb6 := hC.out.b6
      have hN1 : (bw t P (hourBk s sp b ws k) (midL old new (k * 6))).toArray[1]? = some (.int .i64 (hourBk s sp b ws k)) := rfl
      have hNl : 1 < (bw t P (hourBk s sp b ws k) (midL old new (k * 6))).length := by simp [bw]
      have hC' := hC.out
      generalize bw t P (hourBk s sp b ws k) (midL old new (k * 6)) = N at hmid hN1 hNl hC hb6 hC'
      generalize hourBk s sp b ws k = bk at hmid hN1 hbd
      have HX := Lib.hid (And.intro hcl (And.intro hF7l (And.intro hF7 (And.intro hF7o (And.intro hmid (And.intro hN1 hNl))))))
      have HY := Lib.hid (And.intro hold (And.intro hnew (And.intro hrb hFb2)))
      clear hcl hF7l hF7 hF7o hmid hN1 hNl hold hnew hrb hFb2 hFb hrow hsu hb6 hC'
      go_wp2_with (first
        | (show wpList _ _ _ (Oper.mk (some 19) _ _ _ _ _ :: _) _ _
           refine wpList_load_blk 152 (.tmp 2) rfl rfl rfl hC.out.b2 V (fun j v hj => by rw [Nat.zero_add, List.getElem?_toArray]; exact hj) (by rw [HL.out.2.2.2.1]; exact rowBatch) ?_)
        | (go_at_call 179; refine HX.out.1.mono ?_; rintro e w5 ⟨rfl, hB5⟩
           have H5 := Lib.hid (hC.out.next hB5)
           clear hB5)
        | (show wpList _ _ _ (Oper.mk none (Op.store _ (Operand.tmp 8) (Operand.tmp 22)) _ _ _ _ :: _) _ _
           refine wpList_store_blk 136 (.tmp 8) (.tmp 22) (cs := F7) (L := List.replicate 7 (.int .i64 0)) rfl rfl rfl rfl rfl (alloc_at0 _ _) (by rw [HX.out.2.1]; simp) HX.out.2.2.2.1 (by rw [HX.out.2.1]; exact row7) ?_
           intro w6 hP6 hM6
           rw [splice_whole (by rw [HX.out.2.1]; rfl)] at hM6
           have h6 := (H5.out.next (grow1 w5 _)).far (by have := H5.out.sz; omega) hP6
           have hcf := (cell_of_row w6 w5.heap.size 0 _ _ _ hM6).trans ((List.getElem?_toArray ..).trans (HX.out.2.2.1 0 (by omega)))
           have hcn := (cell_of_row w6 (w.heap.size + 1 + 1 + 1) 1 _ _ _ h6.b6).trans HX.out.2.2.2.2.2.1
           have H6 := Lib.hid (And.intro h6 hM6)
           clear hP6 hM6 h6)
        | (show wpList _ _ _ (Oper.mk none (Op.store _ (Operand.tmp 30) (Operand.tmp 28)) _ _ _ _ :: _) _ _
           refine wpList_store_one 3 (.tmp 30) (.tmp 28) rfl rfl rfl rfl rfl H6.out.1.b6 HX.out.2.2.2.2.2.2 (by kernel_rfl) ?_
           intro w7 hP7 hM7
           rw [← HX.out.2.2.2.2.1] at hM7
           have h7 := H6.out.1.put hP7.grown hM7
           have hM7f := (hP7.other w5.heap.size (by have := H5.out.sz; omega)).trans H6.out.2
           have H7 := Lib.hid (And.intro h7 hM7f)
           clear hP7 hM7 h7 hM7f hcf hcn))
      obtain ⟨wo, rfl⟩ : ∃ wo : World, wo = wr := ⟨_, rfl⟩
      clear hC
      go_loopg [31] 6 (fun gh s31 wx => ∃ j : Nat, j + gh = 6 ∧ s31 = .int .i64 j ∧ Hid (LtC w V sp (bw t P (hourBk s sp b ws (k + 1)) (midL old new (k * 6 + j))) wx) ∧ Hid (wx.heap[w5.heap.size]? = some (.cells F7.toArray 136 (0, 0))))
      case atStart => exact ⟨0, rfl, rfl, H7.out.1, H7.out.2⟩
      case round =>
        obtain ⟨j, hjg, rfl, hCj, hFj⟩ := hrel
        cases gk with
        | zero =>
          obtain rfl : j = 6 := by omega
          go_wp2
          go_roundg gg
          case measure => omega
          case rel => exact ⟨k + 1, by omega, by go_num, by rw [show (k + 1) * 6 = k * 6 + 6 by omega]; exact hCj.out⟩
        | succ gh =>
          have hj : j < 6 := by omega
          have hjz : (j : Int) < 6 := by omega
          have hjz7 : (j : Int) < 7 := by omega
          have hjz8 : (j : Int) + 1 < 7 := by omega
          have hj0 : (0 : Int) ≤ j := by omega
          have hmn : k * 6 + j < new.length := by rw [HL.out.2.1]; omega
          have hlon : old.length = new.length := by rw [HL.out.1, HL.out.2.1]
          have hml := midL_len hlon (k * 6 + j)
          have hat := bw_at t P (hourBk s sp b ws (k + 1)) (midL old new (k * 6 + j)) (k * 6 + j) (by rw [hml]; exact hmn)
          rw [midL_at hmn, HY.out.1 j hj, ← Nat.add_assoc] at hat
          have hset := bw_set t P (hourBk s sp b ws (k + 1)) (new[k * 6 + j]?.getD 0) (midL old new (k * 6 + j)) (k * 6 + j)
          rw [midL_set hlon hmn, HY.out.2.1 j hj, ← Nat.add_assoc] at hset
          have hlen := bw_len t P (hourBk s sp b ws (k + 1)) (midL old new (k * 6 + j)) (by rw [hml, HL.out.2.1])
          have f0 := HX.out.2.2.1 j (by omega)
          have f1 := HX.out.2.2.1 (j + 1) (by omega)
          have r0 := HY.out.2.2.1 j
          have b0 := HY.out.2.2.2 j
          have b1 := HY.out.2.2.2 (j + 1)
          have hb6 := hCj.out.b6
          generalize bw t P (hourBk s sp b ws (k + 1)) (midL old new (k * 6 + j)) = M at hat hset hlen hb6 hCj
          generalize hMe : bw t P (hourBk s sp b ws (k + 1)) (midL old new (k * 6 + j + 1)) = M' at hset
          have HME := Lib.hid hMe
          clear hMe
          generalize r j = c at hat hset r0
          generalize F j = x at f0 b0 hset
          generalize F (j + 1) = y at f1 b1 hset
          have hone : OneW wr (w.heap.size + 1 + 1 + 1) (.cells M.toArray 152 (0, 0)) (.cells M'.toArray 152 (0, 0)) 18 (fun _ => false) (fun _ => undef) wr.drew := OneW.start hb6 rfl
          have hlt5 : w.heap.size + 4 ≤ w5.heap.size := H5.out.sz
          have v1 : IntKind.i64.wrap ((j : Int) + 1) = (j : Int) + 1 := IntWalk.i64_in _ (by omega)
          have v2 : IntKind.i64.wrap (x - y) = x - y := IntWalk.i64_in _ (by omega)
          have v3 : IntKind.i64.wrap (c + (x - y)) = c + (x - y) := IntWalk.i64_in _ (by omega)
          have v4 : ((j : Int) + 1).toNat = j + 1 := by omega
          have v5 : (0 : Int) ≤ (j : Int) + 1 := by omega
          have HONE := Lib.hid hone
          have HM := Lib.hid (And.intro hat (And.intro hset hlen))
          have HF := Lib.hid (And.intro f0 f1)
          clear hone hat hset hlen f0 f1 hb6 hml hlon hmn
          go_wp2
          refine R6.wp_walk (C := OneW wr (w.heap.size + 1 + 1 + 1) (.cells M.toArray 152 (0, 0)) (.cells M'.toArray 152 (0, 0)) 18) 55 (by kernel_rfl) (by kernel_rfl) rfl ⟨HONE.out.gb, HONE.out.lt, HONE.out.no, HONE.out.yes⟩ ?_
          simp only []
          repeat (first
            | (refine' R6.WalkR.det (fun _ => rfl) (fun D ρ W hK hC => ?_) ?_
               rotate_left
               · have h18 := hK.post 18 (by first | exact needs_edge (by decide +kernel) | decide +kernel)
                 have hcm := (cell_of_row W (w.heap.size + 1 + 1 + 1) (6 + k * 6 + j) _ _ _ (hC.no h18)).trans ((List.getElem?_toArray ..).trans HM.out.1)
                 have hbf := (hC.other (lt_of_heap hFj.out) (by omega)).trans hFj.out
                 have hcf0 := (cell_of_row W w5.heap.size j _ _ _ hbf).trans ((List.getElem?_toArray ..).trans HF.out.1)
                 have hcf1 := (cell_of_row W w5.heap.size (j + 1) _ _ _ hbf).trans ((List.getElem?_toArray ..).trans HF.out.2)
                 have HC := Lib.hid hC
                 clear hC hK
                 go_simp
                 first
                   | with_reducible exact ⟨rfl, HC.out.move rfl⟩
                   | fail
               simp only [Act.put, List.setIfInBounds_toArray, List.set_cons_succ, List.set_cons_zero]))
          refine' R6.WalkR.det (c := undef) (fun _ => rfl) (fun D ρ W hK hC => ?_) ?_
          · have h18 := hC.no hK.me
            have HC := Lib.hid hC
            clear hC hK
            refine gives_store_one 3 (.tmp 51) (.tmp 48) rfl rfl rfl h18 (by rw [HM.out.2.2]; omega) (by kernel_rfl) ?_
            intro W1 hP hM1
            rw [HM.out.2.1] at hM1
            exact ⟨rfl, HC.out.put hP hM1⟩
          simp only [Act.put]
          refine R6.WalkR.nil (fun D ρ W hD' hC => ?_)
          have hL2 := hCj.out.put hC.gb (hC.yes (hD' 18 (by decide)))
          have hF2 := (hC.other (lt_of_heap hFj.out) (by omega)).trans hFj.out
          have HL2 := Lib.hid (And.intro hL2 hF2)
          clear hC hD' hL2 hF2
          go_wp2
          go_roundg gh
          case measure => omega
          case rel => exact ⟨j + 1, by omega, by go_num, by rw [← Nat.add_assoc, HME.out]; exact HL2.out.1, HL2.out.2⟩

end Go.Proofs.YtpnnlmaipcjkmaaGreat

namespace Go.Proofs.YtpnnlmaipcjkmaaGreat
open Go.RowKit

theorem part_int (w : World) (A : List Int) (i : Nat) (h : i < A.length) : (part 3 (ints A).toArray i).run Tryz.prog w = .ok (.int .i64 (A[i]?.getD 0)) w := by
  have e : (ints A).toArray[i]? = some (.int .i64 (A[i]?.getD 0)) := ints_at A i h
  unfold part
  simp only [isAgg, Sem.run_bind, run_underlying Tryz.underlying3, Result.andThen_ok, Sem.run_pure, e]
  rfl
theorem sizeWall : ∃ i, Tryz.prog.info? 149 = some i ∧ i.size = 6 := by
  have h : (Tryz.prog.info? 149).map (·.size) = some 6 := by kernel_rfl
  cases hq : Tryz.prog.info? 149 with
  | none => rw [hq] at h; cases h
  | some i => rw [hq] at h; exact ⟨i, rfl, by simpa using h⟩
theorem sizeInt : ∃ i, Tryz.prog.info? 3 = some i := by
  have h : (Tryz.prog.info? 3).map (·.size) = some 1 := by kernel_rfl
  cases hq : Tryz.prog.info? 3 with
  | none => rw [hq] at h; cases h
  | some i => exact ⟨i, rfl⟩
theorem cellsInt : Tryz.prog.cellsOf 3 = 1 := by kernel_rfl
theorem cellsWall : Tryz.prog.cellsOf 149 = 6 := by kernel_rfl
def blk6 (A : List Int) (i : Nat) : List Int := (A.drop (i * 6)).take 6
theorem part_wall (w : World) (A : List Int) (i : Nat) : (part 149 (ints A).toArray (i * 6)).run Tryz.prog w = .ok (.agg (ints (blk6 A i)).toArray) w := by
  have e : List.take 6 (List.drop (i * 6) (ints A)) = ints (blk6 A i) := by simp [blk6, ints, List.map_drop, List.map_take]
  unfold part
  simp [isAgg, run_underlying Tryz.underlying149, e]

theorem eqItems_ints (w : World) (d : Nat) (A B : List Int) : ∀ is : List Nat, (∀ i ∈ is, i < A.length ∧ i < B.length) →
    (Op.eqItems (d + 1) 3 1 (ints A).toArray (ints B).toArray is).run Tryz.prog w = .ok (is.all fun i => A[i]?.getD 0 == B[i]?.getD 0) w
  | [], _ => by simp [Op.eqItems]
  | i :: is, h => by
    obtain ⟨h1, h2⟩ := h i (List.mem_cons_self ..)
    have ih := eqItems_ints w d A B is (fun x hx => h x (List.mem_cons_of_mem _ hx))
    have p1 := part_int w A i h1
    have p2 := part_int w B i h2
    simp only [Op.eqItems, Nat.mul_one, Sem.run_bind, p1, p2, run_equalIn_int w d 3 .i64 .i64 _ _ Tryz.underlying3, Result.andThen_ok]
    cases hq : (A[i]?.getD 0 == B[i]?.getD 0)
    · simp [hq]
    · simp only [Bool.not_true, Bool.false_eq_true, if_false, List.all_cons, hq, Bool.true_and]
      exact ih
theorem equal_wall (w : World) (d : Nat) (A B : List Int) (ha : A.length = 6) (hb : B.length = 6) :
    (Op.equalIn (d + 2) 149 (.agg (ints A).toArray) (.agg (ints B).toArray)).run Tryz.prog w = .ok (A == B) w := by
  obtain ⟨j, hj⟩ := sizeInt
  rw [run_equalIn_array w (d + 1) _ _ Tryz.underlying149 hj, cellsInt, eqItems_ints w d A B _ (fun i hi => by have := List.mem_range.1 hi; omega)]
  refine congrArg (fun b => Result.ok b w) ?_
  rw [Bool.eq_iff_iff]
  simp only [List.all_eq_true, List.mem_range, beq_iff_eq]
  constructor
  · intro h
    apply List.ext_getElem (by omega)
    intro i h1 h2
    have := h i (by omega)
    simpa [h1, h2] using this
  · rintro rfl i _
    rfl
theorem blk6_len {A : List Int} (h : A.length = 24) {i : Nat} (hi : i < 4) : (blk6 A i).length = 6 := by simp [blk6]; omega
theorem eqItems_walls (w : World) (d : Nat) (A B : List Int) (ha : A.length = 24) (hb : B.length = 24) : ∀ is : List Nat, (∀ i ∈ is, i < 4) →
    (Op.eqItems (d + 2) 149 6 (ints A).toArray (ints B).toArray is).run Tryz.prog w = .ok (is.all fun i => blk6 A i == blk6 B i) w
  | [], _ => by simp [Op.eqItems]
  | i :: is, h => by
    have h1 := h i (List.mem_cons_self ..)
    have ih := eqItems_walls w d A B ha hb is (fun x hx => h x (List.mem_cons_of_mem _ hx))
    simp only [Op.eqItems, Sem.run_bind, part_wall, equal_wall w d _ _ (blk6_len ha h1) (blk6_len hb h1), Result.andThen_ok]
    cases hq : (blk6 A i == blk6 B i)
    · simp [hq]
    · simp only [Bool.not_true, Bool.false_eq_true, if_false, List.all_cons, hq, Bool.true_and]
      exact ih
theorem eql_walls (w : World) (A B : List Int) (ha : A.length = 24) (hb : B.length = 24) :
    (binOp .eql 150 (.agg (ints A).toArray) (.agg (ints B).toArray)).run Tryz.prog w = .ok (.bool (A == B)) w := by
  obtain ⟨j, hj, hs⟩ := sizeWall
  rw [run_eql_struct, run_equalIn_array w 9999 _ _ Tryz.underlying150 hj, cellsWall, eqItems_walls w 9997 A B ha hb _ (fun i hi => by have := List.mem_range.1 hi; omega)]
  simp only [Result.andThen_ok]
  refine congrArg (fun b => Result.ok (Value.bool b) w) ?_
  rw [Bool.eq_iff_iff]
  simp only [List.all_eq_true, List.mem_range, beq_iff_eq]
  constructor
  · intro h
    apply List.ext_getElem (by omega)
    intro i h1 h2
    have := congrArg (fun l : List Int => l[i % 6]?) (h (i / 6) (by omega))
    simp only [blk6, List.getElem?_take, List.getElem?_drop, Nat.mod_lt i (show 0 < 6 by omega), if_true] at this
    rw [show i / 6 * 6 + i % 6 = i by omega] at this
    simpa [h1, h2] using this
  · rintro rfl i _
    rfl

end Go.Proofs.YtpnnlmaipcjkmaaGreat
