/-
  Texts laid together: CeB, CeC, FuE, FuF.
-/
import Derived.Test.YtjjipkgconmfcaaB99
import Derived.Test.YtjjipkgconmfcaaB98
set_option linter.all false
namespace Go.Proofs.Ytjjipkgconmfcaa
open Go.RowKit
open R6 (done done_ne done_me upd_ne upd_me)

attribute [local go_sem] gives

/-- A slice of numbers as it lies. -/
structure Sl where
  A : Option Addr
  c : Nat
  zs : List Int
def slv (s : Sl) : Value := .slice s.A s.zs.length s.c
def slvs (l : List Sl) : List Value := l.map slv
def rws (l : List Sl) : List (List Int) := l.map (·.zs)
structure Rows (w : World) (B : Nat) (A : Option Addr) (l : List Sl) : Prop where
  va : Vals w B A (slvs l)
  each : ∀ s ∈ l, Ints w B s.A s.zs
theorem Rows.below {w w' : World} {B : Nat} {A : Option Addr} {l : List Sl} (h : Rows w B A l) (hb : Below B w w') : Rows w' B A l := ⟨h.va.below hb, fun s hs => (h.each s hs).below hb⟩
theorem Rows.mono {w : World} {B B' : Nat} {A : Option Addr} {l : List Sl} (h : Rows w B A l) (hB : B ≤ B') : Rows w B' A l := ⟨h.va.mono hB, fun s hs => (h.each s hs).mono hB⟩
theorem slvs_len (l : List Sl) : (slvs l).length = l.length := by simp [slvs]
theorem slvs_at (l : List Sl) (k : Nat) (hk : k < l.length) : (slvs l)[k]? = some (slv l[k]) := by simp [slvs, hk]

def okPole (zs : List Int) : Bool := allB 1 6 [(zs.length : Int)] && allB 0 1000 zs

/-- No slice is greater than memory. -/
def shortL (l : List Sl) : Prop := l.length ≤ 1000000 ∧ ∀ s ∈ l, s.zs.length ≤ 1000000

theorem any_rows (l : List Sl) : (l.any fun s : Sl => !okPole s.zs) = !(rws l).all okPole := by
  induction l with
  | nil => rfl
  | cons a l ih => simp only [List.any_cons, rws, List.map_cons, List.all_cons, Bool.not_and]; rw [ih]; rfl

/-- A box, and the lists of one number that a region makes: (operation, slot); f: which number. -/
structure BoxL (w0 : World) (x : Nat) (cs : Array Value) (ty : TypeId) (L : List (Nat × Nat)) (f : Nat → Int) (D : Nat → Bool) (σ : Nat → Value) (W : World) : Prop where
  bel : Below w0.heap.size w0 W
  box : W.heap[x]? = some (.cells cs ty (0, 0))
  new : ∀ e ∈ L, D e.1 = true → ∃ b, σ e.2 = .slice (some ⟨b, 0, none⟩) 1 1 ∧ W.heap[b]? = some (.cells #[.int .i64 (f e.1)] 3 (0, 0))
def boxLK (L : List (Nat × Nat)) (k : Nat) (d : Option Nat) : Bool := L.all fun e => !(k == e.1 || d == some e.2)
def boxLM (L : List (Nat × Nat)) (k t : Nat) : Bool := L.all fun e => e == (k, t) || !(k == e.1 || t == e.2)
section
variable {w0 W W' : World} {x : Nat} {cs : Array Value} {ty : TypeId} {L : List (Nat × Nat)} {f : Nat → Int} {D : Nat → Bool} {σ : Nat → Value}
theorem BoxL.move {k : Nat} {d : Option Nat} {v : Value} (h : BoxL w0 x cs ty L f D σ W) (hk : boxLK L k d = true) : BoxL w0 x cs ty L f (done D k) (R4.upd σ d v) W := by
  refine ⟨h.bel, h.box, fun e he hD => ?_⟩
  have hk' := List.all_eq_true.1 hk e he
  simp only [Bool.not_eq_true', Bool.or_eq_false_iff, beq_eq_false_iff_ne, ne_eq] at hk'
  rw [done_ne (by omega)] at hD
  rw [upd_ne hk'.2]
  exact h.new e he hD
theorem BoxL.next (h : BoxL w0 x cs ty L f D σ W) (hg : Grows W W') : BoxL w0 x cs ty L f D σ W' :=
  ⟨h.bel.trans (hg.mono h.bel.size), (hg.block _ (lt_of_heap h.box)).trans h.box, fun e he hD => let ⟨b, h1, h2⟩ := h.new e he hD; ⟨b, h1, (hg.block _ (lt_of_heap h2)).trans h2⟩⟩
theorem BoxL.made {k t : Nat} {n : Int} (h : BoxL w0 x cs ty L f D σ W) (hk : boxLM L k t = true) (hn : f k = n) : BoxL w0 x cs ty L f (done D k) (R4.upd σ (some t) (.slice (some ⟨W.heap.size, 0, none⟩) 1 1)) (W.alloc (.cells #[.int .i64 n] 3)) := by
  subst hn
  have h' := h.next (grow1 W (.cells #[.int .i64 (f k)] 3))
  refine ⟨h'.bel, h'.box, fun e he hD => ?_⟩
  have hk' := List.all_eq_true.1 hk e he
  by_cases he2 : e = (k, t)
  · subst he2
    exact ⟨_, upd_me, alloc_at0 _ _⟩
  · simp only [Bool.or_eq_true, Bool.not_eq_true', Bool.or_eq_false_iff, beq_eq_false_iff_ne, ne_eq, beq_iff_eq, he2, false_or] at hk'
    rw [done_ne (by omega)] at hD
    rw [upd_ne (by simpa using hk'.2)]
    exact h'.new e he hD
theorem BoxL.start (hb : W = w0.alloc (.cells cs ty)) (hD : ∀ k, D k = false) : BoxL w0 w0.heap.size cs ty L f D σ W.drew := by
  subst hb
  exact ⟨((Below.refl _ _).alloc (Nat.le_refl _) _).drew, alloc_at0 _ _, fun e _ h => by rw [hD] at h; cases h⟩
end

/-- One operation waits for another one at once. -/
def edgeB (ops : Array Oper) (i j : Nat) : Bool := match ops[i]? with
  | none => false
  | some o => o.after.any fun e => Region.binds .any e && e.on == j
theorem needs_edge {ops : Array Oper} {i j : Nat} (h : edgeB ops i j = true) : R6.needsI ops ops.size i j = true := by
  unfold edgeB at h
  cases ho : ops[i]? with
  | none => rw [ho] at h; cases h
  | some o =>
    rw [ho] at h
    have hs : ops.size ≠ 0 := fun e => by
      have := (Array.getElem?_eq_some_iff.1 ho).1
      omega
    obtain ⟨f, hf⟩ := Nat.exists_eq_succ_of_ne_zero hs
    rw [hf]
    unfold R6.needsI
    simp only [ho]
    simp only [Array.any_eq_true] at h ⊢
    obtain ⟨x, hx, hb⟩ := h
    refine ⟨x, hx, ?_⟩
    simp only [Bool.and_eq_true] at hb ⊢
    exact ⟨hb.1, by simp [hb.2]⟩

def btcells (t : Bt) (P : Value) : Array Value := #[.int .i64 t.water, .int .i64 t.borax, P, .int .i64 t.lo, .int .i64 t.hi, .int .i64 t.need]
def okHead (t : Bt) (n : Nat) : Bool := allB 10 10000 [t.water] && allB 0 100000 [t.borax] && allB 1 4 [(n : Int)]
def okBatch (t : Bt) (ws : List (List Int)) : Bool := okHead t ws.length && ws.all okPole && okS t.lo t.hi 1 250 && allB 1 1000 [t.need]
def numB (t : Bt) (n : Nat) : Nat → Int := fun k => if k = 3 then t.water else if k = 9 then t.borax else if k = 17 then (n : Int) else t.need

end Go.Proofs.Ytjjipkgconmfcaa

namespace Go.Proofs.Ytjjipkgconmfcaa
open Go.RowKit
open R6 (done done_ne done_me upd_ne upd_me)

attribute [local go_sem] gives

section
variable {P : Program} {ops : Array Oper} {rest : List Oper} {op : Oper} {a : Act} {w : World} {Q : Exit → Act → World → Prop}
/-- One cell stored into a block. -/
theorem wpList_store_one (ty : TypeId) (x y : Operand) (hgd : op.guard = none) (ho : op.op = .store ty x y) (hd : op.dst = none) {b o : Nat} (hx : a.eval x = .pointer (some ⟨b, o, none⟩)) {z : Int} (hy : a.eval y = .int .i64 z)
    {L : List Value} {t : TypeId} (hb : w.heap[b]? = some (.cells L.toArray t (0, 0))) (hfit : o < L.length) (hty : (P.info? ty).map (·.size) = some 1)
    (h : ∀ w', Put w w' b → w'.heap[b]? = some (.cells (L.set o (.int .i64 z)).toArray t (0, 0)) → wpList P ops Q rest a w') : wpList P ops Q (op :: rest) a w := by
  refine wpList_plain hgd fun K hK => ?_
  have hrun := run_store_one (P := P) (v := .int .i64 z) hb hfit rfl rfl hty
  unfold Oper.wp execOp
  simp only [ho, hx, hy, Sem.run_bind, Sem.run_pure, hrun, Result.andThen_ok]
  refine hK _ _ ?_
  rw [hd]
  refine h _ (put_setCells b [.int .i64 z] o w) ?_
  have := heap_setCell_same w b o _ _ (.int .i64 z) hb
  rwa [List.setIfInBounds_toArray] at this
end

/-- A result that is handed back out of a block. -/
theorem results_cell {P : Program} {fn : Func} {tmps : Array Value} {w : World} {t b : Nat} {ty tt : TypeId} {cs : List Value} {fr : Nat × Nat} (hr : fn.results = #[.cell t ty]) (ht : tmps.getD t undef = .pointer (some ⟨b, 0, none⟩))
    (hb : w.heap[b]? = some (.cells cs.toArray tt fr)) (hty : RowTy P ty cs.length) : (results fn tmps).run P w = .ok (.agg cs.toArray) w := by
  obtain ⟨⟨d, hu, hd⟩, hi⟩ := hty
  have hl := run_loadVar_mid (P := P) w b 0 ty cs d (fun j v hv => by
    rw [Nat.zero_add, cell_of_row w b j _ _ _ hb, List.getElem?_toArray]; exact hv) hu hd hi
  rw [Array.getD_eq_getD_getElem?] at ht
  unfold results
  rw [hr]
  simp [ht, asAddr, hl]

/-- The cells of a batch at work. -/
def bv (t : Bt) (P : Value) (b : Int) (ws : List (List Int)) : List Value := [.int .i64 t.water, .int .i64 b, P, .int .i64 t.lo, .int .i64 t.hi, .int .i64 t.need] ++ ints (wallL ws)
theorem bv_len (t : Bt) (P : Value) (b : Int) (ws : List (List Int)) : (bv t P b ws).length = 30 := by simp [bv, ints, wallL_len]
theorem bv_at (t : Bt) (P : Value) (b : Int) (ws : List (List Int)) (p c : Nat) (hp : p < 4) (hc : c < 6) : (bv t P b ws)[6 + p * 6 + c]? = some (.int .i64 (atR (rowAt ws p) c)) := by
  unfold bv
  rw [List.getElem?_append_right (by simp; omega)]
  simp only [List.length_cons, List.length_nil, ints, List.getElem?_map]
  rw [show 6 + p * 6 + c - (0 + 1 + 1 + 1 + 1 + 1 + 1) = p * 6 + c by omega, wallL_at ws p c hp hc]
  rfl
theorem bv_one (t : Bt) (A : Option Addr) (n c : Nat) (b : Int) (ws : List (List Int)) : ∀ v ∈ bv t (.slice A n c) b ws, v.oneCell' = true := by
  intro v hv
  simp only [bv, List.mem_append, List.mem_cons, List.not_mem_nil, or_false] at hv
  rcases hv with (rfl | rfl | rfl | rfl | rfl | rfl) | hv
  all_goals first | rfl | exact oneCells_ints _ v hv
/-- What flows into each cell, as far as it is told. -/
def partL (s sp : Int) (r : List Int) (k : Nat) : List Int := (List.range 7).map fun i => if i < k then inFl s sp r i else 0
theorem partL_len (s sp : Int) (r : List Int) (k : Nat) : (partL s sp r k).length = 7 := by simp [partL]
theorem partL_set (s sp : Int) (r : List Int) (k : Nat) : (ints (partL s sp r k)).set k (.int .i64 (inFl s sp r k)) = ints (partL s sp r (k + 1)) := by
  unfold ints partL
  rw [List.map_map, List.map_map]
  apply List.ext_getElem (by simp)
  intro i h1 h2
  simp only [List.getElem_set, List.getElem_map, List.getElem_range, Function.comp_apply]
  by_cases e : k = i
  · subst e; simp
  · rw [if_neg e]
    by_cases h : i < k
    · rw [if_pos h, if_pos (by omega)]
    · rw [if_neg h, if_neg (by omega)]
theorem partL_end (s sp : Int) (r : List Int) (k : Nat) (h : r.length ≤ k) : partL s sp r k = (List.range 7).map (inFl s sp r) := by
  unfold partL
  apply List.map_congr_left
  intro i _
  by_cases hi : i < k
  · rw [if_pos hi]
  · rw [if_neg hi]; simp [inFl, show ¬ i < r.length by omega]

/-- What lies outside of a cell. -/
def outK (s : Int) (r : List Int) (k : Nat) : Int := if k = 0 then s else atR r (k - 1)

end Go.Proofs.Ytjjipkgconmfcaa

namespace Go.Proofs.Ytjjipkgconmfcaa
open Go.RowKit
open R6 (done done_ne done_me upd_ne upd_me)

attribute [local go_sem] gives

theorem rowAir : RowTy Try.prog 86 2 := ⟨⟨_, Try.underlying86, rfl⟩, by kernel_rfl⟩

set_option maxRecDepth 100000 in
set_option maxHeartbeats 4000000 in
theorem tones_any (a s : Int × Int) (ha : 50 ≤ a.1 ∧ a.1 ≤ a.2 ∧ a.2 ≤ 30000) (hs : 0 ≤ s.1 ∧ s.1 ≤ 500000 ∧ 0 ≤ s.2 ∧ s.2 ≤ 500000) (w : World) :
    Calls Try.prog 73 #[.agg #[.int .i64 a.1, .int .i64 a.2], .agg #[.int .i64 s.1, .int .i64 s.2]] w fun e w' => e = .returned (.agg #[.int .i64 (tonA s.1 s.2 a).1, .int .i64 (tonA s.1 s.2 a).2]) ∧ Below w.heap.size w w' := by
  obtain ⟨a0, a1⟩ := a
  obtain ⟨s0, s1⟩ := s
  simp only [tonA] at ha hs ⊢
  have HT1 := Lib.hid (fun W => tone_any s0 a1 (by omega) (by omega) (by omega) (by omega) W)
  have HT2 := Lib.hid (fun W => tone_any s1 a0 (by omega) (by omega) (by omega) (by omega) W)
  clear ha hs
  obtain ⟨w3, hw3⟩ : ∃ w3, ((w.alloc (.cells #[.int .i64 a0, .int .i64 a1] 86)).alloc (.cells #[.int .i64 s0, .int .i64 s1] 25)).alloc (.cells #[.int .i64 0, .int .i64 0] 25) = w3 := ⟨_, rfl⟩
  have hb : Below w.heap.size w w3 := by rw [← hw3]; exact (((Below.refl _ _).alloc (Nat.le_refl _) _).alloc (by simp) _).alloc (by simp; omega) _
  have m0 : w3.heap[w.heap.size]? = some (.cells #[.int .i64 a0, .int .i64 a1] 86 (0, 0)) := by rw [← hw3]; exact alloc3_at0 _ _ _ _
  have m1 : w3.heap[w.heap.size + 1]? = some (.cells #[.int .i64 s0, .int .i64 s1] 25 (0, 0)) := by rw [← hw3]; exact alloc3_at1 _ _ _ _
  have m2 : w3.heap[w.heap.size + 1 + 1]? = some (.cells #[.int .i64 0, .int .i64 0] 25 (0, 0)) := by rw [← hw3]; exact alloc3_at2 _ _ _ _
  have HM := Lib.hid (And.intro hb (And.intro m0 (And.intro m1 m2)))
  generalize 500 * s0 / a1 = t0 at HT1 ⊢
  generalize 500 * s1 / a0 = t1 at HT2 ⊢
  clear hb m0 m1 m2
  go_enter Try.func73, Try.ntmps73
  go_wp2
  refine R6.wp_walk (C := OneW w3 (w.heap.size + 1 + 1) (.cells #[.int .i64 0, .int .i64 0] 25 (0, 0)) (.cells #[.int .i64 t0, .int .i64 t1] 25 (0, 0)) 13) 18 (by kernel_rfl) (by kernel_rfl) rfl (OneW.start HM.out.2.2.2 rfl) ?_
  simp only []
  iterate 13
    (refine' R6.WalkR.det (fun _ => rfl) (fun D ρ W hK hC => ?_) ?_
     rotate_left
     · have f0 := fun i => cell_of_row W w.heap.size i _ _ _ ((hC.other (lt_of_heap HM.out.2.1) (by omega)).trans HM.out.2.1)
       have f1 := fun i => cell_of_row W (w.heap.size + 1) i _ _ _ ((hC.other (lt_of_heap HM.out.2.2.1) (by omega)).trans HM.out.2.2.1)
       have HC := Lib.hid hC
       clear hC hK
       go_simp
       first
         | with_reducible exact ⟨rfl, HC.out.move rfl⟩
         | (go_at_call 91; refine (HT1.out W).mono ?_; rintro e W1 ⟨rfl, rfl⟩; exact ⟨_, rfl, rfl, HC.out.move rfl⟩)
         | (go_at_call 91; refine (HT2.out W).mono ?_; rintro e W1 ⟨rfl, rfl⟩; exact ⟨_, rfl, rfl, HC.out.move rfl⟩)
     simp only [Act.put, List.setIfInBounds_toArray, List.set_cons_succ, List.set_cons_zero])
  refine' R6.WalkR.det (c := undef) (fun _ => rfl) (fun D ρ W hK hC => ?_) ?_
  · have h7 := hC.no hK.me
    refine gives_store_blk 25 (.tmp 4) (.tmp 17) rfl rfl (cs := [.int .i64 t0, .int .i64 t1]) (L := [.int .i64 0, .int .i64 0]) rfl h7 (Nat.le_refl 2) (by simp [Value.oneCell']) rowSpan ?_
    intro W1 hP hM
    exact ⟨rfl, hC.put hP hM⟩
  simp only [Act.put]
  refine R6.WalkR.nil (fun D ρ W hD hC => ?_)
  have hM7 := hC.yes (hD 13 (by decide))
  have hB7 := HM.out.1.grown hC.gb HM.out.1.size (fun k e => by cases e; omega)
  have H7 := Lib.hid (And.intro hM7 hB7)
  have hc7 := fun i => cell_of_row W (w.heap.size + 1 + 1) i _ _ _ hM7
  clear hC hD hM7 hB7
  go_wp2
  refine bodyPost_ret (v := .agg #[.int .i64 t0, .int .i64 t1]) (by simp [results, Try.results73, go_sem, hc7]) rfl ⟨rfl, H7.out.2⟩

end Go.Proofs.Ytjjipkgconmfcaa

namespace Go.Proofs.Ytjjipkgconmfcaa
open Go.RowKit
open R6 (done done_ne done_me upd_ne upd_me)

attribute [local go_sem] gives

/-- A list of spans that a region makes, and a result that it stores. -/
structure AirC (W0 : World) (g : Nat) (X Y : Obj) (ks kb tb n : Nat) (L : List Value) (D : Nat → Bool) (σ : Nat → Value) (W : World) : Prop where
  one : OneW W0 g X Y ks D σ W
  lt0 : g < W0.heap.size
  new : D kb = true → ∃ b, σ tb = .slice (some ⟨b, 0, none⟩) n n ∧ W0.heap.size ≤ b ∧ W.heap[b]? = some (.cells L.toArray 25 (0, 0))
def airK (ks kb tb k : Nat) (d : Option Nat) : Bool := !(k == ks || k == kb || d == some tb)
section
variable {W0 W W' : World} {g : Nat} {X Y : Obj} {ks kb tb n : Nat} {L : List Value} {D : Nat → Bool} {σ : Nat → Value}
theorem AirC.move {k : Nat} {d : Option Nat} {v : Value} (h : AirC W0 g X Y ks kb tb n L D σ W) (hk : airK ks kb tb k d = true) : AirC W0 g X Y ks kb tb n L (done D k) (R4.upd σ d v) W := by
  simp only [airK, Bool.not_eq_true', Bool.or_eq_false_iff, beq_eq_false_iff_ne, ne_eq] at hk
  have e1 := done_ne (D := D) (k := k) (j := kb) (fun e => hk.1.2 e.symm)
  have u1 := upd_ne (ρ := σ) (v := v) hk.2
  exact ⟨h.one.move (by simpa using hk.1.1), h.lt0, by rw [e1, u1]; exact h.new⟩
theorem AirC.next (h : AirC W0 g X Y ks kb tb n L D σ W) (hg : Grows W W') : AirC W0 g X Y ks kb tb n L D σ W' :=
  ⟨h.one.next hg, h.lt0, fun e => let ⟨b, h1, h2, h3⟩ := h.new e; ⟨b, h1, h2, (hg.block _ (lt_of_heap h3)).trans h3⟩⟩
theorem AirC.made (h : AirC W0 g X Y ks kb tb n L D σ W) (hne : (kb == ks) = false) : AirC W0 g X Y ks kb tb n L (done D kb) (R4.upd σ (some tb) (.slice (some ⟨W.heap.size, 0, none⟩) n n)) (W.alloc (.cells L.toArray 25)) :=
  ⟨(h.one.next (grow1 _ _)).move hne, h.lt0, fun _ => ⟨_, upd_me, h.one.gb.size, alloc_at0 _ _⟩⟩
theorem AirC.put (h : AirC W0 g X Y ks kb tb n L D σ W) (hp : Put W W' g) (hM : W'.heap[g]? = some Y) : OneW W0 g X Y ks (done D ks) σ W' := h.one.put hp hM
theorem AirC.start (hb : W0.heap[g]? = some X) (hD : ∀ k, D k = false) : AirC W0 g X Y ks kb tb n L D σ W0.drew :=
  ⟨OneW.start hb (hD _), lt_of_heap hb, fun e => by rw [hD] at e; cases e⟩
end

theorem sumSp_rep (c : Int × Int) (k : Nat) : sumSp (List.replicate k c) = (k * c.1, k * c.2) := by
  induction k with
  | zero => simp [sumSp]
  | succ k ih =>
    rw [List.replicate_succ', sumSp_snoc, ih]
    simp only [spAdd, Prod.mk.injEq]
    constructor <;> (rw [Int.natCast_succ, Int.add_mul, Int.one_mul])

set_option maxRecDepth 100000 in
set_option maxHeartbeats 4000000 in
theorem closedAir_any (len e0 e1 : Int) (h1 : 0 ≤ len ∧ len ≤ 100000) (h2 : 0 ≤ e0 ∧ e0 ≤ 60) (h3 : 0 ≤ e1 ∧ e1 ≤ 60) (w : World) :
    Calls Try.prog 113 #[.agg #[.int .i64 len, .int .i64 e0, .int .i64 e1]] w fun e w' => e = .returned (.agg #[.int .i64 (len + e0), .int .i64 (len + e1)]) ∧ Below w.heap.size w w' := by
  have hs : sumSp [(len, len), (e0, e1)] = (len + e0, len + e1) := by simp [sumSp, spAdd]
  have hsm : smSp [(len, len), (e0, e1)] := by
    intro x hx
    simp only [List.mem_cons, List.not_mem_nil, or_false] at hx
    rcases hx with rfl | rfl <;> (dsimp only; omega)
  have hsum := fun (W : World) b (hb : W.heap[b]? = some (.cells [Value.int .i64 len, .int .i64 len, .int .i64 e0, .int .i64 e1].toArray 25 (0, 0))) => sum_any [(len, len), (e0, e1)] hsm (by simp) (some ⟨b, 0, none⟩) 2 W.heap.size W (Nat.le_refl _) (vals_in hb (lt_of_heap hb) at0)
  rw [hs] at hsum
  simp only [List.length_cons, List.length_nil, Nat.zero_add, Nat.reduceAdd] at hsum
  have HS := Lib.hid hsum
  clear hs hsm hsum
  obtain ⟨w3, hw3⟩ : ∃ w3, (w.alloc (.cells #[.int .i64 len, .int .i64 e0, .int .i64 e1] 115)).alloc (.cells #[.int .i64 0, .int .i64 0] 86) = w3 := ⟨_, rfl⟩
  have hb : Below w.heap.size w w3 := by rw [← hw3]; exact ((Below.refl _ _).alloc (Nat.le_refl _) _).alloc (by simp) _
  have m0 : w3.heap[w.heap.size]? = some (.cells #[.int .i64 len, .int .i64 e0, .int .i64 e1] 115 (0, 0)) := by rw [← hw3]; exact alloc2_at0 _ _ _
  have m2 : w3.heap[w.heap.size + 1]? = some (.cells #[.int .i64 0, .int .i64 0] 86 (0, 0)) := by rw [← hw3]; exact alloc2_at1 _ _ _
  have HM := Lib.hid (And.intro hb (And.intro m0 m2))
  have HO := Lib.hid (fun W => one_any len W)
  generalize len + e0 = t0 at HS ⊢
  generalize len + e1 = t1 at HS ⊢
  clear hb m0 m2 h1 h2 h3
  go_enter Try.func113, Try.ntmps113
  go_wp2
  refine R6.wp_walk (C := AirC w3 (w.heap.size + 1) (.cells #[.int .i64 0, .int .i64 0] 86 (0, 0)) (.cells #[.int .i64 t0, .int .i64 t1] 86 (0, 0)) 8 5 8 2 [.int .i64 len, .int .i64 len, .int .i64 e0, .int .i64 e1]) 11 (by kernel_rfl) (by kernel_rfl) rfl (AirC.start HM.out.2.2 (fun _ => rfl)) ?_
  simp only []
  iterate 5
    (refine' R6.WalkR.det (fun _ => rfl) (fun D ρ W hK hC => ?_) ?_
     rotate_left
     · have f0 := fun i => cell_of_row W w.heap.size i _ _ _ ((hC.one.other (lt_of_heap HM.out.2.1) (by omega)).trans HM.out.2.1)
       have HC := Lib.hid hC
       clear hC hK
       go_simp
       first
         | with_reducible exact ⟨rfl, HC.out.move (by decide)⟩
         | (go_at_call 115; refine (HO.out W).mono ?_; rintro e W1 ⟨rfl, hB1⟩; exact ⟨_, rfl, rfl, (HC.out.next hB1).move (by decide)⟩)
     simp only [Act.put, List.setIfInBounds_toArray, List.set_cons_succ, List.set_cons_zero])
  refine' R6.WalkR.nd (fun _ => rfl) rfl (fun D ρ W hK hC => ?_) ?_
  · have HC := Lib.hid hC
    clear hC hK
    go_simp
    exact HC.out.made rfl
  simp only [Act.put, List.setIfInBounds_toArray, List.set_cons_succ, List.set_cons_zero]
  refine' R6.WalkR.det (fun _ => rfl) (fun D ρ W hK hC => ?_) ?_
  rotate_left
  · obtain ⟨b, hv, -, hm⟩ := hC.new (hK.pre 5 (by first | decide +kernel | (dsimp only; decide +kernel)))
    have HC := Lib.hid hC
    have HMb := Lib.hid hm
    clear hC hK hm
    go_simp
    go_at_call 114
    refine (HS.out W b HMb.out).mono ?_
    rintro e W1 ⟨rfl, hB1⟩
    exact ⟨_, rfl, rfl, (HC.out.next hB1).move (by decide)⟩
  simp only [Act.put, List.setIfInBounds_toArray, List.set_cons_succ, List.set_cons_zero]
  iterate 1
    (refine' R6.WalkR.det (fun _ => rfl) (fun D ρ W hK hC => ?_) ?_
     rotate_left
     · have HC := Lib.hid hC
       clear hC hK
       go_simp
       with_reducible exact ⟨rfl, HC.out.move (by decide)⟩
     simp only [Act.put, List.setIfInBounds_toArray, List.set_cons_succ, List.set_cons_zero])
  refine' R6.WalkR.det (c := undef) (fun _ => rfl) (fun D ρ W hK hC => ?_) ?_
  · have h7 := hC.one.no hK.me
    refine gives_store_blk 86 (.tmp 2) (.tmp 10) rfl rfl (cs := [.int .i64 t0, .int .i64 t1]) (L := [.int .i64 0, .int .i64 0]) rfl h7 (Nat.le_refl 2) (by simp [Value.oneCell']) rowAir ?_
    intro W1 hP hM
    refine ⟨rfl, hC.one.put hP hM, hC.lt0, fun e => ?_⟩
    obtain ⟨b, h1, h2, h3⟩ := hC.new (by rwa [done_ne (by decide)] at e)
    exact ⟨b, h1, h2, (hP.other b (by have := hC.lt0; omega)).trans h3⟩
  simp only [Act.put]
  refine R6.WalkR.nil (fun D ρ W hD hC => ?_)
  have hM7 := hC.one.yes (hD 8 (by decide))
  have hB7 := HM.out.1.grown hC.one.gb HM.out.1.size (fun k e => by cases e; omega)
  have H7 := Lib.hid (And.intro hM7 hB7)
  have hc7 := fun i => cell_of_row W (w.heap.size + 1) i _ _ _ hM7
  clear hC hD hM7 hB7
  go_wp2
  refine bodyPost_ret (v := .agg #[.int .i64 t0, .int .i64 t1]) (by simp [results, Try.results113, go_sem, hc7]) rfl ⟨rfl, H7.out.2⟩

end Go.Proofs.Ytjjipkgconmfcaa
