/-
  Texts laid together: CdB, GrA.
-/
import Derived.Test.YtjjipkgconmfcaaB93
set_option linter.all false
namespace Go.Proofs.Ytjjipkgconmfcaa
open Go.RowKit
open R6 (done done_ne done_me upd_ne upd_me)

attribute [local go_sem] gives

theorem ints_lit {w : World} {g : Nat} {cs : Array Value} (zs : List Int) (h : w.heap[g]? = some (.cells cs 3 (0, 0))) (he : cs = (ints zs).toArray) : Ints w w.heap.size (some ⟨g, 0, none⟩) zs := fun _ =>
  ⟨g, 0, rfl, (Array.getElem?_eq_some_iff.1 h).1, fun k hk => by subst he; rw [Nat.zero_add]; exact (cell_of_row w g k _ _ _ h).trans (ints_at zs k hk)⟩

/-- A span is one, and lies in another one. -/
def okS (lo hi a b : Int) : Bool := decide (lo ≤ hi) && allB a b [lo, hi]

/-- A box, and, where it is wanted, a list of one number that a region makes. -/
structure BoxC (w0 : World) (x : Nat) (cs : Array Value) (ty : TypeId) (on : Bool) (kb tb : Nat) (n : Int) (D : Nat → Bool) (σ : Nat → Value) (W : World) : Prop where
  bel : Below w0.heap.size w0 W
  box : W.heap[x]? = some (.cells cs ty (0, 0))
  new : on = true → D kb = true → ∃ b, σ tb = .slice (some ⟨b, 0, none⟩) 1 1 ∧ W.heap[b]? = some (.cells #[.int .i64 n] 3 (0, 0))
def boxK (kb tb k : Nat) (d : Option Nat) : Bool := !(k == kb || d == some tb)
section
variable {w0 W W' : World} {x : Nat} {cs : Array Value} {ty : TypeId} {on : Bool} {kb tb : Nat} {n : Int} {D : Nat → Bool} {σ : Nat → Value}
theorem BoxC.move {k : Nat} {d : Option Nat} {v : Value} (h : BoxC w0 x cs ty on kb tb n D σ W) (hk : boxK kb tb k d = true) : BoxC w0 x cs ty on kb tb n (done D k) (R4.upd σ d v) W := by
  simp only [boxK, Bool.not_eq_true', Bool.or_eq_false_iff, beq_eq_false_iff_ne, ne_eq] at hk
  have e1 := done_ne (D := D) (k := k) (j := kb) (by omega)
  have u1 := upd_ne (ρ := σ) (v := v) hk.2
  exact ⟨h.bel, h.box, by rw [e1, u1]; exact h.new⟩
theorem BoxC.skip {D' : Nat → Bool} {σ' : Nat → Value} (h : BoxC w0 x cs ty false kb tb n D σ W) : BoxC w0 x cs ty false kb tb n D' σ' W := ⟨h.bel, h.box, fun e => by cases e⟩
theorem BoxC.next (h : BoxC w0 x cs ty on kb tb n D σ W) (hg : Grows W W') : BoxC w0 x cs ty on kb tb n D σ W' :=
  ⟨h.bel.trans (hg.mono h.bel.size), (hg.block _ (lt_of_heap h.box)).trans h.box, fun e f => let ⟨b, h1, h2⟩ := h.new e f; ⟨b, h1, (hg.block _ (lt_of_heap h2)).trans h2⟩⟩
theorem BoxC.made (h : BoxC w0 x cs ty on kb tb n D σ W) : BoxC w0 x cs ty on kb tb n (done D kb) (R4.upd σ (some tb) (.slice (some ⟨W.heap.size, 0, none⟩) 1 1)) (W.alloc (.cells #[.int .i64 n] 3)) :=
  ⟨(h.next (grow1 _ _)).bel, (h.next (grow1 _ _)).box, fun _ _ => ⟨_, upd_me, alloc_at0 _ _⟩⟩
theorem BoxC.start (hb : W = w0.alloc (.cells cs ty)) (hD : D kb = false) : BoxC w0 w0.heap.size cs ty on kb tb n D σ W.drew := by
  subst hb
  exact ⟨((Below.refl _ _).alloc (Nat.le_refl _) _).drew, alloc_at0 _ _, fun _ e => by rw [hD] at e; cases e⟩
end

/-- A drying: between which numbers it is wet, what part is lost each day, and how wet it may be. -/
structure Dr where
  wl : Int
  wh : Int
  ll : Int
  lh : Int
  most : Int
def dcells (d : Dr) : Array Value := #[.int .i64 d.wl, .int .i64 d.wh, .int .i64 d.ll, .int .i64 d.lh, .int .i64 d.most]
def okDr (d : Dr) : Bool := okS d.wl d.wh 0 1000 && okS d.ll d.lh 0 1000 && allB 0 1000 [d.most]
/-- A pond: what part flows out each day, and its limit. -/
structure Po where
  ol : Int
  oh : Int
  lim : Int
def pcells (p : Po) : Array Value := #[.int .i64 p.ol, .int .i64 p.oh, .int .i64 p.lim]
def okPo (p : Po) : Bool := okS p.ol p.oh 0 1000 && allB 0 1000000 [p.lim]
def okDrains (zs : List Int) : Bool := decide (zs.length ≤ 40) && allB 0 100000 zs

/-- What is left of an amount when a part of it is taken. -/
def leftZ (x p : Int) : Int := x - x * p / 1000
theorem leftZ_bnd {x p : Int} (hx : 0 ≤ x) (hp : 0 ≤ p) (hp1 : p ≤ 1000) : 0 ≤ leftZ x p ∧ leftZ x p ≤ x := by
  have h1 : 0 ≤ x * p := Int.mul_nonneg hx hp
  have h2 : x * p ≤ x * 1000 := Int.mul_le_mul_of_nonneg_left hp1 hx
  unfold leftZ
  omega

end Go.Proofs.Ytjjipkgconmfcaa

namespace Go.Proofs.Ytjjipkgconmfcaa
open Go.RowKit

/-! ### Things of several cells in lists -/
theorem flat_len {α : Type} {f : α → List Value} {n : Nat} (hf : ∀ x, (f x).length = n) (l : List α) : (l.flatMap f).length = l.length * n := by
  induction l with
  | nil => simp
  | cons x l ih => rw [List.flatMap_cons, List.length_append, ih, hf, List.length_cons, Nat.succ_mul, Nat.add_comm]
theorem flat_at {α : Type} {f : α → List Value} {n : Nat} (hf : ∀ x, (f x).length = n) : ∀ (l : List α) (k : Nat) (hk : k < l.length) (j : Nat), j < n → (l.flatMap f)[k * n + j]? = (f l[k])[j]?
  | [], k, hk, _, _ => by simp at hk
  | x :: l, 0, _, j, hj => by
    rw [List.flatMap_cons, List.getElem?_append_left (by rw [hf]; omega)]
    simp
  | x :: l, k + 1, hk, j, hj => by
    rw [List.flatMap_cons, List.getElem?_append_right (by rw [hf, Nat.succ_mul]; omega), hf, show (k + 1) * n + j - n = k * n + j by rw [Nat.succ_mul]; omega]
    exact flat_at hf l k (by simpa using hk) j hj
/-- A slice of things of n cells each. -/
theorem vals_elem {α : Type} {f : α → List Value} {n : Nat} (hf : ∀ x, (f x).length = n) {w : World} {B : Nat} {A : Option Addr} {l : List α} (h : Vals w B A (l.flatMap f)) (hn : 0 < n) {k : Nat} (hk : k < l.length) :
    ∃ b off, A = some ⟨b, off, none⟩ ∧ b < B ∧ ∀ j v, (f l[k])[j]? = some v → w.cell? ⟨b, off + k * n + j, none⟩ = some v := by
  have hl : 0 < (l.flatMap f).length := by rw [flat_len hf]; exact Nat.mul_pos (by omega) hn
  obtain ⟨b, off, e, hb, hc⟩ := h hl
  refine ⟨b, off, e, hb, fun j v hv => ?_⟩
  have hj : j < n := by rw [← hf l[k]]; exact (List.getElem?_eq_some_iff.1 hv).1
  rw [Nat.add_assoc]
  exact hc _ _ ((flat_at hf l k hk j hj).trans hv)

section
variable {F : Fence} {n : Nat} {P : Program} {ops : Array Oper} {rest : List Oper} {op : Oper} {a : Act} {w : World} {Q : Exit → Act → World → Prop} {R : Value → World → Prop}
theorem run_load_at {ty : TypeId} {b o : Nat} {cs : List Value} (hcs : ∀ j v, cs[j]? = some v → w.cell? ⟨b, o + j, none⟩ = some v) (hty : RowTy P ty cs.length) :
    (Instr.loadAt ty (.pointer (some ⟨b, o, none⟩))).run P w = .ok (.agg cs.toArray) w := by
  obtain ⟨⟨d, hu, hd⟩, hi⟩ := hty
  exact run_loadAt_mid w b o ty cs d hcs hu hd hi
theorem wpList_load_at (ty : TypeId) (x : Operand) (hgd : op.guard = none) (ho : op.op = .load ty x) {b o : Nat} (hx : a.eval x = .pointer (some ⟨b, o, none⟩))
    (cs : List Value) (hcs : ∀ j v, cs[j]? = some v → w.cell? ⟨b, o + j, none⟩ = some v) (hty : RowTy P ty cs.length)
    (h : wpList P ops Q rest (a.put op.dst (.agg cs.toArray)) w) : wpList P ops Q (op :: rest) a w := by
  refine wpList_plain hgd fun K hK => ?_
  unfold Oper.wp execOp
  simp only [ho, hx, Sem.run_bind, run_load_at hcs hty, Result.andThen_ok]
  exact hK _ _ h
theorem wpList_load_blkG (ty : TypeId) (x : Operand) (hw : Region.wanted op (yielded ops a.tmps) = true) (ho : op.op = .load ty x) {b o : Nat} (hx : a.eval x = .pointer (some ⟨b, o, none⟩))
    {C : Array Value} {t : TypeId} {fr : Nat × Nat} (hb : w.heap[b]? = some (.cells C t fr)) (cs : List Value) (hcs : ∀ j v, cs[j]? = some v → C[o + j]? = some v) (hty : RowTy P ty cs.length)
    (h : wpList P ops Q rest (a.put op.dst (.agg cs.toArray)) w) : wpList P ops Q (op :: rest) a w := by
  refine wpList_step fun K hK => ?_
  rw [if_pos hw]
  unfold Oper.wp execOp
  simp only [ho, hx, Sem.run_bind, run_load_blk hb hcs hty, Result.andThen_ok]
  exact hK _ _ h
theorem wpListIn_load_at (ty : TypeId) (x : Operand) (hgd : op.guard = none) (ho : op.op = .load ty x) {b o : Nat} (hx : a.eval x = .pointer (some ⟨b, o, none⟩))
    (cs : List Value) (hcs : ∀ j v, cs[j]? = some v → w.cell? ⟨b, o + j, none⟩ = some v) (hty : RowTy P ty cs.length)
    (h : wpListIn F n P ops Q rest (a.put op.dst (.agg cs.toArray)) w) : wpListIn F n P ops Q (op :: rest) a w := by
  refine wpListIn_plain hgd fun K hK => ?_
  unfold Oper.wpIn
  refine ⟨by simp [Oper.about, ho], ?_⟩
  rw [Oper.semAt_plain F _ _ (by rw [ho]; intro c hc'; cases hc')]
  unfold execOp
  simp only [ho, hx, Sem.run_bind, run_load_at hcs hty, Result.andThen_ok]
  exact hK _ _ h
theorem gives_load_at (ty : TypeId) (x : Operand) (ho : op.op = .load ty x) {b o : Nat} (hx : a.eval x = .pointer (some ⟨b, o, none⟩))
    (cs : List Value) (hcs : ∀ j v, cs[j]? = some v → w.cell? ⟨b, o + j, none⟩ = some v) (hty : RowTy P ty cs.length)
    (h : R (.agg cs.toArray) w) : gives P op a w R := by
  unfold gives execOp
  simp only [ho, hx, Sem.run_bind, run_load_at hcs hty, Result.andThen_ok]
  exact h
end

/-! ### Poles, grades, tests -/
structure Pol where
  id : Int
  clone : Int
  cut : Int
  shot : Int
  g0 : Int
  g1 : Int
  g2 : Int
  w0 : Int
  w1 : Int
  w2 : Int
  soak : Int
  place : Int
structure Gd where
  age : Int
  wall : Int
  l0 : Int
  h0 : Int
  l1 : Int
  h1 : Int
  l2 : Int
  h2 : Int
structure Ts where
  id : Int
  pole : Int
  sec : Int
  force : Int
  held : Bool
def pcl (p : Pol) : List Value := [.int .i64 p.id, .int .i64 p.clone, .int .i64 p.cut, .int .i64 p.shot, .int .i64 p.g0, .int .i64 p.g1, .int .i64 p.g2, .int .i64 p.w0, .int .i64 p.w1, .int .i64 p.w2, .int .i64 p.soak, .int .i64 p.place]
def gcl (g : Gd) : List Value := [.int .i64 g.age, .int .i64 g.wall, .int .i64 g.l0, .int .i64 g.h0, .int .i64 g.l1, .int .i64 g.h1, .int .i64 g.l2, .int .i64 g.h2]
def tcl (t : Ts) : List Value := [.int .i64 t.id, .int .i64 t.pole, .int .i64 t.sec, .int .i64 t.force, .bool t.held]
theorem pcl_len (p : Pol) : (pcl p).length = 12 := rfl
theorem gcl_len (g : Gd) : (gcl g).length = 8 := rfl
theorem tcl_len (t : Ts) : (tcl t).length = 5 := rfl
theorem pcl_one (l : List Pol) : ∀ v ∈ l.flatMap pcl, v.oneCell' = true := by
  intro v hv
  obtain ⟨p, -, hv⟩ := List.mem_flatMap.1 hv
  simp only [pcl, List.mem_cons, List.not_mem_nil, or_false] at hv
  rcases hv with rfl | rfl | rfl | rfl | rfl | rfl | rfl | rfl | rfl | rfl | rfl | rfl <;> rfl
theorem gcl_one (l : List Gd) : ∀ v ∈ l.flatMap gcl, v.oneCell' = true := by
  intro v hv
  obtain ⟨p, -, hv⟩ := List.mem_flatMap.1 hv
  simp only [gcl, List.mem_cons, List.not_mem_nil, or_false] at hv
  rcases hv with rfl | rfl | rfl | rfl | rfl | rfl | rfl | rfl <;> rfl
theorem tcl_one (l : List Ts) : ∀ v ∈ l.flatMap tcl, v.oneCell' = true := by
  intro v hv
  obtain ⟨p, -, hv⟩ := List.mem_flatMap.1 hv
  simp only [tcl, List.mem_cons, List.not_mem_nil, or_false] at hv
  rcases hv with rfl | rfl | rfl | rfl | rfl <;> rfl

/-! ### What is valid -/
def okSt (lo hi : Int) : Bool := decide (lo ≤ hi) && (inR lo 1 200000 && inR hi 1 200000)
def okGd (g : Gd) (a w : Int) : Bool := inR g.age a 6 && (inR g.wall w 60 && (okSt g.l0 g.h0 && (okSt g.l1 g.h1 && okSt g.l2 g.h2)))
def okGds : List Gd → Int → Int → Bool
  | [], _, _ => true
  | g :: l, a, w => okGd g a w && okGds l g.age g.wall
def okGrading (gs : List Gd) (vary : Int) : Bool := inR gs.length 1 3 && (inR vary 0 200000 && okGds gs 0 1)
def okSec (g w : Int) : Bool := inR w 1 60 && (inR g 10 300 && decide (2 * w ≤ g))
def okSecs (p : Pol) : Bool := okSec p.g0 p.w0 && (okSec p.g1 p.w1 && okSec p.g2 p.w2)
def okPol (p : Pol) : Bool := inR p.clone 0 9999 && ((inR p.shot 0 3000 && inR p.cut 0 3000) && (decide (p.shot ≤ p.cut) && (okSecs p && (inR p.soak 0 5 && inR p.place 0 3))))
def byIdL {α : Type} (id : α → Int) (ok : α → Bool) : List α → Int → Bool
  | [], _ => true
  | x :: l, n => inR (id x) n 9999 && (ok x && byIdL id ok l (id x + 1))
def hasPol (ps : List Pol) (id : Int) : Bool := ps.any fun p => decide (p.id = id)
def okTs (ps : List Pol) (t : Ts) : Bool := hasPol ps t.pole && (inR t.sec 0 2 && inR t.force 1 1000000)
def okPols (ps : List Pol) : Bool := decide (ps.length ≤ 12) && byIdL Pol.id okPol ps 0
def okTsL (ps : List Pol) (ts : List Ts) : Bool := decide (ts.length ≤ 20) && byIdL Ts.id (okTs ps) ts 0
def okSheet (ps : List Pol) (ts : List Ts) : Bool := okPols ps && okTsL ps ts
def gChk (gs : List Gd) (vary : Int) (ps : List Pol) (ts : List Ts) : Int := if okGrading gs vary = true then if okSheet ps ts = true then 0 else 51 else 50

/-! ### Grades -/
def fitG (p : Pol) (g : Gd) : Bool := decide (g.age ≤ p.cut - p.shot) && (decide (g.wall ≤ p.w0) && (decide (g.wall ≤ p.w1) && decide (g.wall ≤ p.w2)))
def gOfL (p : Pol) : List Gd → Nat → Nat → Nat
  | [], _, b => b
  | g :: l, i, b => gOfL p l (i + 1) (if fitG p g = true then i + 1 else b)
def gOf (gs : List Gd) (p : Pol) : Nat := gOfL p gs 0 0
theorem gOfL_le (p : Pol) : ∀ (l : List Gd) (i b : Nat), b ≤ i → gOfL p l i b ≤ i + l.length
  | [], i, b, h => by simpa [gOfL] using h
  | g :: l, i, b, h => by
    have := gOfL_le p l (i + 1) (if fitG p g = true then i + 1 else b) (by split <;> omega)
    simp only [gOfL, List.length_cons]
    omega
theorem gOf_le (gs : List Gd) (p : Pol) : gOf gs p ≤ gs.length := by have := gOfL_le p gs 0 0 (Nat.le_refl _); unfold gOf; omega

/-! ### Stresses -/
def gg (p : Pol) (k : Nat) : Int := if k = 0 then p.g0 else if k = 1 then p.g1 else p.g2
def ww (p : Pol) (k : Nat) : Int := if k = 0 then p.w0 else if k = 1 then p.w1 else p.w2
def ar (p : Pol) (k : Nat) : Int := 3 * ww p k * (gg p k - ww p k)
def st0 (g : Gd) (k : Nat) : Int × Int := if k = 0 then (g.l0, g.h0) else if k = 1 then (g.l1, g.h1) else (g.l2, g.h2)
/-- The least stress that holds the force. -/
def needN (a f : Int) : Int := (1000 * f + a - 1) / a
def cut1 (s o : Int × Int) : Int × Int := (max s.1 o.1, min s.2 o.2)
def wid1 (v : Int) (s : Int × Int) : Int × Int := (s.1 - v, s.2 + v)
def own1 (p : Pol) (k : Nat) (s : Int × Int) (t : Ts) : Int × Int :=
  if t.pole = p.id ∧ t.sec = k then (if t.held = true then (max s.1 (needN (ar p k) t.force), s.2) else (s.1, min s.2 (needN (ar p k) t.force - 1))) else s
/-- Between which stresses a section of a pole is by its grade, and its own tests. -/
def own (p : Pol) (g : Gd) (ts : List Ts) (k : Nat) : Int × Int := ts.foldl (own1 p k) (st0 g k)
def gAt (gs : List Gd) (p : Pol) : Gd := (gs[gOf gs p - 1]?).getD ⟨0, 0, 0, 0, 0, 0, 0, 0⟩
def ownP (gs : List Gd) (ts : List Ts) (k : Nat) (p : Pol) : Int × Int := own p (gAt gs p) ts k

/-- Whether there is a truth. -/
def truth (gs : List Gd) (vary : Int) (ps : List Pol) (ts : List Ts) : Bool :=
  ps.all fun p => (List.range 3).all fun k => gOf gs p == 0 || (decide ((ownP gs ts k p).1 ≤ (ownP gs ts k p).2) && ps.all fun q => gOf gs q != gOf gs p || decide ((ownP gs ts k p).1 ≤ (ownP gs ts k q).2 + vary))
def peers (gs : List Gd) (ps : List Pol) (n : Nat) : List Pol := ps.filter fun q => gOf gs q == n
/-- Between which stresses a section of a pole is in all truths. -/
def spanT (gs : List Gd) (vary : Int) (ps : List Pol) (ts : List Ts) (p : Pol) (k : Nat) : Int × Int :=
  (peers gs ps (gOf gs p)).foldl (fun s q => cut1 s (wid1 vary (ownP gs ts k q))) (ownP gs ts k p)
def bears (p : Pol) (k : Nat) (s : Int) : Int := min (s * ar p k / 1000) 1000000

theorem okSec_ar {g w : Int} (h : okSec g w = true) : 0 < 3 * w * (g - w) ∧ 3 * w * (g - w) ≤ 60000 := by
  simp only [okSec, Bool.and_eq_true, inR_iff, decide_eq_true_eq] at h
  obtain ⟨⟨h1, h2⟩, ⟨h3, h4⟩, h5⟩ := h
  have a1 : 0 < 3 * w * (g - w) := Int.mul_pos (by omega) (by omega)
  have a2 : 3 * w * (g - w) ≤ 180 * (g - w) := Int.mul_le_mul_of_nonneg_right (by omega) (by omega)
  omega
theorem ar_pos {p : Pol} (h : okSecs p = true) (k : Nat) : 0 < ar p k ∧ ar p k ≤ 60000 := by
  simp only [okSecs, Bool.and_eq_true] at h
  unfold ar gg ww
  by_cases h0 : k = 0
  · simp only [h0, if_true]; exact okSec_ar h.1
  · by_cases h1 : k = 1
    · subst h1; simp only [if_true, Nat.one_ne_zero, if_false]; exact okSec_ar h.2.1
    · simp only [h0, h1, if_false]; exact okSec_ar h.2.2
theorem needN_bnd {a f : Int} (ha : 0 < a) (hf : 1 ≤ f) (hf2 : f ≤ 1000000) : 1 ≤ needN a f ∧ needN a f ≤ 1000000000 := by
  unfold needN
  refine ⟨?_, ?_⟩
  · have : 1 * a ≤ 1000 * f + a - 1 := by omega
    exact (Int.le_ediv_iff_mul_le ha).2 this
  · have h1 : 1000 * f + a - 1 ≤ 1000000000 * a := by
      have : 1000000000 * 1 ≤ 1000000000 * a := Int.mul_le_mul_of_nonneg_left (by omega) (by omega)
      have h3 : a - 1 ≤ 999999999 * (a - 1) + 0 := by omega
      omega
    exact Int.ediv_le_of_le_mul ha h1

end Go.Proofs.Ytjjipkgconmfcaa
