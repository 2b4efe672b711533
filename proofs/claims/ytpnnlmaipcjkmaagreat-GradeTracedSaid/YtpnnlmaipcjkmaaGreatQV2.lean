/-
  Classes for regions that draw their order: boxes that stay, and lists of numbers that the region makes.
-/
import Derived.Deep.LoopGhost
import Derived.Test.YtpnnlmaipcjkmaaGreatQV1
set_option linter.all false
namespace Go.Proofs.YtpnnlmaipcjkmaaGreat
open Go.RowKit

def idxL {α : Type} (P : α → Bool) : List α → Nat → Int
  | [], _ => -1
  | x :: l, i => if P x = true then (i : Int) else idxL P l (i + 1)
theorem idxL_step {α : Type} {P : α → Bool} {zs : List α} {k : Nat} (hk : k < zs.length) : idxL P (zs.drop k) k = if P zs[k] = true then (k : Int) else idxL P (zs.drop (k + 1)) (k + 1) := by
  rw [List.drop_eq_getElem_cons hk]; rfl
theorem idxL_iff {α : Type} {P : α → Bool} : ∀ (l : List α) (i : Nat), 0 ≤ idxL P l i ↔ l.any P = true
  | [], _ => by simp [idxL]
  | x :: l, i => by
    have ih := idxL_iff (P := P) l (i + 1)
    by_cases h : P x = true
    · have e : idxL P (x :: l) i = (i : Int) := by simp [idxL, h]
      rw [e, List.any_cons, h]
      simp
    · have e : idxL P (x :: l) i = idxL P l (i + 1) := by simp [idxL, h]
      rw [e, List.any_cons, show P x = false by simpa using h, Bool.false_or]
      exact ih
theorem idxL_any {α : Type} {P : α → Bool} (l : List α) (i : Nat) : decide (0 ≤ idxL P l i) = l.any P := by
  rw [Bool.eq_iff_iff, decide_eq_true_iff]
  exact idxL_iff l i
def outB (lo hi n : Int) : Bool := decide (n < lo) || decide (hi < n)

def allB (lo hi : Int) (zs : List Int) : Bool := zs.all fun n => inR n lo hi
theorem allB_any (lo hi : Int) (zs : List Int) : allB lo hi zs = !zs.any (outB lo hi) := by
  unfold allB
  rw [Bool.eq_iff_iff]
  simp only [List.all_eq_true, Bool.not_eq_true', List.any_eq_false, inR_iff, outB, Bool.or_eq_true, decide_eq_true_eq, not_or]
  constructor
  · intro h x hx; have := h x hx; omega
  · intro h x hx; have := h x hx; omega

end Go.Proofs.YtpnnlmaipcjkmaaGreat

namespace Go.Proofs.YtpnnlmaipcjkmaaGreat
open Go.RowKit

theorem flat_len {α : Type} {f : α → List Value} {n : Nat} (hf : ∀ x, (f x).length = n) (l : List α) : (l.flatMap f).length = l.length * n := by
  induction l with
  | nil => simp
  | cons x l ih => rw [List.flatMap_cons, List.length_append, ih, hf, List.length_cons, Nat.succ_mul, Nat.add_comm]
theorem flat_at {α : Type} {f : α → List Value} {n : Nat} (hf : ∀ x, (f x).length = n) : ∀ (l : List α) (k : Nat) (hk : k < l.length) (j : Nat), j < n → (l.flatMap f)[k * n + j]? = (f l[k])[j]?
  | [], k, hk, _, _ => by simp at hk
  | x :: l, 0, _, j, hj => by
    rw [List.flatMap_cons, List.getElem?_append_left (by rw [hf]; omega)]
    simp
  | x :: l, k + 1, hk, j, hj => by
    rw [List.flatMap_cons, List.getElem?_append_right (by rw [hf, Nat.succ_mul]; omega), hf, show (k + 1) * n + j - n = k * n + j by rw [Nat.succ_mul]; omega]
    exact flat_at hf l k (by simpa using hk) j hj
theorem vals_elem {α : Type} {f : α → List Value} {n : Nat} (hf : ∀ x, (f x).length = n) {w : World} {B : Nat} {A : Option Addr} {l : List α} (h : Vals w B A (l.flatMap f)) (hn : 0 < n) {k : Nat} (hk : k < l.length) :
    ∃ b off, A = some ⟨b, off, none⟩ ∧ b < B ∧ ∀ j v, (f l[k])[j]? = some v → w.cell? ⟨b, off + k * n + j, none⟩ = some v := by
  have hl : 0 < (l.flatMap f).length := by rw [flat_len hf]; exact Nat.mul_pos (by omega) hn
  obtain ⟨b, off, e, hb, hc⟩ := h hl
  refine ⟨b, off, e, hb, fun j v hv => ?_⟩
  have hj : j < n := by rw [← hf l[k]]; exact (List.getElem?_eq_some_iff.1 hv).1
  rw [Nat.add_assoc]
  exact hc _ _ ((flat_at hf l k hk j hj).trans hv)

section
variable {F : Fence} {n : Nat} {P : Program} {ops : Array Oper} {rest : List Oper} {op : Oper} {a : Act} {w : World} {Q : Exit → Act → World → Prop} {R : Value → World → Prop}
theorem run_load_at {ty : TypeId} {b o : Nat} {cs : List Value} (hcs : ∀ j v, cs[j]? = some v → w.cell? ⟨b, o + j, none⟩ = some v) (hty : RowTy P ty cs.length) :
    (Instr.loadAt ty (.pointer (some ⟨b, o, none⟩))).run P w = .ok (.agg cs.toArray) w := by
  obtain ⟨⟨d, hu, hd⟩, hi⟩ := hty
  exact run_loadAt_mid w b o ty cs d hcs hu hd hi
theorem wpList_load_at (ty : TypeId) (x : Operand) (hgd : op.guard = none) (ho : op.op = .load ty x) {b o : Nat} (hx : a.eval x = .pointer (some ⟨b, o, none⟩))
    (cs : List Value) (hcs : ∀ j v, cs[j]? = some v → w.cell? ⟨b, o + j, none⟩ = some v) (hty : RowTy P ty cs.length)
    (h : wpList P ops Q rest (a.put op.dst (.agg cs.toArray)) w) : wpList P ops Q (op :: rest) a w := by
  refine wpList_plain hgd fun K hK => ?_
  unfold Oper.wp execOp
  simp only [ho, hx, Sem.run_bind, run_load_at hcs hty, Result.andThen_ok]
  exact hK _ _ h
theorem wpList_load_blkG (ty : TypeId) (x : Operand) (hw : Region.wanted op (yielded ops a.tmps) = true) (ho : op.op = .load ty x) {b o : Nat} (hx : a.eval x = .pointer (some ⟨b, o, none⟩))
    {C : Array Value} {t : TypeId} {fr : Nat × Nat} (hb : w.heap[b]? = some (.cells C t fr)) (cs : List Value) (hcs : ∀ j v, cs[j]? = some v → C[o + j]? = some v) (hty : RowTy P ty cs.length)
    (h : wpList P ops Q rest (a.put op.dst (.agg cs.toArray)) w) : wpList P ops Q (op :: rest) a w := by
  refine wpList_step fun K hK => ?_
  rw [if_pos hw]
  unfold Oper.wp execOp
  simp only [ho, hx, Sem.run_bind, run_load_blk hb hcs hty, Result.andThen_ok]
  exact hK _ _ h
theorem wpListIn_load_at (ty : TypeId) (x : Operand) (hgd : op.guard = none) (ho : op.op = .load ty x) {b o : Nat} (hx : a.eval x = .pointer (some ⟨b, o, none⟩))
    (cs : List Value) (hcs : ∀ j v, cs[j]? = some v → w.cell? ⟨b, o + j, none⟩ = some v) (hty : RowTy P ty cs.length)
    (h : wpListIn F n P ops Q rest (a.put op.dst (.agg cs.toArray)) w) : wpListIn F n P ops Q (op :: rest) a w := by
  refine wpListIn_plain hgd fun K hK => ?_
  unfold Oper.wpIn
  refine ⟨by simp [Oper.about, ho], ?_⟩
  rw [Oper.semAt_plain F _ _ (by rw [ho]; intro c hc'; cases hc')]
  unfold execOp
  simp only [ho, hx, Sem.run_bind, run_load_at hcs hty, Result.andThen_ok]
  exact hK _ _ h
theorem gives_load_at (ty : TypeId) (x : Operand) (ho : op.op = .load ty x) {b o : Nat} (hx : a.eval x = .pointer (some ⟨b, o, none⟩))
    (cs : List Value) (hcs : ∀ j v, cs[j]? = some v → w.cell? ⟨b, o + j, none⟩ = some v) (hty : RowTy P ty cs.length)
    (h : R (.agg cs.toArray) w) : gives P op a w R := by
  unfold gives execOp
  simp only [ho, hx, Sem.run_bind, run_load_at hcs hty, Result.andThen_ok]
  exact h
end

structure Pol where
  id : Int
  clone : Int
  cut : Int
  shot : Int
  g0 : Int
  g1 : Int
  g2 : Int
  w0 : Int
  w1 : Int
  w2 : Int
  soak : Int
  place : Int
structure Gd where
  age : Int
  wall : Int
  l0 : Int
  h0 : Int
  l1 : Int
  h1 : Int
  l2 : Int
  h2 : Int
structure Ts where
  id : Int
  pole : Int
  sec : Int
  force : Int
  held : Bool
def pcl (p : Pol) : List Value := [.int .i64 p.id, .int .i64 p.clone, .int .i64 p.cut, .int .i64 p.shot, .int .i64 p.g0, .int .i64 p.g1, .int .i64 p.g2, .int .i64 p.w0, .int .i64 p.w1, .int .i64 p.w2, .int .i64 p.soak, .int .i64 p.place]
def gcl (g : Gd) : List Value := [.int .i64 g.age, .int .i64 g.wall, .int .i64 g.l0, .int .i64 g.h0, .int .i64 g.l1, .int .i64 g.h1, .int .i64 g.l2, .int .i64 g.h2]
def tcl (t : Ts) : List Value := [.int .i64 t.id, .int .i64 t.pole, .int .i64 t.sec, .int .i64 t.force, .bool t.held]
theorem pcl_len (p : Pol) : (pcl p).length = 12 := rfl
theorem gcl_len (g : Gd) : (gcl g).length = 8 := rfl
theorem tcl_len (t : Ts) : (tcl t).length = 5 := rfl
theorem pcl_one (l : List Pol) : ∀ v ∈ l.flatMap pcl, v.oneCell' = true := by
  intro v hv
  obtain ⟨p, -, hv⟩ := List.mem_flatMap.1 hv
  simp only [pcl, List.mem_cons, List.not_mem_nil, or_false] at hv
  rcases hv with rfl | rfl | rfl | rfl | rfl | rfl | rfl | rfl | rfl | rfl | rfl | rfl <;> rfl
theorem gcl_one (l : List Gd) : ∀ v ∈ l.flatMap gcl, v.oneCell' = true := by
  intro v hv
  obtain ⟨p, -, hv⟩ := List.mem_flatMap.1 hv
  simp only [gcl, List.mem_cons, List.not_mem_nil, or_false] at hv
  rcases hv with rfl | rfl | rfl | rfl | rfl | rfl | rfl | rfl <;> rfl
theorem tcl_one (l : List Ts) : ∀ v ∈ l.flatMap tcl, v.oneCell' = true := by
  intro v hv
  obtain ⟨p, -, hv⟩ := List.mem_flatMap.1 hv
  simp only [tcl, List.mem_cons, List.not_mem_nil, or_false] at hv
  rcases hv with rfl | rfl | rfl | rfl | rfl <;> rfl

def okSt (lo hi : Int) : Bool := decide (lo ≤ hi) && (inR lo 1 200000 && inR hi 1 200000)
def okGd (g : Gd) (a w : Int) : Bool := inR g.age a 6 && (inR g.wall w 60 && (okSt g.l0 g.h0 && (okSt g.l1 g.h1 && okSt g.l2 g.h2)))
def okGds : List Gd → Int → Int → Bool
  | [], _, _ => true
  | g :: l, a, w => okGd g a w && okGds l g.age g.wall
def okGrading (gs : List Gd) (vary : Int) : Bool := inR gs.length 1 3 && (inR vary 0 200000 && okGds gs 0 1)
def okSec (g w : Int) : Bool := inR w 1 60 && (inR g 10 300 && decide (2 * w ≤ g))
def okSecs (p : Pol) : Bool := okSec p.g0 p.w0 && (okSec p.g1 p.w1 && okSec p.g2 p.w2)
def okPol (p : Pol) : Bool := inR p.clone 0 9999 && ((inR p.shot 0 3000 && inR p.cut 0 3000) && (decide (p.shot ≤ p.cut) && (okSecs p && (inR p.soak 0 5 && inR p.place 0 3))))
def byIdL {α : Type} (id : α → Int) (ok : α → Bool) : List α → Int → Bool
  | [], _ => true
  | x :: l, n => inR (id x) n 9999 && (ok x && byIdL id ok l (id x + 1))
def hasPol (ps : List Pol) (id : Int) : Bool := ps.any fun p => decide (p.id = id)
def okTs (ps : List Pol) (t : Ts) : Bool := hasPol ps t.pole && (inR t.sec 0 2 && inR t.force 1 1000000)
def okPols (ps : List Pol) : Bool := decide (ps.length ≤ 12) && byIdL Pol.id okPol ps 0
def okTsL (ps : List Pol) (ts : List Ts) : Bool := decide (ts.length ≤ 20) && byIdL Ts.id (okTs ps) ts 0
def okSheet (ps : List Pol) (ts : List Ts) : Bool := okPols ps && okTsL ps ts
def gChk (gs : List Gd) (vary : Int) (ps : List Pol) (ts : List Ts) : Int := if okGrading gs vary = true then if okSheet ps ts = true then 0 else 51 else 50

def fitG (p : Pol) (g : Gd) : Bool := decide (g.age ≤ p.cut - p.shot) && (decide (g.wall ≤ p.w0) && (decide (g.wall ≤ p.w1) && decide (g.wall ≤ p.w2)))
def gOfL (p : Pol) : List Gd → Nat → Nat → Nat
  | [], _, b => b
  | g :: l, i, b => gOfL p l (i + 1) (if fitG p g = true then i + 1 else b)
def gOf (gs : List Gd) (p : Pol) : Nat := gOfL p gs 0 0
theorem gOfL_le (p : Pol) : ∀ (l : List Gd) (i b : Nat), b ≤ i → gOfL p l i b ≤ i + l.length
  | [], i, b, h => by simpa [gOfL] using h
  | g :: l, i, b, h => by
    have := gOfL_le p l (i + 1) (if fitG p g = true then i + 1 else b) (by split <;> omega)
    simp only [gOfL, List.length_cons]
    omega
theorem gOf_le (gs : List Gd) (p : Pol) : gOf gs p ≤ gs.length := by have := gOfL_le p gs 0 0 (Nat.le_refl _); unfold gOf; omega

def gg (p : Pol) (k : Nat) : Int := if k = 0 then p.g0 else if k = 1 then p.g1 else p.g2
def ww (p : Pol) (k : Nat) : Int := if k = 0 then p.w0 else if k = 1 then p.w1 else p.w2
def ar (p : Pol) (k : Nat) : Int := 3 * ww p k * (gg p k - ww p k)
def st0 (g : Gd) (k : Nat) : Int × Int := if k = 0 then (g.l0, g.h0) else if k = 1 then (g.l1, g.h1) else (g.l2, g.h2)
def needN (a f : Int) : Int := (1000 * f + a - 1) / a
def cut1 (s o : Int × Int) : Int × Int := (max s.1 o.1, min s.2 o.2)
def wid1 (v : Int) (s : Int × Int) : Int × Int := (s.1 - v, s.2 + v)
def own1 (p : Pol) (k : Nat) (s : Int × Int) (t : Ts) : Int × Int :=
  if t.pole = p.id ∧ t.sec = k then (if t.held = true then (max s.1 (needN (ar p k) t.force), s.2) else (s.1, min s.2 (needN (ar p k) t.force - 1))) else s
def own (p : Pol) (g : Gd) (ts : List Ts) (k : Nat) : Int × Int := ts.foldl (own1 p k) (st0 g k)
def gAt (gs : List Gd) (p : Pol) : Gd := (gs[gOf gs p - 1]?).getD ⟨0, 0, 0, 0, 0, 0, 0, 0⟩
def ownP (gs : List Gd) (ts : List Ts) (k : Nat) (p : Pol) : Int × Int := own p (gAt gs p) ts k

def truth (gs : List Gd) (vary : Int) (ps : List Pol) (ts : List Ts) : Bool :=
  ps.all fun p => (List.range 3).all fun k => gOf gs p == 0 || (decide ((ownP gs ts k p).1 ≤ (ownP gs ts k p).2) && ps.all fun q => gOf gs q != gOf gs p || decide ((ownP gs ts k p).1 ≤ (ownP gs ts k q).2 + vary))
def peers (gs : List Gd) (ps : List Pol) (n : Nat) : List Pol := ps.filter fun q => gOf gs q == n
def spanT (gs : List Gd) (vary : Int) (ps : List Pol) (ts : List Ts) (p : Pol) (k : Nat) : Int × Int :=
  (peers gs ps (gOf gs p)).foldl (fun s q => cut1 s (wid1 vary (ownP gs ts k q))) (ownP gs ts k p)
def bears (p : Pol) (k : Nat) (s : Int) : Int := min (s * ar p k / 1000) 1000000

theorem okSec_ar {g w : Int} (h : okSec g w = true) : 0 < 3 * w * (g - w) ∧ 3 * w * (g - w) ≤ 60000 := by
  simp only [okSec, Bool.and_eq_true, inR_iff, decide_eq_true_eq] at h
  obtain ⟨⟨h1, h2⟩, ⟨h3, h4⟩, h5⟩ := h
  have a1 : 0 < 3 * w * (g - w) := Int.mul_pos (by omega) (by omega)
  have a2 : 3 * w * (g - w) ≤ 180 * (g - w) := Int.mul_le_mul_of_nonneg_right (by omega) (by omega)
  omega
theorem ar_pos {p : Pol} (h : okSecs p = true) (k : Nat) : 0 < ar p k ∧ ar p k ≤ 60000 := by
  simp only [okSecs, Bool.and_eq_true] at h
  unfold ar gg ww
  by_cases h0 : k = 0
  · simp only [h0, if_true]; exact okSec_ar h.1
  · by_cases h1 : k = 1
    · subst h1; simp only [if_true, Nat.one_ne_zero, if_false]; exact okSec_ar h.2.1
    · simp only [h0, h1, if_false]; exact okSec_ar h.2.2
theorem needN_bnd {a f : Int} (ha : 0 < a) (hf : 1 ≤ f) (hf2 : f ≤ 1000000) : 1 ≤ needN a f ∧ needN a f ≤ 1000000000 := by
  unfold needN
  refine ⟨?_, ?_⟩
  · have : 1 * a ≤ 1000 * f + a - 1 := by omega
    exact (Int.le_ediv_iff_mul_le ha).2 this
  · have h1 : 1000 * f + a - 1 ≤ 1000000000 * a := by
      have : 1000000000 * 1 ≤ 1000000000 * a := Int.mul_le_mul_of_nonneg_left (by omega) (by omega)
      have h3 : a - 1 ≤ 999999999 * (a - 1) + 0 := by omega
      omega
    exact Int.ediv_le_of_le_mul ha h1

end Go.Proofs.YtpnnlmaipcjkmaaGreat

namespace Go.Proofs.YtpnnlmaipcjkmaaGreat
open Go.RowKit

theorem pair_ext {a b : Int × Int} (h1 : ∀ x, a.1 ≤ x ↔ b.1 ≤ x) (h2 : ∀ x, x ≤ a.2 ↔ x ≤ b.2) : a = b := by
  obtain ⟨a1, a2⟩ := a
  obtain ⟨b1, b2⟩ := b
  have p1 := (h1 a1).1 (Int.le_refl _)
  have p2 := (h1 b1).2 (Int.le_refl _)
  have p3 := (h2 a2).1 (Int.le_refl _)
  have p4 := (h2 b2).2 (Int.le_refl _)
  simp only at p1 p2 p3 p4
  have e1 : a1 = b1 := by omega
  have e2 : a2 = b2 := by omega
  rw [e1, e2]
theorem cut1_lo (s o : Int × Int) (x : Int) : (cut1 s o).1 ≤ x ↔ s.1 ≤ x ∧ o.1 ≤ x := by simp only [cut1]; omega
theorem cut1_hi (s o : Int × Int) (x : Int) : x ≤ (cut1 s o).2 ↔ x ≤ s.2 ∧ x ≤ o.2 := by simp only [cut1]; omega
theorem foldC_lo {α : Type} (f : α → Int × Int) (x : Int) : ∀ (l : List α) (s : Int × Int), (l.foldl (fun s q => cut1 s (f q)) s).1 ≤ x ↔ s.1 ≤ x ∧ ∀ q ∈ l, (f q).1 ≤ x
  | [], s => by simp
  | q :: l, s => by
    rw [List.foldl_cons, foldC_lo f x l, cut1_lo]
    simp only [List.mem_cons, forall_eq_or_imp]
    constructor
    · rintro ⟨⟨h1, h2⟩, h3⟩; exact ⟨h1, h2, h3⟩
    · rintro ⟨h1, h2, h3⟩; exact ⟨⟨h1, h2⟩, h3⟩
theorem foldC_hi {α : Type} (f : α → Int × Int) (x : Int) : ∀ (l : List α) (s : Int × Int), x ≤ (l.foldl (fun s q => cut1 s (f q)) s).2 ↔ x ≤ s.2 ∧ ∀ q ∈ l, x ≤ (f q).2
  | [], s => by simp
  | q :: l, s => by
    rw [List.foldl_cons, foldC_hi f x l, cut1_hi]
    simp only [List.mem_cons, forall_eq_or_imp]
    constructor
    · rintro ⟨⟨h1, h2⟩, h3⟩; exact ⟨h1, h2, h3⟩
    · rintro ⟨h1, h2, h3⟩; exact ⟨⟨h1, h2⟩, h3⟩

def says (a : Int) (t : Ts) : Int × Int := if t.held = true then (needN a t.force, 200000) else (1, needN a t.force - 1)
def saidL (p : Pol) (k : Nat) (ts : List Ts) : List (Int × Int) := (ts.filter fun t => decide (t.pole = p.id) && decide (t.sec = (k : Int))).map (says (ar p k))
def cutL (s : Int × Int) (l : List (Int × Int)) : Int × Int := l.foldl cut1 s
theorem own1_in (p : Pol) (k : Nat) (s : Int × Int) (t : Ts) : s.1 ≤ (own1 p k s t).1 ∧ (own1 p k s t).2 ≤ s.2 := by
  unfold own1
  split
  · split
    · simp only; omega
    · simp only; omega
  · omega
theorem foldO_in (p : Pol) (k : Nat) : ∀ (ts : List Ts) (s : Int × Int), s.1 ≤ (ts.foldl (own1 p k) s).1 ∧ (ts.foldl (own1 p k) s).2 ≤ s.2
  | [], s => by simp
  | t :: ts, s => by
    have h1 := own1_in p k s t
    have h2 := foldO_in p k ts (own1 p k s t)
    rw [List.foldl_cons]
    omega
theorem own_in (p : Pol) (g : Gd) (ts : List Ts) (k : Nat) : (st0 g k).1 ≤ (own p g ts k).1 ∧ (own p g ts k).2 ≤ (st0 g k).2 := foldO_in p k ts _
theorem cut_said (p : Pol) (k : Nat) : ∀ (ts : List Ts) (s : Int × Int), 1 ≤ s.1 → s.2 ≤ 200000 → cutL s (saidL p k ts) = ts.foldl (own1 p k) s
  | [], s, _, _ => rfl
  | t :: ts, s, h1, h2 => by
    have hi := own1_in p k s t
    have ih := cut_said p k ts (own1 p k s t) (by omega) (by omega)
    rw [List.foldl_cons, ← ih]
    unfold saidL
    by_cases hp : t.pole = p.id ∧ t.sec = (k : Int)
    · rw [List.filter_cons_of_pos (by simp [hp])]
      simp only [List.map_cons, cutL, List.foldl_cons]
      congr 1
      unfold own1 says cut1
      rw [if_pos hp]
      by_cases hh : t.held = true
      · simp only [hh, if_true]
        rw [show min s.2 200000 = s.2 by omega]
      · simp only [hh, Bool.false_eq_true, if_false]
        rw [show max s.1 1 = s.1 by omega]
    · rw [List.filter_cons_of_neg (by simpa using hp)]
      unfold own1
      rw [if_neg hp]

def nearG (g : Gd) (vary : Int) (ts : List Ts) (l : List Pol) (k : Nat) : Int × Int := l.foldl (fun s q => cut1 s (wid1 vary (own q g ts k))) (st0 g k)
def leftG (g : Gd) (vary : Int) (ts : List Ts) (l : List Pol) (k : Nat) (p : Pol) : Int × Int := cut1 (own p g ts k) (nearG g vary ts l k)
theorem leftG_span {gs : List Gd} {vary : Int} {ps : List Pol} {ts : List Ts} {p : Pol} {k : Nat} {g : Gd} (hg : ∀ q ∈ peers gs ps (gOf gs p), gAt gs q = g) (hp : gAt gs p = g) :
    leftG g vary ts (peers gs ps (gOf gs p)) k p = spanT gs vary ps ts p k := by
  unfold leftG nearG spanT
  have hin := own_in p g ts k
  have e : ∀ q ∈ peers gs ps (gOf gs p), ownP gs ts k q = own q g ts k := fun q hq => by unfold ownP; rw [hg q hq]
  have e2 : ownP gs ts k p = own p g ts k := by unfold ownP; rw [hp]
  rw [e2]
  refine pair_ext (fun x => ?_) (fun x => ?_)
  · rw [cut1_lo, foldC_lo, foldC_lo]
    constructor
    · rintro ⟨h1, -, h3⟩
      exact ⟨h1, fun q hq => by rw [e q hq]; exact h3 q hq⟩
    · rintro ⟨h1, h3⟩
      exact ⟨h1, by omega, fun q hq => by rw [← e q hq]; exact h3 q hq⟩
  · rw [cut1_hi, foldC_hi, foldC_hi]
    constructor
    · rintro ⟨h1, -, h3⟩
      exact ⟨h1, fun q hq => by rw [e q hq]; exact h3 q hq⟩
    · rintro ⟨h1, h3⟩
      exact ⟨h1, by omega, fun q hq => by rw [← e q hq]; exact h3 q hq⟩
theorem mem_peers {gs : List Gd} {ps : List Pol} {n : Nat} {q : Pol} : q ∈ peers gs ps n ↔ q ∈ ps ∧ gOf gs q = n := by simp [peers]
theorem gAt_peer {gs : List Gd} {ps : List Pol} {n : Nat} {q : Pol} (h : q ∈ peers gs ps n) : gAt gs q = (gs[n - 1]?).getD ⟨0, 0, 0, 0, 0, 0, 0, 0⟩ := by unfold gAt; rw [(mem_peers.1 h).2]
def leftAll (gs : List Gd) (vary : Int) (ps : List Pol) (ts : List Ts) : Bool :=
  ps.all fun p => gOf gs p == 0 || (List.range 3).all fun k => decide ((spanT gs vary ps ts p k).1 ≤ (spanT gs vary ps ts p k).2)
theorem truth_left {gs : List Gd} {vary : Int} {ps : List Pol} {ts : List Ts} (hv : 0 ≤ vary) : truth gs vary ps ts = leftAll gs vary ps ts := by
  have step : ∀ p ∈ ps, gOf gs p ≠ 0 → ∀ k, ((spanT gs vary ps ts p k).1 ≤ (spanT gs vary ps ts p k).2 ↔
      (ownP gs ts k p).1 ≤ (ownP gs ts k p).2 ∧ (∀ q ∈ peers gs ps (gOf gs p), (ownP gs ts k p).1 ≤ (ownP gs ts k q).2 + vary) ∧ (∀ q ∈ peers gs ps (gOf gs p), (ownP gs ts k q).1 - vary ≤ (ownP gs ts k p).2) ∧
      ∀ q ∈ peers gs ps (gOf gs p), ∀ r ∈ peers gs ps (gOf gs p), (ownP gs ts k q).1 - vary ≤ (ownP gs ts k r).2 + vary) := by
    intro p _ _ k
    have hlo : ∀ x, (spanT gs vary ps ts p k).1 ≤ x ↔ (ownP gs ts k p).1 ≤ x ∧ ∀ q ∈ peers gs ps (gOf gs p), (ownP gs ts k q).1 - vary ≤ x := fun x => foldC_lo (fun q => wid1 vary (ownP gs ts k q)) x _ _
    have hhi : ∀ x, x ≤ (spanT gs vary ps ts p k).2 ↔ x ≤ (ownP gs ts k p).2 ∧ ∀ q ∈ peers gs ps (gOf gs p), x ≤ (ownP gs ts k q).2 + vary := fun x => foldC_hi (fun q => wid1 vary (ownP gs ts k q)) x _ _
    rw [hlo]
    simp only [hhi]
    constructor
    · rintro ⟨⟨h1, h2⟩, h3⟩
      exact ⟨h1, h2, fun q hq => (h3 q hq).1, fun q hq r hr => (h3 q hq).2 r hr⟩
    · rintro ⟨h1, h2, h3, h4⟩
      exact ⟨⟨h1, h2⟩, fun q hq => ⟨h3 q hq, fun r hr => h4 q hq r hr⟩⟩
  rw [Bool.eq_iff_iff]
  unfold truth leftAll
  simp only [List.all_eq_true, List.mem_range, Bool.or_eq_true, beq_iff_eq, Bool.and_eq_true, decide_eq_true_eq, bne_iff_ne, ne_eq]
  constructor
  · intro h p hp
    by_cases h0 : gOf gs p = 0
    · exact .inl h0
    · refine .inr fun k hk => (step p hp h0 k).2 ?_
      have own_of : ∀ q ∈ peers gs ps (gOf gs p), (ownP gs ts k q).1 ≤ (ownP gs ts k q).2 ∧ ∀ r ∈ peers gs ps (gOf gs p), (ownP gs ts k q).1 ≤ (ownP gs ts k r).2 + vary := by
        intro q hq
        obtain ⟨hqp, hqg⟩ := mem_peers.1 hq
        rcases h q hqp k hk with h1 | ⟨h1, h2⟩
        · omega
        · refine ⟨h1, fun r hr => ?_⟩
          obtain ⟨hrp, hrg⟩ := mem_peers.1 hr
          rcases h2 r hrp with h3 | h3
          · omega
          · exact h3
      have hpp : p ∈ peers gs ps (gOf gs p) := mem_peers.2 ⟨hp, rfl⟩
      refine ⟨(own_of p hpp).1, (own_of p hpp).2, fun q hq => ?_, fun q hq r hr => ?_⟩
      · have := (own_of q hq).2 p hpp; omega
      · have := (own_of q hq).2 r hr; omega
  · intro h p hp k hk
    rcases h p hp with h0 | h1
    · exact .inl h0
    · by_cases h0 : gOf gs p = 0
      · exact .inl h0
      refine .inr ?_
      obtain ⟨a1, a2, a3, a4⟩ := (step p hp h0 k).1 (h1 k hk)
      refine ⟨a1, fun q hq => ?_⟩
      by_cases hqg : gOf gs q = gOf gs p
      · exact .inr (a2 q (mem_peers.2 ⟨hq, hqg⟩))
      · exact .inl hqg

theorem own1_mono (p : Pol) (k : Nat) (t : Ts) {s o : Int × Int} (h1 : s.1 ≤ o.1) (h2 : o.2 ≤ s.2) : (own1 p k s t).1 ≤ (own1 p k o t).1 ∧ (own1 p k o t).2 ≤ (own1 p k s t).2 := by
  unfold own1
  split
  · split
    · simp only; omega
    · simp only; omega
  · exact ⟨h1, h2⟩
theorem foldO_mono (p : Pol) (k : Nat) : ∀ (ts us : List Ts) (s o : Int × Int), ts.Sublist us → s.1 ≤ o.1 → o.2 ≤ s.2 → (ts.foldl (own1 p k) s).1 ≤ (us.foldl (own1 p k) o).1 ∧ (us.foldl (own1 p k) o).2 ≤ (ts.foldl (own1 p k) s).2
  | _, _, s, o, .slnil, h1, h2 => ⟨h1, h2⟩
  | ts, u :: us, s, o, .cons _ h, h1, h2 => by
    have := own1_in p k o u
    rw [List.foldl_cons]
    exact foldO_mono p k ts us s (own1 p k o u) h (by omega) (by omega)
  | t :: ts, _ :: us, s, o, .cons_cons _ h, h1, h2 => by
    have := own1_mono p k t h1 h2
    rw [List.foldl_cons, List.foldl_cons]
    exact foldO_mono p k ts us _ _ h this.1 this.2
theorem truth_fewer {gs : List Gd} {vary : Int} {ps : List Pol} {ts us : List Ts} (hs : ts.Sublist us) (h : truth gs vary ps us = true) : truth gs vary ps ts = true := by
  have hm : ∀ p k, (ownP gs ts k p).1 ≤ (ownP gs us k p).1 ∧ (ownP gs us k p).2 ≤ (ownP gs ts k p).2 := fun p k => foldO_mono p k ts us _ _ hs (Int.le_refl _) (Int.le_refl _)
  unfold truth at h ⊢
  simp only [List.all_eq_true, List.mem_range, Bool.or_eq_true, beq_iff_eq, Bool.and_eq_true, decide_eq_true_eq, bne_iff_ne, ne_eq] at h ⊢
  intro p hp k hk
  rcases h p hp k hk with h0 | ⟨h1, h2⟩
  · exact .inl h0
  · refine .inr ⟨?_, fun q hq => ?_⟩
    · have := hm p k; omega
    · rcases h2 q hq with h3 | h3
      · exact .inl h3
      · refine .inr ?_
        have := hm p k
        have := hm q k
        omega

end Go.Proofs.YtpnnlmaipcjkmaaGreat

namespace Go.Proofs.YtpnnlmaipcjkmaaGreat
open Go.RowKit
open R6 (done done_ne done_me upd_ne upd_me)

attribute [local go_sem] gives

theorem ints_lit {w : World} {g : Nat} {cs : Array Value} (zs : List Int) (h : w.heap[g]? = some (.cells cs 3 (0, 0))) (he : cs = (ints zs).toArray) : Ints w w.heap.size (some ⟨g, 0, none⟩) zs := fun _ =>
  ⟨g, 0, rfl, (Array.getElem?_eq_some_iff.1 h).1, fun k hk => by subst he; rw [Nat.zero_add]; exact (cell_of_row w g k _ _ _ h).trans (ints_at zs k hk)⟩

structure BoxC (w0 : World) (x : Nat) (cs : Array Value) (ty : TypeId) (on : Bool) (kb tb : Nat) (n : Int) (D : Nat → Bool) (σ : Nat → Value) (W : World) : Prop where
  bel : Below w0.heap.size w0 W
  box : W.heap[x]? = some (.cells cs ty (0, 0))
  new : on = true → D kb = true → ∃ b, σ tb = .slice (some ⟨b, 0, none⟩) 1 1 ∧ W.heap[b]? = some (.cells #[.int .i64 n] 3 (0, 0))
section
variable {w0 W W' : World} {x : Nat} {cs : Array Value} {ty : TypeId} {on : Bool} {kb tb : Nat} {n : Int} {D : Nat → Bool} {σ : Nat → Value}
theorem BoxC.next (h : BoxC w0 x cs ty on kb tb n D σ W) (hg : Grows W W') : BoxC w0 x cs ty on kb tb n D σ W' :=
  ⟨h.bel.trans (hg.mono h.bel.size), (hg.block _ (lt_of_heap h.box)).trans h.box, fun e f => let ⟨b, h1, h2⟩ := h.new e f; ⟨b, h1, (hg.block _ (lt_of_heap h2)).trans h2⟩⟩
theorem BoxC.made (h : BoxC w0 x cs ty on kb tb n D σ W) : BoxC w0 x cs ty on kb tb n (done D kb) (R4.upd σ (some tb) (.slice (some ⟨W.heap.size, 0, none⟩) 1 1)) (W.alloc (.cells #[.int .i64 n] 3)) :=
  ⟨(h.next (grow1 _ _)).bel, (h.next (grow1 _ _)).box, fun _ _ => ⟨_, upd_me, alloc_at0 _ _⟩⟩
theorem BoxC.start (hb : W = w0.alloc (.cells cs ty)) (hD : D kb = false) : BoxC w0 w0.heap.size cs ty on kb tb n D σ W.drew := by
  subst hb
  exact ⟨((Below.refl _ _).alloc (Nat.le_refl _) _).drew, alloc_at0 _ _, fun _ e => by rw [hD] at e; cases e⟩
end

end Go.Proofs.YtpnnlmaipcjkmaaGreat

namespace Go.Proofs.YtpnnlmaipcjkmaaGreat
open Go.RowKit

theorem grWithin1_any (lo hi n : Int) (b : Nat) (w : World) (hb : w.heap[b]? = some (.cells #[.int .i64 lo, .int .i64 hi] 50 (0, 0))) :
    Calls Tryz.prog 136 #[.int .i64 n, .pointer (some ⟨b, 0, none⟩)] w fun e w' => e = .returned (.bool (outB lo hi n)) ∧ w = w' := by
  have hc := fun i => cell_of_row w b i _ _ _ hb
  have HB := Lib.hid hb
  clear hb
  by_cases h1 : n < lo
  · have e : outB lo hi n = true := by simp [outB, h1]
    rw [e]
    clear e
    go_enter Tryz.func136, Tryz.ntmps136
    go_wp2
    go_ret
    exact ⟨rfl, rfl⟩
  · by_cases h2 : hi < n
    · have e : outB lo hi n = true := by simp [outB, h2]
      rw [e]
      clear e
      go_enter Tryz.func136, Tryz.ntmps136
      go_wp2
      go_ret
      exact ⟨rfl, rfl⟩
    · have e : outB lo hi n = false := by simp [outB]; omega
      rw [e]
      clear e
      go_enter Tryz.func136, Tryz.ntmps136
      go_wp2
      go_ret
      exact ⟨rfl, rfl⟩

set_option maxHeartbeats 1000000 in
theorem grIndexInts_any (lo hi : Int) (b : Nat) (A : Option Addr) (cap : Nat) (zs : List Int) (B : Nat) (w : World) (hb : w.heap[b]? = some (.cells #[.int .i64 lo, .int .i64 hi] 50 (0, 0))) (hz : Ints w B A zs) (hl : zs.length ≤ 1000000) :
    Calls Tryz.prog 160 #[.slice A zs.length cap, .func (.func 136) #[] #[.pointer (some ⟨b, 0, none⟩)]] w fun e w' => e = .returned (.int .i64 (idxL (outB lo hi) zs 0)) ∧ w = w' := by
  have HB := Lib.hid hb
  have HZ := Lib.hid hz
  clear hb hz
  go_enter Tryz.func160, Tryz.ntmps160
  go_wp2
  go_loopg [8] zs.length (fun gg s8 wx => ∃ k : Nat, k + gg = zs.length ∧ s8 = .int .i64 k ∧ Hid (idxL (outB lo hi) (zs.drop k) k = idxL (outB lo hi) zs 0) ∧ wx = w)
  case atStart => exact ⟨0, by omega, rfl, rfl, rfl⟩
  case round =>
    obtain ⟨k, hkg, rfl, hI, rfl⟩ := hrel
    cases gk with
    | zero =>
      obtain rfl : k = zs.length := by omega
      go_wp2
      go_ret
      refine ⟨?_, rfl⟩
      rw [← hI.out, List.drop_length]
      rfl
    | succ gg =>
      have hk : k < zs.length := by omega
      have hkz : (k : Int) < zs.length := by omega
      obtain ⟨c, off, hA, hcB, hc⟩ := HZ.out (by omega)
      subst hA
      have hx := hc k hk
      have hst := idxL_step (P := outB lo hi) hk
      have hg : zs[k]?.getD 0 = zs[k] := by simp [hk]
      rw [hg] at hx
      rw [hI.out] at hst
      have hcl := fun n W hW => grWithin1_any lo hi n b W hW
      generalize zs[k] = x at hx hst
      have HC := Lib.hid hcl
      have HST := Lib.hid hst
      clear hc hst hcl hg
      cases hp : outB lo hi x with
      | true =>
        have HP := Lib.hid hp
        clear hp
        go_wp2_with (go_at_call 136; refine (HC.out _ _ HB.out).mono ?_; rintro e w' ⟨rfl, rfl⟩; rw [HP.out])
        go_ret
        refine ⟨?_, rfl⟩
        rw [HST.out, HP.out]
        rfl
      | false =>
        have HP := Lib.hid hp
        clear hp
        go_wp2_with (go_at_call 136; refine (HC.out _ _ HB.out).mono ?_; rintro e w' ⟨rfl, rfl⟩; rw [HP.out])
        go_roundg gg
        case measure => omega
        case rel => exact ⟨k + 1, by omega, by go_num, by rw [HST.out, HP.out]; rfl, rfl⟩

theorem grContainsInts_any (lo hi : Int) (b : Nat) (A : Option Addr) (cap : Nat) (zs : List Int) (B : Nat) (w : World) (hb : w.heap[b]? = some (.cells #[.int .i64 lo, .int .i64 hi] 50 (0, 0))) (hz : Ints w B A zs) (hl : zs.length ≤ 1000000) :
    Calls Tryz.prog 117 #[.slice A zs.length cap, .func (.func 136) #[] #[.pointer (some ⟨b, 0, none⟩)]] w fun e w' => e = .returned (.bool (zs.any (outB lo hi))) ∧ w = w' := by
  have H := grIndexInts_any lo hi b A cap zs B w hb hz hl
  have e := idxL_any (P := outB lo hi) zs 0
  rw [← e]
  generalize idxL (outB lo hi) zs 0 = i at H
  have HH := Lib.hid H
  clear H e hb hz
  go_enter Tryz.func117, Tryz.ntmps117
  go_wp2_with (go_at_call 160; refine HH.out.mono ?_; rintro e w' ⟨rfl, rfl⟩)
  go_ret
  exact ⟨rfl, rfl⟩

theorem grWithin_any (lo hi : Int) (A : Option Addr) (cap : Nat) (zs : List Int) (B : Nat) (w : World) (hB : B ≤ w.heap.size) (hz : Ints w B A zs) (hl : zs.length ≤ 1000000) :
    Calls Tryz.prog 93 #[.agg #[.int .i64 lo, .int .i64 hi], .slice A zs.length cap] w fun e w' => e = .returned (.bool (allB lo hi zs)) ∧ Below w.heap.size w w' := by
  have hg : Below w.heap.size w (w.alloc (.cells #[.int .i64 lo, .int .i64 hi] 50)) := (Below.refl _ _).alloc (Nat.le_refl _) _
  have H := grContainsInts_any lo hi w.heap.size A cap zs B (w.alloc (.cells #[.int .i64 lo, .int .i64 hi] 50)) (alloc_at0 w _) (hz.below (hg.mono hB)) hl
  have HH := Lib.hid H
  have HG := Lib.hid hg
  clear H hg hz
  rw [allB_any]
  generalize zs.any (outB lo hi) = v at HH
  go_enter Tryz.func93, Tryz.ntmps93
  go_wp2_with (go_at_call 117; refine HH.out.mono ?_; rintro e w' ⟨rfl, rfl⟩)
  go_ret
  exact ⟨rfl, HG.out⟩

theorem grUpTo_any (n : Int) (w : World) : Calls Tryz.prog 94 #[.int .i64 n] w fun e w' => e = .returned (.agg #[.int .i64 0, .int .i64 n]) ∧ Below w.heap.size w w' := by
  go_enter Tryz.func94, Tryz.ntmps94
  go_wp2
  refine bodyPost_ret (v := .agg #[.int .i64 0, .int .i64 n]) (by simp [results, Tryz.results94, go_sem]) rfl ⟨rfl, ?_⟩
  exact (Below.refl _ _).alloc (Nat.le_refl _) _

theorem grFromOne_any (n : Int) (w : World) : Calls Tryz.prog 101 #[.int .i64 n] w fun e w' => e = .returned (.agg #[.int .i64 1, .int .i64 n]) ∧ Below w.heap.size w w' := by
  go_enter Tryz.func101, Tryz.ntmps101
  go_wp2
  refine bodyPost_ret (v := .agg #[.int .i64 1, .int .i64 n]) (by simp [results, Tryz.results101, go_sem]) rfl ⟨rfl, ?_⟩
  exact (Below.refl _ _).alloc (Nat.le_refl _) _

theorem grWithin_new (lo hi : Int) (zs : List Int) (w : World) (b n c : Nat) (hn : n = zs.length) (hb : w.heap[b]? = some (.cells (ints zs).toArray 3 (0, 0))) (hl : zs.length ≤ 1000000) :
    Calls Tryz.prog 93 #[.agg #[.int .i64 lo, .int .i64 hi], .slice (some ⟨b, 0, none⟩) n c] w fun e w' => e = .returned (.bool (allB lo hi zs)) ∧ Below w.heap.size w w' := by
  subst hn
  exact grWithin_any lo hi (some ⟨b, 0, none⟩) c zs _ w (Nat.le_refl _) (ints_lit zs hb rfl) hl

theorem grEmpty_any (lo hi : Int) (w : World) : Calls Tryz.prog 142 #[.agg #[.int .i64 lo, .int .i64 hi]] w fun e w' => e = .returned (.bool (decide (hi < lo))) ∧ Below w.heap.size w w' := by
  go_enter Tryz.func142, Tryz.ntmps142
  go_wp2
  go_ret
  exact ⟨rfl, grow1 _ _⟩

theorem grValidSection_any (n : Int) (w : World) : Calls Tryz.prog 56 #[.int .i64 n] w fun e w' => e = .returned (.bool (allB 0 2 [n])) ∧ Below w.heap.size w w' := by
  have H := fun W => grWithin_new 0 2 [n] (W.alloc (.cells #[.int .i64 n] 3)) W.heap.size 1 1 rfl (alloc_at0 W _) (by simp)
  generalize allB 0 2 [n] = v at H
  have HH := Lib.hid H
  clear H
  go_enter Tryz.func56, Tryz.ntmps56
  go_wp2_with (first
    | (go_at_call 93; refine (HH.out _).mono ?_; rintro e w2 ⟨rfl, hB2⟩; have H2 := Lib.hid hB2; clear hB2)
    | (go_at_call 94; refine (grUpTo_any _ _).mono ?_; rintro e w1 ⟨rfl, hB1⟩; have H1 := Lib.hid hB1; clear hB1))
  go_ret
  exact ⟨rfl, H1.out.trans ((grow1 w1 _).trans (H2.out.mono (by simp)) |>.mono H1.out.size)⟩

end Go.Proofs.YtpnnlmaipcjkmaaGreat

namespace Go.Proofs.YtpnnlmaipcjkmaaGreat
open Go.RowKit
open R6 (done done_ne done_me upd_ne upd_me)

def keptK : List (Nat × Obj) → World → Prop
  | [], _ => True
  | e :: l, W => W.heap[e.1]? = some e.2 ∧ keptK l W
theorem keptK.next {W W' : World} (hg : Grows W W') : ∀ {K : List (Nat × Obj)}, keptK K W → keptK K W'
  | [], _ => trivial
  | _ :: _, h => ⟨(hg.block _ (lt_of_heap h.1)).trans h.1, keptK.next hg h.2⟩
theorem keptK.drew {W : World} : ∀ {K : List (Nat × Obj)}, keptK K W → keptK K W.drew
  | [], _ => trivial
  | _ :: _, h => ⟨h.1, keptK.drew h.2⟩

structure BoxM (w0 : World) (K : List (Nat × Obj)) (L : List (Nat × Nat)) (f : Nat → List Int) (D : Nat → Bool) (σ : Nat → Value) (W : World) : Prop where
  bel : Below w0.heap.size w0 W
  box : keptK K W
  new : ∀ e ∈ L, D e.1 = true → ∃ b, σ e.2 = .slice (some ⟨b, 0, none⟩) (f e.1).length (f e.1).length ∧ W.heap[b]? = some (.cells (ints (f e.1)).toArray 3 (0, 0))
def boxMK (L : List (Nat × Nat)) (k : Nat) (d : Option Nat) : Bool := L.all fun e => !(k == e.1 || d == some e.2)
def boxMM (L : List (Nat × Nat)) (k t : Nat) : Bool := L.all fun e => e == (k, t) || !(k == e.1 || t == e.2)
section
variable {w0 W W' : World} {K : List (Nat × Obj)} {L : List (Nat × Nat)} {f : Nat → List Int} {D : Nat → Bool} {σ : Nat → Value}
theorem BoxM.move {k : Nat} {d : Option Nat} {v : Value} (h : BoxM w0 K L f D σ W) (hk : boxMK L k d = true) : BoxM w0 K L f (done D k) (R4.upd σ d v) W := by
  refine ⟨h.bel, h.box, fun e he hD => ?_⟩
  have hk' := List.all_eq_true.1 hk e he
  simp only [Bool.not_eq_true', Bool.or_eq_false_iff, beq_eq_false_iff_ne, ne_eq] at hk'
  rw [done_ne (by omega)] at hD
  rw [upd_ne hk'.2]
  exact h.new e he hD
theorem BoxM.next (h : BoxM w0 K L f D σ W) (hg : Grows W W') : BoxM w0 K L f D σ W' :=
  ⟨h.bel.trans (hg.mono h.bel.size), h.box.next hg, fun e he hD => let ⟨b, h1, h2⟩ := h.new e he hD; ⟨b, h1, (hg.block _ (lt_of_heap h2)).trans h2⟩⟩
theorem BoxM.made {k t n : Nat} {cs : Array Value} (h : BoxM w0 K L f D σ W) (hk : boxMM L k t = true) (hc : cs = (ints (f k)).toArray) (hn : n = (f k).length) :
    BoxM w0 K L f (done D k) (R4.upd σ (some t) (.slice (some ⟨W.heap.size, 0, none⟩) n n)) (W.alloc (.cells cs 3)) := by
  subst hc hn
  have h' := h.next (grow1 W (.cells (ints (f k)).toArray 3))
  refine ⟨h'.bel, h'.box, fun e he hD => ?_⟩
  have hk' := List.all_eq_true.1 hk e he
  by_cases he2 : e = (k, t)
  · subst he2
    exact ⟨_, upd_me, alloc_at0 _ _⟩
  · simp only [Bool.or_eq_true, Bool.not_eq_true', Bool.or_eq_false_iff, beq_eq_false_iff_ne, ne_eq, beq_iff_eq, he2, false_or] at hk'
    rw [done_ne (by omega)] at hD
    rw [upd_ne (by simpa using hk'.2)]
    exact h'.new e he hD
theorem BoxM.start (hb : Below w0.heap.size w0 W) (hK : keptK K W) (hD : ∀ k, D k = false) : BoxM w0 K L f D σ W.drew :=
  ⟨hb.drew, hK.drew, fun e _ h => by rw [hD] at h; cases h⟩
end

def edgeM (ops : Array Oper) (i j : Nat) : Bool := match ops[i]? with
  | none => false
  | some o => o.after.any fun e => Region.binds .any e && e.on == j
theorem needs_edgeM {ops : Array Oper} {i j : Nat} (h : edgeM ops i j = true) : R6.needsI ops ops.size i j = true := by
  unfold edgeM at h
  cases ho : ops[i]? with
  | none => rw [ho] at h; cases h
  | some o =>
    rw [ho] at h
    have hs : ops.size ≠ 0 := fun e => by
      have := (Array.getElem?_eq_some_iff.1 ho).1
      omega
    obtain ⟨f, hf⟩ := Nat.exists_eq_succ_of_ne_zero hs
    rw [hf]
    unfold R6.needsI
    simp only [ho]
    simp only [Array.any_eq_true] at h ⊢
    obtain ⟨x, hx, hb⟩ := h
    refine ⟨x, hx, ?_⟩
    simp only [Bool.and_eq_true] at hb ⊢
    exact ⟨hb.1, by simp [hb.2]⟩

end Go.Proofs.YtpnnlmaipcjkmaaGreat
