/-
  Texts laid together: CdE, CeA.
-/
import Derived.Test.YtjjipkgconmfcaaB95
import Derived.Test.YtjjipkgconmfcaaB94
set_option linter.all false
namespace Go.Proofs.Ytjjipkgconmfcaa
open Go.RowKit
open R6 (done done_ne done_me upd_ne upd_me)

attribute [local go_sem] gives

/-- The levels of a pond. -/
def levL (p : Po) : Int → Int → List Int → List (Int × Int)
  | _, _, [] => []
  | lo, hi, z :: l => (leftZ lo p.oh + z, leftZ hi p.ol + z) :: levL p (leftZ lo p.oh + z) (leftZ hi p.ol + z) l
theorem levL_len (p : Po) : ∀ (l : List Int) (lo hi : Int), (levL p lo hi l).length = l.length
  | [], _, _ => rfl
  | z :: l, lo, hi => by simp [levL, levL_len p l]

/-- Parts are parts, drains are no more than what may be drained. -/
structure PoOk (p : Po) (zs : List Int) : Prop where
  l0 : 0 ≤ p.ol
  l1 : p.ol ≤ 1000
  h0 : 0 ≤ p.oh
  h1 : p.oh ≤ 1000
  lz : zs.length ≤ 40
  bz : Bnd 0 100000 zs

/-- Done, and to be done. -/
def rowL (a : List (Int × Int)) (r : Nat) : List Value := pairs (a ++ List.replicate r (0, 0))
theorem rowL_len (a : List (Int × Int)) (r : Nat) : (rowL a r).length = (a.length + r) * 2 := by simp [rowL, pairs_len]
theorem rowL_splice (a : List (Int × Int)) (r : Nat) (p : Int × Int) {k : Nat} (hk : a.length = k) : splice (rowL a (r + 1)) (k * 2) [.int .i64 p.1, .int .i64 p.2] = rowL (a ++ [p]) r := by
  have hl : (pairs a).length = k * 2 := by rw [pairs_len, hk]
  unfold splice rowL
  rw [show List.replicate (r + 1) ((0, 0) : Int × Int) = [(0, 0)] ++ List.replicate r (0, 0) from rfl]
  simp only [pairs_app, List.append_assoc]
  rw [List.take_left' hl, ← List.drop_drop, List.drop_left' hl]
  rfl

def fn2 (f g : Nat) (v : Array Value) : Array Value := #[.func (.func f) #[] v, .func (.func g) #[] v]

theorem alloc4_at3 (w : World) (A B C D : Obj) : ((((w.alloc A).alloc B).alloc C).alloc D).heap[w.heap.size + 1 + 1 + 1]? = some D := by have := alloc_at0 (((w.alloc A).alloc B).alloc C) D; simpa using this

/-- Where the loop is. -/
structure LevC (w : World) (fs : Array Value) (ty : TypeId) (lo hi : Int) (row : List Value) (W : World) : Prop where
  bel : Below w.heap.size w W
  sz : w.heap.size + 4 ≤ W.heap.size
  b5 : W.heap[w.heap.size + 1]? = some (.cells fs ty (0, 0))
  b7 : W.heap[w.heap.size + 1 + 1]? = some (.cells row.toArray 25 (0, 0))
  b8 : W.heap[w.heap.size + 1 + 1 + 1]? = some (.cells #[.int .i64 lo, .int .i64 hi] 25 (0, 0))

theorem start4 {w w4 : World} {X0 X3 : Obj} {lo hi : Int} {fs C : Array Value} {ty : TypeId} {Z : List Value} {b : Nat}
    (hP : Put ((((w.alloc X0).alloc (.cells fs ty)).alloc (.cells Z.toArray 25)).alloc X3) w4 b) (hb : b = w.heap.size + 1 + 1 + 1) (hM : w4.heap[b]? = some (.cells C 25 (0, 0))) (hC : C = #[.int .i64 lo, .int .i64 hi]) :
    LevC w fs ty lo hi Z w4 := by
  subst hb hC
  have hs := hP.size
  simp only [World.size_alloc] at hs
  have h1 := (hP.other (w.heap.size + 1) (by omega)).trans ((Below.heap_alloc _ _ _ (by simp)).trans (alloc3_at1 w X0 (.cells fs ty) (.cells Z.toArray 25)))
  have h2 := (hP.other (w.heap.size + 1 + 1) (by omega)).trans ((Below.heap_alloc _ _ _ (by simp)).trans (alloc3_at2 w X0 (.cells fs ty) (.cells Z.toArray 25)))
  exact ⟨(((((Below.refl _ w).alloc (Nat.le_refl _) _).alloc (by simp) _).alloc (by simp; omega) _).alloc (by simp; omega) _).trans (hP.below (by omega)), by omega, h1, h2, hM⟩

theorem LevC.step {w W W' : World} {fs : Array Value} {ty : TypeId} {lo hi lo' hi' : Int} {row : List Value} (h : LevC w fs ty lo hi row W) (hg : W.grownBy W' (some (w.heap.size + 1 + 1 + 1))) (hM : W'.heap[w.heap.size + 1 + 1 + 1]? = some (.cells #[.int .i64 lo', .int .i64 hi'] 25 (0, 0))) :
    LevC w fs ty lo' hi' row W' :=
  ⟨h.bel.grown hg h.bel.size (fun k e => by cases e; omega), Nat.le_trans h.sz hg.size, (hg.block _ (by have := h.sz; omega) (by simp)).trans h.b5, (hg.block _ (by have := h.sz; omega) (by simp)).trans h.b7, hM⟩
theorem LevC.put7 {w W W' : World} {fs : Array Value} {ty : TypeId} {lo hi : Int} {row row' : List Value} (h : LevC w fs ty lo hi row W) (hp : Put W W' (w.heap.size + 1 + 1)) (hM : W'.heap[w.heap.size + 1 + 1]? = some (.cells row'.toArray 25 (0, 0))) :
    LevC w fs ty lo hi row' W' :=
  ⟨h.bel.trans (hp.below (by omega)), by rw [hp.size]; exact h.sz, (hp.other _ (by omega)).trans h.b5, hM, (hp.other _ (by omega)).trans h.b8⟩

def DaysPost (w : World) (l : List (Int × Int)) (e : Ending) (w' : World) : Prop :=
  e = .returned (.slice (some ⟨w.heap.size + 1 + 1, 0, none⟩) l.length l.length) ∧ w'.heap[w.heap.size + 1 + 1]? = some (.cells (pairs l).toArray 25 (0, 0)) ∧ Below w.heap.size w w'

end Go.Proofs.Ytjjipkgconmfcaa

namespace Go.Proofs.Ytjjipkgconmfcaa
open Go.RowKit

/-- A batch without its poles. -/
structure Bt where
  water : Int
  borax : Int
  lo : Int
  hi : Int
  need : Int

/-- What flows from the outer to the inner one. -/
def fl (sp o c : Int) : Int := Int.tdiv ((o - c) * sp) 1000
def atR (r : List Int) (k : Nat) : Int := r[k]?.getD 0
def rowAt (ws : List (List Int)) (p : Nat) : List Int := ws[p]?.getD []
/-- What flows into a cell from the side of the vat. -/
def inFl (s sp : Int) (r : List Int) (k : Nat) : Int := if k < r.length then fl sp (if k = 0 then s else atR r (k - 1)) (atR r k) else 0
def hourRow (s sp : Int) (r : List Int) : List Int := (List.range r.length).map fun k => atR r k + (inFl s sp r k - inFl s sp r (k + 1))
def hourB (s sp b : Int) (ws : List (List Int)) : Int := b - (ws.map (inFl s sp · 0)).sum
abbrev St := Int × List (List Int)
def hourS (W sp : Int) (st : St) : St := (hourB (st.1 / W) sp st.1 st.2, st.2.map (hourRow (st.1 / W) sp))
def runS (W sp : Int) (st : St) : Nat → St
  | 0 => st
  | n + 1 => hourS W sp (runS W sp st n)
/-- The walls as the program has them: four of six cells. -/
def wallL (ws : List (List Int)) : List Int := (List.range 24).map fun i => atR (rowAt ws (i / 6)) (i % 6)

theorem wallL_len (ws : List (List Int)) : (wallL ws).length = 24 := by simp [wallL]
theorem wallL_at (ws : List (List Int)) (p c : Nat) (hp : p < 4) (hc : c < 6) : (wallL ws)[p * 6 + c]? = some (atR (rowAt ws p) c) := by
  have h : p * 6 + c < 24 := by omega
  simp only [wallL, List.getElem?_map, List.getElem?_range h, Option.map_some]
  rw [show (p * 6 + c) / 6 = p by omega, show (p * 6 + c) % 6 = c by omega]

theorem hourRow_len (s sp : Int) (r : List Int) : (hourRow s sp r).length = r.length := by simp [hourRow]
theorem hourRow_at (s sp : Int) (r : List Int) (k : Nat) : atR (hourRow s sp r) k = if k < r.length then atR r k + (inFl s sp r k - inFl s sp r (k + 1)) else 0 := by
  unfold hourRow
  by_cases h : k < r.length
  · simp only [atR, List.getElem?_map, List.getElem?_range h, Option.map_some, Option.getD_some, if_pos h]
  · rw [if_neg h]
    simp [atR, List.getElem?_map, List.getElem?_eq_none (show (List.range r.length).length ≤ k by simp; omega)]
theorem atR_out {r : List Int} {k : Nat} (h : ¬ k < r.length) : atR r k = 0 := by simp [atR, List.getElem?_eq_none (show r.length ≤ k by omega)]
theorem hourRow_all (s sp : Int) (r : List Int) (k : Nat) : atR (hourRow s sp r) k = atR r k + (inFl s sp r k - inFl s sp r (k + 1)) := by
  rw [hourRow_at]
  split
  · rfl
  · rename_i h
    rw [atR_out h]
    simp [inFl, h, show ¬ k + 1 < r.length by omega]

/-- Rows that are as they may be. -/
structure okRow (r : List Int) : Prop where
  l1 : 1 ≤ r.length
  l6 : r.length ≤ 6
  b0 : ∀ k, 0 ≤ atR r k
  b1 : ∀ k, atR r k ≤ 10000
structure GoodS (W : Int) (st : St) : Prop where
  w1 : 10 ≤ W
  w2 : W ≤ 10000
  b0 : 0 ≤ st.1
  bs : st.1 / W ≤ 10000
  n4 : st.2.length ≤ 4
  rows : ∀ r ∈ st.2, okRow r

theorem fl_up {sp o c : Int} (h1 : 1 ≤ sp) (h2 : sp ≤ 250) (h : c ≤ o) : 0 ≤ fl sp o c ∧ 4 * fl sp o c ≤ o - c := by
  have p0 : 0 ≤ (o - c) * sp := Int.mul_nonneg (by omega) (by omega)
  have p1 : (o - c) * sp ≤ (o - c) * 250 := Int.mul_le_mul_of_nonneg_left h2 (by omega)
  unfold fl
  rw [Int.tdiv_eq_ediv_of_nonneg p0]
  omega
theorem fl_neg (sp o c : Int) : fl sp o c = - fl sp c o := by
  unfold fl
  rw [← Int.neg_tdiv, ← Int.neg_mul, Int.neg_sub]
theorem fl_down {sp o c : Int} (h1 : 1 ≤ sp) (h2 : sp ≤ 250) (h : o ≤ c) : fl sp o c ≤ 0 ∧ o - c ≤ 4 * fl sp o c := by
  have := fl_up h1 h2 h
  rw [fl_neg]
  omega
theorem fl_bnd {sp o c : Int} (h1 : 1 ≤ sp) (h2 : sp ≤ 250) (o0 : 0 ≤ o) (o1 : o ≤ 10000) (c0 : 0 ≤ c) (c1 : c ≤ 10000) :
    4 * fl sp o c ≤ 10000 - c ∧ - c ≤ 4 * fl sp o c ∧ 4 * fl sp o c ≤ o ∧ o - 10000 ≤ 4 * fl sp o c := by
  rcases Int.le_total c o with h | h
  · have := fl_up h1 h2 h; omega
  · have := fl_down h1 h2 h; omega

theorem inFl_bnd {s sp : Int} {r : List Int} (h1 : 1 ≤ sp) (h2 : sp ≤ 250) (s0 : 0 ≤ s) (s1 : s ≤ 10000) (hr : okRow r) (k : Nat) :
    4 * inFl s sp r k ≤ 10000 - atR r k ∧ - atR r k ≤ 4 * inFl s sp r k ∧ (0 < k → 4 * inFl s sp r k ≤ atR r (k - 1) ∧ atR r (k - 1) - 10000 ≤ 4 * inFl s sp r k) ∧ (k = 0 → 4 * inFl s sp r k ≤ s ∧ s - 10000 ≤ 4 * inFl s sp r k) := by
  have b0 := hr.b0 k
  have b1 := hr.b1 k
  have c0 := hr.b0 (k - 1)
  have c1 := hr.b1 (k - 1)
  unfold inFl
  by_cases hk : k < r.length
  · rw [if_pos hk]
    by_cases h0 : k = 0
    · rw [if_pos h0]
      have := fl_bnd h1 h2 s0 s1 b0 b1
      exact ⟨this.1, this.2.1, fun h => by omega, fun _ => ⟨this.2.2.1, this.2.2.2⟩⟩
    · rw [if_neg h0]
      have := fl_bnd h1 h2 c0 c1 b0 b1
      exact ⟨this.1, this.2.1, fun _ => ⟨this.2.2.1, this.2.2.2⟩, fun h => absurd h h0⟩
  · rw [if_neg hk]
    exact ⟨by omega, by omega, fun _ => ⟨by omega, by omega⟩, fun _ => ⟨by omega, by omega⟩⟩

theorem hourRow_ok {s sp : Int} {r : List Int} (h1 : 1 ≤ sp) (h2 : sp ≤ 250) (s0 : 0 ≤ s) (s1 : s ≤ 10000) (hr : okRow r) : okRow (hourRow s sp r) := by
  have key : ∀ k, 0 ≤ atR (hourRow s sp r) k ∧ atR (hourRow s sp r) k ≤ 10000 := fun k => by
    rw [hourRow_all]
    have a := inFl_bnd h1 h2 s0 s1 hr k
    have b := (inFl_bnd h1 h2 s0 s1 hr (k + 1)).2.2.1 (by omega)
    rw [Nat.add_sub_cancel] at b
    have b0 := hr.b0 k
    have b1 := hr.b1 k
    omega
  exact ⟨by rw [hourRow_len]; exact hr.l1, by rw [hourRow_len]; exact hr.l6, fun k => (key k).1, fun k => (key k).2⟩

theorem sumFl_bnd {s sp : Int} (h1 : 1 ≤ sp) (h2 : sp ≤ 250) (s0 : 0 ≤ s) (s1 : s ≤ 10000) : ∀ (ws : List (List Int)), (∀ r ∈ ws, okRow r) → 4 * (ws.map (inFl s sp · 0)).sum ≤ ws.length * s ∧ ws.length * (s - 10000) ≤ 4 * (ws.map (inFl s sp · 0)).sum
  | [], _ => by simp
  | r :: ws, h => by
    have ih := sumFl_bnd h1 h2 s0 s1 ws (fun x hx => h x (List.mem_cons_of_mem _ hx))
    have a := (inFl_bnd h1 h2 s0 s1 (h r (List.mem_cons_self ..)) 0).2.2.2 rfl
    simp only [List.map_cons, List.sum_cons, List.length_cons, Int.natCast_add, Int.add_mul, Int.natCast_one, Int.one_mul]
    omega

theorem hourS_good {W sp : Int} {st : St} (h1 : 1 ≤ sp) (h2 : sp ≤ 250) (h : GoodS W st) : GoodS W (hourS W sp st) := by
  obtain ⟨w1, w2, b0, bs, n4, rows⟩ := h
  have s0 : 0 ≤ st.1 / W := Int.ediv_nonneg b0 (by omega)
  have hs := sumFl_bnd h1 h2 s0 bs st.2 rows
  have hlt : st.1 < (st.1 / W + 1) * W := Int.lt_ediv_add_one_mul_self _ (by omega)
  have hle : st.1 / W ≤ st.1 := Int.ediv_le_self _ b0
  have hm : (10000 - st.1 / W) * 1 ≤ (10000 - st.1 / W) * W := Int.mul_le_mul_of_nonneg_left (by omega) (by omega)
  have hb : hourB (st.1 / W) sp st.1 st.2 = st.1 - (st.2.map (inFl (st.1 / W) sp · 0)).sum := rfl
  have n0 : (st.2.length : Int) ≤ 4 := by omega
  have m1 : (st.2.length : Int) * (st.1 / W) ≤ 4 * (st.1 / W) := Int.mul_le_mul_of_nonneg_right n0 s0
  have m2 : (st.2.length : Int) * (10000 - st.1 / W) ≤ 4 * (10000 - st.1 / W) := Int.mul_le_mul_of_nonneg_right n0 (by omega)
  have m3 : (st.2.length : Int) * (st.1 / W - 10000) = - ((st.2.length : Int) * (10000 - st.1 / W)) := by rw [← Int.mul_neg, Int.neg_sub]
  rw [m3] at hs
  generalize hS : (st.2.map (inFl (st.1 / W) sp · 0)).sum = S at hb hs
  generalize hN : (st.2.length : Int) * (st.1 / W) = N1 at hs m1
  generalize hN2 : (st.2.length : Int) * (10000 - st.1 / W) = N2 at hs m2
  rw [Int.add_mul, Int.one_mul] at hlt
  rw [Int.mul_one, Int.sub_mul] at hm
  have hdiv : hourB (st.1 / W) sp st.1 st.2 / W ≤ 10000 := by
    have : hourB (st.1 / W) sp st.1 st.2 / W < 10001 := by
      refine Int.ediv_lt_of_lt_mul (by omega) ?_
      rw [hb]
      omega
    omega
  refine ⟨w1, w2, ?_, hdiv, ?_, ?_⟩
  · show 0 ≤ hourB (st.1 / W) sp st.1 st.2
    omega
  · simpa [hourS] using n4
  · intro r hr
    simp only [hourS, List.mem_map] at hr
    obtain ⟨q, hq, rfl⟩ := hr
    exact hourRow_ok h1 h2 s0 bs (rows q hq)
theorem runS_good {W sp : Int} {st : St} (h1 : 1 ≤ sp) (h2 : sp ≤ 250) (h : GoodS W st) : ∀ n, GoodS W (runS W sp st n)
  | 0 => h
  | n + 1 => hourS_good h1 h2 (runS_good h1 h2 h n)

/-- The lengths stay. -/
def lens (ws : List (List Int)) : List Nat := ws.map List.length
theorem lens_hour (W sp : Int) (st : St) : lens (hourS W sp st).2 = lens st.2 := by
  simp [lens, hourS, Function.comp_def, hourRow_len]
theorem lens_run (W sp : Int) (st : St) : ∀ n, lens (runS W sp st n).2 = lens st.2
  | 0 => rfl
  | n + 1 => (lens_hour W sp _).trans (lens_run W sp st n)
theorem lens_len {a b : List (List Int)} (h : lens a = lens b) : a.length = b.length := by simpa [lens] using congrArg List.length h
theorem lens_at {a b : List (List Int)} (h : lens a = lens b) (p : Nat) : (rowAt a p).length = (rowAt b p).length := by
  have : (lens a)[p]?.getD 0 = (lens b)[p]?.getD 0 := by rw [h]
  simp only [lens, List.getElem?_map] at this
  unfold rowAt
  cases ha : a[p]? <;> cases hb : b[p]? <;> simp [ha, hb] at this ⊢ <;> omega

/-- What is conserved. -/
theorem sum_range_tel (f : Nat → Int) : ∀ n, ((List.range n).map fun k => f k - f (k + 1)).sum = f 0 - f n
  | 0 => by simp
  | n + 1 => by
    rw [List.range_succ, List.map_append, List.sum_append, sum_range_tel f n]
    simp
    omega
theorem sum_range_add (f g : Nat → Int) : ∀ n, ((List.range n).map fun k => f k + g k).sum = ((List.range n).map f).sum + ((List.range n).map g).sum
  | 0 => by simp
  | n + 1 => by
    rw [List.range_succ, List.map_append, List.sum_append, sum_range_add f g n]
    simp
    omega
theorem range_atR : ∀ (r : List Int), (List.range r.length).map (atR r) = r := fun r => by
  apply List.ext_getElem?
  intro i
  by_cases h : i < r.length
  · simp [atR, h]
  · simp [h]
theorem hourRow_sum (s sp : Int) (r : List Int) : (hourRow s sp r).sum = r.sum + inFl s sp r 0 := by
  unfold hourRow
  rw [sum_range_add, sum_range_tel, range_atR]
  simp [inFl]
def massL (ws : List (List Int)) : Int := (ws.map List.sum).sum
theorem massL_hour (s sp : Int) : ∀ (ws : List (List Int)), massL (ws.map (hourRow s sp)) = massL ws + (ws.map (inFl s sp · 0)).sum
  | [] => by simp [massL]
  | r :: ws => by
    have ih := massL_hour s sp ws
    unfold massL at ih ⊢
    simp only [List.map_cons, List.sum_cons]
    rw [ih, hourRow_sum]
    omega
theorem mass_hour (W sp : Int) (st : St) : (hourS W sp st).1 + massL (hourS W sp st).2 = st.1 + massL st.2 := by
  show hourB _ _ _ _ + massL (st.2.map _) = _
  rw [massL_hour]
  unfold hourB
  omega
theorem mass_run (W sp : Int) (st : St) : ∀ n, (runS W sp st n).1 + massL (runS W sp st n).2 = st.1 + massL st.2
  | 0 => rfl
  | n + 1 => (mass_hour W sp _).trans (mass_run W sp st n)

/-- When nothing changes any more. -/
theorem hourS_fix {W sp : Int} {st : St} (h : (hourS W sp st).2 = st.2) : hourS W sp st = st := by
  have := mass_hour W sp st
  rw [h] at this
  exact Prod.ext (by omega) h
theorem runS_fix {W sp : Int} {st : St} {m : Nat} (h : (runS W sp st (m + 1)).2 = (runS W sp st m).2) : ∀ j, runS W sp st (m + j) = runS W sp st m
  | 0 => rfl
  | j + 1 => by
    show hourS W sp (runS W sp st (m + j)) = _
    rw [runS_fix h j]
    exact hourS_fix h

theorem rows_ext {a b : List (List Int)} (hl : lens a = lens b) (h : ∀ p c, p < a.length → atR (rowAt a p) c = atR (rowAt b p) c) : a = b := by
  have hL := lens_len hl
  apply List.ext_getElem hL
  intro p h1 h2
  have hlp := lens_at hl p
  have hp := fun c => h p c h1
  have e1 : rowAt a p = a[p] := by simp [rowAt, h1]
  have e2 : rowAt b p = b[p] := by simp [rowAt, h2]
  rw [e1, e2] at hlp
  simp only [e1, e2] at hp
  apply List.ext_getElem hlp
  intro c h3 h4
  have := hp c
  simpa [atR, h3, h4] using this
theorem wallL_inj {a b : List (List Int)} (hl : lens a = lens b) (n4 : a.length ≤ 4) (h6 : ∀ r ∈ a, r.length ≤ 6) (h : wallL a = wallL b) : a = b := by
  refine rows_ext hl fun p c hp => ?_
  have hlp := lens_at hl p
  by_cases hc : c < 6
  · have e1 := wallL_at a p c (by omega) hc
    have e2 := wallL_at b p c (by omega) hc
    rw [h] at e1
    exact (Option.some.inj (e1.symm.trans e2))
  · have hm : (rowAt a p).length ≤ 6 := by
      have e1 : rowAt a p = a[p] := by simp [rowAt, hp]
      rw [e1]
      exact h6 _ (List.getElem_mem hp)
    rw [atR_out (by omega), atR_out (by omega)]

/-- The first one of a row of numbers at which it stops, or the last one. -/
def lastK (F : Nat → Bool) : Nat → Nat → Nat
  | 0, k => k
  | n + 1, k => if F k = true then k else lastK F n (k + 1)
theorem lastK_le (F : Nat → Bool) : ∀ n k, k ≤ lastK F n k ∧ lastK F n k ≤ k + n
  | 0, k => by simp [lastK]
  | n + 1, k => by
    have := lastK_le F n (k + 1)
    simp only [lastK]
    split <;> omega
theorem lastK_go (F : Nat → Bool) : ∀ n k j, k ≤ j → j < lastK F n k → F j = false
  | 0, k, j, h1, h2 => by simp only [lastK] at h2; omega
  | n + 1, k, j, h1, h2 => by
    simp only [lastK] at h2
    split at h2
    · omega
    · rename_i hF
      by_cases e : j = k
      · subst e; simpa using hF
      · exact lastK_go F n (k + 1) j (by omega) h2
theorem lastK_stop (F : Nat → Bool) : ∀ n k, lastK F n k = k + n ∨ F (lastK F n k) = true
  | 0, k => .inl (by simp [lastK])
  | n + 1, k => by
    simp only [lastK]
    split
    · rename_i h; exact .inr h
    · rcases lastK_stop F n (k + 1) with h | h
      · exact .inl (by omega)
      · exact .inr h

/-- Whether the walls stay from one hour to the next. -/
def fixB (W sp : Int) (st : St) (k : Nat) : Bool := wallL (runS W sp st (k + 1)).2 == wallL (runS W sp st k).2
def stopK (W sp : Int) (st : St) (last : Nat) : Nat := lastK (fixB W sp st) last 0
theorem runS_stop {W sp : Int} {st : St} (h1 : 1 ≤ sp) (h2 : sp ≤ 250) (h : GoodS W st) (last : Nat) : ∀ n, stopK W sp st last ≤ n → n ≤ last → runS W sp st n = runS W sp st (stopK W sp st last) := by
  intro n hn hl
  rcases lastK_stop (fixB W sp st) last 0 with e | e
  · have : n = stopK W sp st last := by unfold stopK at hn ⊢; omega
    rw [this]
  · change fixB W sp st (stopK W sp st last) = true at e
    generalize stopK W sp st last = m at e hn
    have hw : wallL (runS W sp st (m + 1)).2 = wallL (runS W sp st m).2 := by simpa [fixB] using e
    have hg := runS_good h1 h2 h (m + 1)
    have hx := wallL_inj ((lens_run W sp st (m + 1)).trans (lens_run W sp st m).symm) hg.n4 (fun r hr => (hg.rows r hr).l6) hw
    have := runS_fix hx (n - m)
    rw [show m + (n - m) = n by omega] at this
    exact this

end Go.Proofs.Ytjjipkgconmfcaa
