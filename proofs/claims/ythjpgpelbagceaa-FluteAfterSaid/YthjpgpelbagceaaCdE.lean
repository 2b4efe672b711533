/-
  Levels, day by day.
-/
import Derived.Test.YthjpgpelbagceaaCdD
set_option linter.all false
namespace Go.Proofs.Ythjpgpelbagceaa
open Go.RowKit
open R6 (done done_ne done_me upd_ne upd_me)

attribute [local go_sem] gives

/-- The levels of a pond. -/
def levL (p : Po) : Int → Int → List Int → List (Int × Int)
  | _, _, [] => []
  | lo, hi, z :: l => (leftZ lo p.oh + z, leftZ hi p.ol + z) :: levL p (leftZ lo p.oh + z) (leftZ hi p.ol + z) l
theorem levL_len (p : Po) : ∀ (l : List Int) (lo hi : Int), (levL p lo hi l).length = l.length
  | [], _, _ => rfl
  | z :: l, lo, hi => by simp [levL, levL_len p l]

/-- Parts are parts, drains are no more than what may be drained. -/
structure PoOk (p : Po) (zs : List Int) : Prop where
  l0 : 0 ≤ p.ol
  l1 : p.ol ≤ 1000
  h0 : 0 ≤ p.oh
  h1 : p.oh ≤ 1000
  lz : zs.length ≤ 40
  bz : Bnd 0 100000 zs

/-- Done, and to be done. -/
def rowL (a : List (Int × Int)) (r : Nat) : List Value := pairs (a ++ List.replicate r (0, 0))
theorem rowL_len (a : List (Int × Int)) (r : Nat) : (rowL a r).length = (a.length + r) * 2 := by simp [rowL, pairs_len]
theorem rowL_splice (a : List (Int × Int)) (r : Nat) (p : Int × Int) {k : Nat} (hk : a.length = k) : splice (rowL a (r + 1)) (k * 2) [.int .i64 p.1, .int .i64 p.2] = rowL (a ++ [p]) r := by
  have hl : (pairs a).length = k * 2 := by rw [pairs_len, hk]
  unfold splice rowL
  rw [show List.replicate (r + 1) ((0, 0) : Int × Int) = [(0, 0)] ++ List.replicate r (0, 0) from rfl]
  simp only [pairs_app, List.append_assoc]
  rw [List.take_left' hl, ← List.drop_drop, List.drop_left' hl]
  rfl

def fn2 (f g : Nat) (v : Array Value) : Array Value := #[.func (.func f) #[] v, .func (.func g) #[] v]

theorem alloc4_at3 (w : World) (A B C D : Obj) : ((((w.alloc A).alloc B).alloc C).alloc D).heap[w.heap.size + 1 + 1 + 1]? = some D := by have := alloc_at0 (((w.alloc A).alloc B).alloc C) D; simpa using this

/-- Where the loop is. -/
structure LevC (w : World) (fs : Array Value) (ty : TypeId) (lo hi : Int) (row : List Value) (W : World) : Prop where
  bel : Below w.heap.size w W
  sz : w.heap.size + 4 ≤ W.heap.size
  b5 : W.heap[w.heap.size + 1]? = some (.cells fs ty (0, 0))
  b7 : W.heap[w.heap.size + 1 + 1]? = some (.cells row.toArray 25 (0, 0))
  b8 : W.heap[w.heap.size + 1 + 1 + 1]? = some (.cells #[.int .i64 lo, .int .i64 hi] 25 (0, 0))

theorem start4 {w w4 : World} {X0 X3 : Obj} {lo hi : Int} {fs C : Array Value} {ty : TypeId} {Z : List Value} {b : Nat}
    (hP : Put ((((w.alloc X0).alloc (.cells fs ty)).alloc (.cells Z.toArray 25)).alloc X3) w4 b) (hb : b = w.heap.size + 1 + 1 + 1) (hM : w4.heap[b]? = some (.cells C 25 (0, 0))) (hC : C = #[.int .i64 lo, .int .i64 hi]) :
    LevC w fs ty lo hi Z w4 := by
  subst hb hC
  have hs := hP.size
  simp only [World.size_alloc] at hs
  have h1 := (hP.other (w.heap.size + 1) (by omega)).trans ((Below.heap_alloc _ _ _ (by simp)).trans (alloc3_at1 w X0 (.cells fs ty) (.cells Z.toArray 25)))
  have h2 := (hP.other (w.heap.size + 1 + 1) (by omega)).trans ((Below.heap_alloc _ _ _ (by simp)).trans (alloc3_at2 w X0 (.cells fs ty) (.cells Z.toArray 25)))
  exact ⟨(((((Below.refl _ w).alloc (Nat.le_refl _) _).alloc (by simp) _).alloc (by simp; omega) _).alloc (by simp; omega) _).trans (hP.below (by omega)), by omega, h1, h2, hM⟩

theorem LevC.step {w W W' : World} {fs : Array Value} {ty : TypeId} {lo hi lo' hi' : Int} {row : List Value} (h : LevC w fs ty lo hi row W) (hg : W.grownBy W' (some (w.heap.size + 1 + 1 + 1))) (hM : W'.heap[w.heap.size + 1 + 1 + 1]? = some (.cells #[.int .i64 lo', .int .i64 hi'] 25 (0, 0))) :
    LevC w fs ty lo' hi' row W' :=
  ⟨h.bel.grown hg h.bel.size (fun k e => by cases e; omega), Nat.le_trans h.sz hg.size, (hg.block _ (by have := h.sz; omega) (by simp)).trans h.b5, (hg.block _ (by have := h.sz; omega) (by simp)).trans h.b7, hM⟩
theorem LevC.put7 {w W W' : World} {fs : Array Value} {ty : TypeId} {lo hi : Int} {row row' : List Value} (h : LevC w fs ty lo hi row W) (hp : Put W W' (w.heap.size + 1 + 1)) (hM : W'.heap[w.heap.size + 1 + 1]? = some (.cells row'.toArray 25 (0, 0))) :
    LevC w fs ty lo hi row' W' :=
  ⟨h.bel.trans (hp.below (by omega)), by rw [hp.size]; exact h.sz, (hp.other _ (by omega)).trans h.b5, hM, (hp.other _ (by omega)).trans h.b8⟩

def DaysPost (w : World) (l : List (Int × Int)) (e : Ending) (w' : World) : Prop :=
  e = .returned (.slice (some ⟨w.heap.size + 1 + 1, 0, none⟩) l.length l.length) ∧ w'.heap[w.heap.size + 1 + 1]? = some (.cells (pairs l).toArray 25 (0, 0)) ∧ Below w.heap.size w w'

end Go.Proofs.Ythjpgpelbagceaa
