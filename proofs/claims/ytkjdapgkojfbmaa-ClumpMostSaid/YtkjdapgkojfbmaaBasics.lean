/-
  Our own small words: a slice of ints that reads as a list; facts on integers.
-/
import Derived.Test.YtkjdapgkojfbmaaProg
import Derived.WalkKit
import Derived.WalkSpells
import Derived.WalkLawsBesides
import Derived.Lib.Hide
namespace Go.Proofs.Ytkjdapgkojfbmaa
open Go.RowKit

/-- The slice at address A holds the ints zs, in a block below B (nothing is asked of an empty one). -/
def Ints (w : World) (B : Nat) (A : Option Addr) (zs : List Int) : Prop :=
  0 < zs.length → ∃ b off, A = some ⟨b, off, none⟩ ∧ b < B ∧ ∀ k, k < zs.length → w.cell? ⟨b, off + k, none⟩ = some (.int .i64 (zs[k]?.getD 0))

theorem Ints.below {w w' : World} {B : Nat} {A : Option Addr} {zs : List Int} (h : Ints w B A zs) (hb : Below B w w') : Ints w' B A zs := fun hl => by
  obtain ⟨b, off, rfl, hlt, hc⟩ := h hl
  exact ⟨b, off, rfl, hlt, fun k hk => (hb.cell (p := ⟨b, off + k, none⟩) hlt).trans (hc k hk)⟩
theorem Ints.mono {w : World} {B B' : Nat} {A : Option Addr} {zs : List Int} (h : Ints w B A zs) (hB : B ≤ B') : Ints w B' A zs := fun hl => by
  obtain ⟨b, off, rfl, hlt, hc⟩ := h hl
  exact ⟨b, off, rfl, by omega, hc⟩

theorem ret_int {k : IntKind} {a b : Int} (h : a = b) : Ending.returned (.int k a) = .returned (.int k b) := by rw [h]

/-- Each number is from lo to hi. -/
def Bnd (lo hi : Int) (zs : List Int) : Prop := ∀ k, k < zs.length → lo ≤ zs[k]?.getD 0 ∧ zs[k]?.getD 0 ≤ hi

theorem sum_take_succ (zs : List Int) (k : Nat) (hk : k < zs.length) : (zs.take (k + 1)).sum = (zs.take k).sum + zs[k]?.getD 0 := by
  rw [List.take_add_one, List.sum_append]; simp [List.getElem?_eq_getElem hk]
theorem sum_take_bnd {lo hi : Int} {zs : List Int} (h : Bnd lo hi zs) : ∀ k, k ≤ zs.length → lo * k ≤ (zs.take k).sum ∧ (zs.take k).sum ≤ hi * k := by
  intro k
  induction k with
  | zero => simp
  | succ k ih =>
    intro hk
    have h1 := ih (by omega)
    have h2 := h k (by omega)
    rw [sum_take_succ zs k (by omega)]
    have e1 : lo * ((k + 1 : Nat) : Int) = lo * k + lo := by push_cast; rw [Int.mul_add]; simp
    have e2 : hi * ((k + 1 : Nat) : Int) = hi * k + hi := by push_cast; rw [Int.mul_add]; simp
    omega

theorem alloc_at0 (w : World) (A : Obj) : (w.alloc A).heap[w.heap.size]? = some A := heap_alloc_new w A
theorem alloc2_at0 (w : World) (A B : Obj) : ((w.alloc A).alloc B).heap[w.heap.size]? = some A := (Below.heap_alloc _ _ _ (by simp)).trans (alloc_at0 w A)
theorem alloc2_at1 (w : World) (A B : Obj) : ((w.alloc A).alloc B).heap[w.heap.size + 1]? = some B := by have := alloc_at0 (w.alloc A) B; simpa using this
theorem alloc3_at0 (w : World) (A B C : Obj) : (((w.alloc A).alloc B).alloc C).heap[w.heap.size]? = some A := (Below.heap_alloc _ _ _ (by simp; omega)).trans (alloc2_at0 w A B)
theorem alloc3_at1 (w : World) (A B C : Obj) : (((w.alloc A).alloc B).alloc C).heap[w.heap.size + 1]? = some B := (Below.heap_alloc _ _ _ (by simp)).trans (alloc2_at1 w A B)
theorem alloc3_at2 (w : World) (A B C : Obj) : (((w.alloc A).alloc B).alloc C).heap[w.heap.size + 1 + 1]? = some C := by have := alloc_at0 ((w.alloc A).alloc B) C; simpa using this

/-- Two stores into two blocks. -/
theorem set2 {w : World} {P G i j : Nat} {cs ds : Array Value} {t s : TypeId} (hP : w.heap[P]? = some (.cells cs t (0, 0))) (hG : w.heap[G]? = some (.cells ds s (0, 0))) (hne : P ≠ G) (u v : Value) :
    ((w.setCell ⟨G, j, none⟩ u).setCell ⟨P, i, none⟩ v).heap[P]? = some (.cells (cs.setIfInBounds i v) t (0, 0)) ∧
    ((w.setCell ⟨G, j, none⟩ u).setCell ⟨P, i, none⟩ v).heap[G]? = some (.cells (ds.setIfInBounds j u) s (0, 0)) ∧
    ∀ k, k ≠ P → k ≠ G → ((w.setCell ⟨G, j, none⟩ u).setCell ⟨P, i, none⟩ v).heap[k]? = w.heap[k]? :=
  ⟨heap_setCell_same _ _ _ _ _ _ ((heap_setCell_other _ _ _ _ hne).trans hP),
   (heap_setCell_other _ _ _ _ hne.symm).trans (heap_setCell_same _ _ _ _ _ _ hG),
   fun _ h1 h2 => (heap_setCell_other _ _ _ _ h1).trans (heap_setCell_other _ _ _ _ h2)⟩

/-! ### Groves at work: six numbers of the habit, and seven of the culms -/
structure Hab where
  lo : Int
  hi : Int
  bears : Int
  ripe : Int
  dies : Int
  keep : Int

def ints (l : List Int) : List Value := l.map (Value.int .i64)
def hcells (h : Hab) : List Value := [.int .i64 h.lo, .int .i64 h.hi, .int .i64 h.bears, .int .i64 h.ripe, .int .i64 h.dies, .int .i64 h.keep]
def gcells (h : Hab) (c : List Int) : Array Value := (hcells h ++ ints c).toArray
def gv (h : Hab) (c : List Int) : Value := .agg (gcells h c)

theorem len7 {c : List Int} (hc : c.length = 7) : ∃ c0 c1 c2 c3 c4 c5 c6, c = [c0, c1, c2, c3, c4, c5, c6] := by
  match c, hc with
  | [c0, c1, c2, c3, c4, c5, c6], _ => exact ⟨c0, c1, c2, c3, c4, c5, c6, rfl⟩

theorem gcells_at (h : Hab) (c : List Int) (k : Nat) (hk : k < c.length) : (gcells h c)[6 + k]? = some (.int .i64 (c[k]?.getD 0)) := by
  unfold gcells
  rw [List.getElem?_toArray, List.getElem?_append_right (by simp [hcells])]
  simp [hcells, ints, hk]
theorem gcells_set (h : Hab) (c : List Int) (k : Nat) (x : Int) : (gcells h c).setIfInBounds (6 + k) (.int .i64 x) = gcells h (c.set k x) := by
  unfold gcells
  rw [List.setIfInBounds_toArray, List.set_append_right _ _ (by simp [hcells])]
  simp [hcells, ints, List.map_set]

theorem ints_at (c : List Int) (k : Nat) (hk : k < c.length) : (ints c).toArray[k]? = some (.int .i64 (c[k]?.getD 0)) := by
  rw [List.getElem?_toArray]; simp [ints, hk]
theorem ints_set (c : List Int) (k : Nat) (x : Int) : (ints c).toArray.setIfInBounds k (.int .i64 x) = (ints (c.set k x)).toArray := by
  rw [List.setIfInBounds_toArray]; simp [ints, List.map_set]

/-- The culms of a grove in a block of its own, from some age on, are a slice of ints. -/
theorem ints_of_block {w : World} {g B r : Nat} {t : TypeId} {h : Hab} {c : List Int} (hb : w.heap[g]? = some (.cells (gcells h c) t (0, 0))) (hB : g < B) (n : Nat) (hn : r + n ≤ c.length) :
    Ints w B (some ⟨g, 6 + r, none⟩) ((c.drop r).take n) := by
  intro _
  refine ⟨g, 6 + r, rfl, hB, fun k hk => ?_⟩
  simp only [List.length_take, List.length_drop] at hk
  rw [cell_of_row w g _ _ _ _ hb, Nat.add_assoc, gcells_at h c (r + k) (by omega)]
  simp [List.getElem?_take, List.getElem?_drop]
  rw [if_pos (by omega)]

end Go.Proofs.Ytkjdapgkojfbmaa
