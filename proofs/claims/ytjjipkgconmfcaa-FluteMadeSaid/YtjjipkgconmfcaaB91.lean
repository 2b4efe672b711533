/-
  Texts laid together: G1.
-/
import Derived.Test.YtjjipkgconmfcaaProg
import Derived.WalkKit
import Derived.WalkSpells
import Derived.WalkLawsBesides
import Derived.Lib.Hide
import Derived.Maps.AppendAt
import Derived.Orders
import Derived.KernelRfl
import Derived.Tactics
import Derived.Tactics2
import Derived.RangeFuncMany
import Derived.RangeFuncLeaves
import Derived.Deep.MidRow
import Derived.OwnWalkIn
import Derived.Laws.CopyOwn
set_option linter.all false
namespace Go.Proofs.Ytjjipkgconmfcaa
open Go.RowKit

/-- The slice at address A holds the ints zs, in a block below B (nothing is asked of an empty one). -/
def Ints (w : World) (B : Nat) (A : Option Addr) (zs : List Int) : Prop :=
  0 < zs.length → ∃ b off, A = some ⟨b, off, none⟩ ∧ b < B ∧ ∀ k, k < zs.length → w.cell? ⟨b, off + k, none⟩ = some (.int .i64 (zs[k]?.getD 0))

theorem Ints.below {w w' : World} {B : Nat} {A : Option Addr} {zs : List Int} (h : Ints w B A zs) (hb : Below B w w') : Ints w' B A zs := fun hl => by
  obtain ⟨b, off, rfl, hlt, hc⟩ := h hl
  exact ⟨b, off, rfl, hlt, fun k hk => (hb.cell (p := ⟨b, off + k, none⟩) hlt).trans (hc k hk)⟩
theorem Ints.mono {w : World} {B B' : Nat} {A : Option Addr} {zs : List Int} (h : Ints w B A zs) (hB : B ≤ B') : Ints w B' A zs := fun hl => by
  obtain ⟨b, off, rfl, hlt, hc⟩ := h hl
  exact ⟨b, off, rfl, by omega, hc⟩

theorem ret_int {k : IntKind} {a b : Int} (h : a = b) : Ending.returned (.int k a) = .returned (.int k b) := by rw [h]

/-- Each number is from lo to hi. -/
def Bnd (lo hi : Int) (zs : List Int) : Prop := ∀ k, k < zs.length → lo ≤ zs[k]?.getD 0 ∧ zs[k]?.getD 0 ≤ hi

theorem sum_take_succ (zs : List Int) (k : Nat) (hk : k < zs.length) : (zs.take (k + 1)).sum = (zs.take k).sum + zs[k]?.getD 0 := by
  rw [List.take_add_one, List.sum_append]; simp [List.getElem?_eq_getElem hk]
theorem sum_take_bnd {lo hi : Int} {zs : List Int} (h : Bnd lo hi zs) : ∀ k, k ≤ zs.length → lo * k ≤ (zs.take k).sum ∧ (zs.take k).sum ≤ hi * k := by
  intro k
  induction k with
  | zero => simp
  | succ k ih =>
    intro hk
    have h1 := ih (by omega)
    have h2 := h k (by omega)
    rw [sum_take_succ zs k (by omega)]
    have e1 : lo * ((k + 1 : Nat) : Int) = lo * k + lo := by push_cast; rw [Int.mul_add]; simp
    have e2 : hi * ((k + 1 : Nat) : Int) = hi * k + hi := by push_cast; rw [Int.mul_add]; simp
    omega

theorem alloc_at0 (w : World) (A : Obj) : (w.alloc A).heap[w.heap.size]? = some A := heap_alloc_new w A
theorem alloc2_at0 (w : World) (A B : Obj) : ((w.alloc A).alloc B).heap[w.heap.size]? = some A := (Below.heap_alloc _ _ _ (by simp)).trans (alloc_at0 w A)
theorem alloc2_at1 (w : World) (A B : Obj) : ((w.alloc A).alloc B).heap[w.heap.size + 1]? = some B := by have := alloc_at0 (w.alloc A) B; simpa using this
theorem alloc3_at0 (w : World) (A B C : Obj) : (((w.alloc A).alloc B).alloc C).heap[w.heap.size]? = some A := (Below.heap_alloc _ _ _ (by simp; omega)).trans (alloc2_at0 w A B)
theorem alloc3_at1 (w : World) (A B C : Obj) : (((w.alloc A).alloc B).alloc C).heap[w.heap.size + 1]? = some B := (Below.heap_alloc _ _ _ (by simp)).trans (alloc2_at1 w A B)
theorem alloc3_at2 (w : World) (A B C : Obj) : (((w.alloc A).alloc B).alloc C).heap[w.heap.size + 1 + 1]? = some C := by have := alloc_at0 ((w.alloc A).alloc B) C; simpa using this

/-- Two stores into two blocks. -/
theorem set2 {w : World} {P G i j : Nat} {cs ds : Array Value} {t s : TypeId} (hP : w.heap[P]? = some (.cells cs t (0, 0))) (hG : w.heap[G]? = some (.cells ds s (0, 0))) (hne : P ≠ G) (u v : Value) :
    ((w.setCell ⟨G, j, none⟩ u).setCell ⟨P, i, none⟩ v).heap[P]? = some (.cells (cs.setIfInBounds i v) t (0, 0)) ∧
    ((w.setCell ⟨G, j, none⟩ u).setCell ⟨P, i, none⟩ v).heap[G]? = some (.cells (ds.setIfInBounds j u) s (0, 0)) ∧
    ∀ k, k ≠ P → k ≠ G → ((w.setCell ⟨G, j, none⟩ u).setCell ⟨P, i, none⟩ v).heap[k]? = w.heap[k]? :=
  ⟨heap_setCell_same _ _ _ _ _ _ ((heap_setCell_other _ _ _ _ hne).trans hP),
   (heap_setCell_other _ _ _ _ hne.symm).trans (heap_setCell_same _ _ _ _ _ _ hG),
   fun _ h1 h2 => (heap_setCell_other _ _ _ _ h1).trans (heap_setCell_other _ _ _ _ h2)⟩

/-! ### Groves at work: six numbers of the habit, and seven of the culms -/
structure Hab where
  lo : Int
  hi : Int
  bears : Int
  ripe : Int
  dies : Int
  keep : Int

def ints (l : List Int) : List Value := l.map (Value.int .i64)
def hcells (h : Hab) : List Value := [.int .i64 h.lo, .int .i64 h.hi, .int .i64 h.bears, .int .i64 h.ripe, .int .i64 h.dies, .int .i64 h.keep]
def gcells (h : Hab) (c : List Int) : Array Value := (hcells h ++ ints c).toArray
def gv (h : Hab) (c : List Int) : Value := .agg (gcells h c)

theorem len7 {c : List Int} (hc : c.length = 7) : ∃ c0 c1 c2 c3 c4 c5 c6, c = [c0, c1, c2, c3, c4, c5, c6] := by
  match c, hc with
  | [c0, c1, c2, c3, c4, c5, c6], _ => exact ⟨c0, c1, c2, c3, c4, c5, c6, rfl⟩

theorem gcells_at (h : Hab) (c : List Int) (k : Nat) (hk : k < c.length) : (gcells h c)[6 + k]? = some (.int .i64 (c[k]?.getD 0)) := by
  unfold gcells
  rw [List.getElem?_toArray, List.getElem?_append_right (by simp [hcells])]
  simp [hcells, ints, hk]
theorem gcells_set (h : Hab) (c : List Int) (k : Nat) (x : Int) : (gcells h c).setIfInBounds (6 + k) (.int .i64 x) = gcells h (c.set k x) := by
  unfold gcells
  rw [List.setIfInBounds_toArray, List.set_append_right _ _ (by simp [hcells])]
  simp [hcells, ints, List.map_set]

theorem ints_at (c : List Int) (k : Nat) (hk : k < c.length) : (ints c).toArray[k]? = some (.int .i64 (c[k]?.getD 0)) := by
  rw [List.getElem?_toArray]; simp [ints, hk]
theorem ints_set (c : List Int) (k : Nat) (x : Int) : (ints c).toArray.setIfInBounds k (.int .i64 x) = (ints (c.set k x)).toArray := by
  rw [List.setIfInBounds_toArray]; simp [ints, List.map_set]

/-- The culms of a grove in a block of its own, from some age on, are a slice of ints. -/
theorem ints_of_block {w : World} {g B r : Nat} {t : TypeId} {h : Hab} {c : List Int} (hb : w.heap[g]? = some (.cells (gcells h c) t (0, 0))) (hB : g < B) (n : Nat) (hn : r + n ≤ c.length) :
    Ints w B (some ⟨g, 6 + r, none⟩) ((c.drop r).take n) := by
  intro _
  refine ⟨g, 6 + r, rfl, hB, fun k hk => ?_⟩
  simp only [List.length_take, List.length_drop] at hk
  rw [cell_of_row w g _ _ _ _ hb, Nat.add_assoc, gcells_at h c (r + k) (by omega)]
  simp [List.getElem?_take, List.getElem?_drop]
  rw [if_pos (by omega)]

end Go.Proofs.Ytjjipkgconmfcaa

namespace Go.Proofs.Ytjjipkgconmfcaa
open Go.RowKit

/-- The slice at address A holds the cells vs, in a block below B (nothing is asked of an empty one). -/
def Vals (w : World) (B : Nat) (A : Option Addr) (vs : List Value) : Prop :=
  0 < vs.length → ∃ b off, A = some ⟨b, off, none⟩ ∧ b < B ∧ ∀ j u, vs[j]? = some u → w.cell? ⟨b, off + j, none⟩ = some u

theorem Vals.below {w w' : World} {B : Nat} {A : Option Addr} {vs : List Value} (h : Vals w B A vs) (hb : Below B w w') : Vals w' B A vs := fun hl => by
  obtain ⟨b, off, rfl, hlt, hc⟩ := h hl
  exact ⟨b, off, rfl, hlt, fun k u hk => (hb.cell (p := ⟨b, off + k, none⟩) hlt).trans (hc k u hk)⟩
theorem Vals.mono {w : World} {B B' : Nat} {A : Option Addr} {vs : List Value} (h : Vals w B A vs) (hB : B ≤ B') : Vals w B' A vs := fun hl => by
  obtain ⟨b, off, rfl, hlt, hc⟩ := h hl
  exact ⟨b, off, rfl, by omega, hc⟩
theorem Ints.vals {w : World} {B : Nat} {A : Option Addr} {zs : List Int} (h : Ints w B A zs) : Vals w B A (ints zs) := fun hl => by
  simp only [ints, List.length_map] at hl
  obtain ⟨b, off, rfl, hlt, hc⟩ := h hl
  refine ⟨b, off, rfl, hlt, fun k u hk => ?_⟩
  simp only [ints, List.getElem?_map, Option.map_eq_some_iff] at hk
  obtain ⟨z, hz, rfl⟩ := hk
  have hk : k < zs.length := (List.getElem?_eq_some_iff.1 hz).1
  rw [hc k hk, hz]; rfl
theorem Vals.ints {w : World} {B : Nat} {A : Option Addr} {zs : List Int} (h : Vals w B A (ints zs)) : Ints w B A zs := fun hl => by
  obtain ⟨b, off, rfl, hlt, hc⟩ := h (by simpa [Ytjjipkgconmfcaa.ints] using hl)
  refine ⟨b, off, rfl, hlt, fun k hk => hc k _ ?_⟩
  simp [Ytjjipkgconmfcaa.ints, hk]

/-- An owned row is read as cells. -/
theorem Vals.own {w : World} {base : Nat} {e : TypeId} {size n : Nat} {A : Option Addr} {cap : Nat} {vs : List Value} (h : w.ownsRow base e size (.slice A n cap) n vs) : Vals w w.heap.size A vs := fun hl => by
  have hcs := fun g hg => h.cells (g := g) hg
  rcases h.2 with ⟨_, rfl⟩ | ⟨g, cap', cur, hv, _, hh, _⟩
  · rw [h.1] at hl; omega
  · simp only [Value.slice.injEq] at hv
    obtain ⟨rfl, _, rfl⟩ := hv
    refine ⟨g, 0, rfl, (Array.getElem?_eq_some_iff.1 hh).1, fun j u hj => ?_⟩
    have := hcs g rfl j u hj
    unfold Addr.add at this
    by_cases hj0 : j = 0
    · subst hj0; simpa using this
    · rw [if_neg hj0] at this; simpa using this

theorem run_app_nil {P : Program} (w : World) (base : Nat) (t ty e : TypeId) (i : TypeInfo) (size : Nat) (ht : P.underlying t = some (.slice e)) (hi : P.info? e = some i)
    (v : Value) (n : Nat) (xs : List Value) (hown : w.ownsRow base e size v n xs) (c : Nat) : (Builtin.append_ #[t, t] ty #[v, .slice none 0 c]).run P w = .ok v w := by
  rcases hown.2 with ⟨rfl, rfl⟩ | ⟨g, cap, cur, rfl, _, _, hnc, _⟩
  · simp [Builtin.append_, run_underlying ht, sizeOf, typeInfo, hi, Builtin.lenOf, Builtin.firstCells]
  · simp [Builtin.append_, run_underlying ht, sizeOf, typeInfo, hi, Builtin.lenOf, Builtin.firstCells, hnc, storeCells]

/-- append onto an owned row, of a slice that reads as cells: nil, empty or not. -/
theorem run_app {P : Program} (w : World) (base : Nat) (t ty e : TypeId) (i : TypeInfo) (z : Value) (size bytes : Nat) (ht : P.underlying t = some (.slice e)) (hi : P.info? e = some i) (hz : i.zero = some z)
    (hsize : i.size = size) (hby : i.bytes = bytes) (hzs : z.cells.size = size) (hsz : 0 < size)
    (v : Value) (n : Nat) (xs : List Value) (hown : w.ownsRow base e size v n xs)
    (B : Nat) (A : Option Addr) (m c : Nat) (vs : List Value) (hr : Vals w B A vs) (hl : vs.length = m * size) (h1 : ∀ u ∈ vs, u.oneCell' = true)
    (h63 : n + m ≤ maxLen) (hbytes : (n + m) * bytes ≤ 140737488355328) (hbase : base ≤ w.heap.size) :
    ∃ v' w', (Builtin.append_ #[t, t] ty #[v, .slice A m c]).run P w = .ok v' w' ∧ w'.ownsRow base e size v' (n + m) (xs ++ vs) ∧ w.grownBy w' v.ownBlock ∧
      (v'.ownBlock = v.ownBlock ∨ v'.ownBlock = some w.heap.size) := by
  rcases A with _ | ad
  · have hm : vs = [] := by
      rcases Nat.eq_zero_or_pos vs.length with h0 | h0
      · exact List.eq_nil_of_length_eq_zero h0
      · obtain ⟨b, off, h, _⟩ := hr h0; cases h
    subst hm
    have hm0 : m = 0 := by
      rcases Nat.eq_zero_or_pos m with h0 | h0
      · exact h0
      · have := Nat.mul_pos h0 hsz; simp at hl; omega
    subst hm0
    exact ⟨v, w, run_app_nil w base t ty e i size ht hi v n xs hown c, by simpa using hown, ⟨rfl, rfl, rfl, Nat.le_refl _, fun _ _ _ => rfl⟩, .inl rfl⟩
  · have hcells : ∀ j u, vs[j]? = some u → w.cell? (ad.add j) = some u := by
      intro j u hu
      have h0 : 0 < vs.length := by have := (List.getElem?_eq_some_iff.1 hu).1; omega
      obtain ⟨b, off, h, _, hc⟩ := hr h0
      injection h with h
      subst h
      have := hc j u hu
      unfold Addr.add
      by_cases hj0 : j = 0
      · subst hj0; simpa using this
      · rw [if_neg hj0]; simpa using this
    obtain ⟨v', w', hrun, h2, h3, _, h5⟩ := run_append_own_at (P := P) w base t ty e i z size bytes ht hi hz hsize hby hzs hsz v n xs hown ad m c vs hl hcells h1 h63 hbytes hbase
    exact ⟨v', w', hrun, h2, h3, h5⟩

theorem wpl_app {P : Program} {w : World} {ops : Array Oper} {rest : List Oper} {o : Oper} {a : Act} {Q : Exit → Act → World → Prop} (hgd : o.guard = none) (s x : Operand) (t : TypeId)
    (ho : o.op = .call { callee := .builtin .append, args := #[s, x], argTypes := #[t, t] })
    (base : Nat) (e : TypeId) (i : TypeInfo) (z : Value) (size bytes : Nat) (ht : P.underlying t = some (.slice e)) (hi : P.info? e = some i) (hz : i.zero = some z)
    (hsize : i.size = size) (hby : i.bytes = bytes) (hzs : z.cells.size = size) (hsz : 0 < size)
    (v : Value) (n : Nat) (xs : List Value) (hs : a.eval s = v) (hown : w.ownsRow base e size v n xs)
    (B : Nat) (A : Option Addr) (m c : Nat) (vs : List Value) (hx : a.eval x = .slice A m c) (hr : Vals w B A vs) (hl : vs.length = m * size) (h1 : ∀ u ∈ vs, u.oneCell' = true)
    (h63 : n + m ≤ maxLen) (hbytes : (n + m) * bytes ≤ 140737488355328) (hbase : base ≤ w.heap.size)
    (h : ∀ v' w', w'.ownsRow base e size v' (n + m) (xs ++ vs) → w.grownBy w' v.ownBlock → (v'.ownBlock = v.ownBlock ∨ v'.ownBlock = some w.heap.size) → wpList P ops Q rest (a.put o.dst v') w') : wpList P ops Q (o :: rest) a w :=
  wpList_plain hgd fun _ hK => by
    obtain ⟨v', w', hrun, h2, h3, h4⟩ := run_app (P := P) w base t o.type e i z size bytes ht hi hz hsize hby hzs hsz v n xs hown B A m c vs hr hl h1 h63 hbytes hbase
    unfold Oper.wp execOp
    simp only [ho, resolve, invoke, builtin, Sem.run_bind, Sem.run_pure, Result.andThen_ok, List.map_toArray, List.map_cons, List.map_nil, hs, hx, hrun]
    exact hK _ _ (h v' w' h2 h3 h4)

/-- .. as one step of a region that draws its order. -/
theorem step_app {P : Program} {ops : Array Oper} {o : Oper} {a : Act} {w : World} {K : Act → World → Prop} {Q : Exit → Act → World → Prop} {E : Prop} (hgd : o.guard = none) (s x : Operand) (t : TypeId)
    (ho : o.op = .call { callee := .builtin .append, args := #[s, x], argTypes := #[t, t] })
    (base : Nat) (e : TypeId) (i : TypeInfo) (z : Value) (size bytes : Nat) (ht : P.underlying t = some (.slice e)) (hi : P.info? e = some i) (hz : i.zero = some z)
    (hsize : i.size = size) (hby : i.bytes = bytes) (hzs : z.cells.size = size) (hsz : 0 < size)
    (v : Value) (n : Nat) (xs : List Value) (hs : a.eval s = v) (hown : w.ownsRow base e size v n xs)
    (B : Nat) (A : Option Addr) (m c : Nat) (vs : List Value) (hx : a.eval x = .slice A m c) (hr : Vals w B A vs) (hl : vs.length = m * size) (h1 : ∀ u ∈ vs, u.oneCell' = true)
    (h63 : n + m ≤ maxLen) (hbytes : (n + m) * bytes ≤ 140737488355328) (hbase : base ≤ w.heap.size)
    (h : ∀ v' w', w'.ownsRow base e size v' (n + m) (xs ++ vs) → w.grownBy w' v.ownBlock → (v'.ownBlock = v.ownBlock ∨ v'.ownBlock = some w.heap.size) → K (a.put o.dst v') w') :
    if Region.wanted o (yielded ops a.tmps) = true then Oper.wp P o a w K Q else E := by
  have hw : Region.wanted o (yielded ops a.tmps) = true := by simp [Region.wanted, hgd]
  rw [if_pos hw]
  obtain ⟨v', w', hrun, h2, h3, h4⟩ := run_app (P := P) w base t o.type e i z size bytes ht hi hz hsize hby hzs hsz v n xs hown B A m c vs hr hl h1 h63 hbytes hbase
  unfold Oper.wp execOp
  simp only [ho, resolve, invoke, builtin, Sem.run_bind, Sem.run_pure, Result.andThen_ok, List.map_toArray, List.map_cons, List.map_nil, hs, hx, hrun]
  exact h v' w' h2 h3 h4

/-- make([]int, n). -/
theorem run_make_ints {P : Program} (t e : TypeId) (i : TypeInfo) (ht : P.underlying t = some (.slice e)) (hi : P.info? e = some i) (hz : i.zero = some (.int .i64 0)) (hs : i.size = 1) (hb : i.bytes = 8) (n : Nat) (hn : n ≤ 1000000) (w : World) :
    (Instr.makeSlice t (.int .i64 (n : Int)) (.int .i64 (n : Int))).run P w = .ok (.slice (some ⟨w.heap.size, 0, none⟩) n n) (w.alloc (.cells (ints (List.replicate n 0)).toArray e)) := by
  have hr := run_make (P := P) w t e i (.int .i64 0) ht hi hz .i64 .i64 n n (by omega) (by omega) (by rw [hb]; omega) (by omega)
  simp only [Int.toNat_natCast] at hr
  rw [hr, hs]
  have e1 : madeCells (Value.int .i64 0).cells (n * 1) = (ints (List.replicate n 0)).toArray := by
    apply Array.ext'
    rw [show (Value.int .i64 0).cells = #[.int .i64 0] from rfl, toList_madeCells_one]
    simp [ints]
  rw [e1]

theorem oneCells_ints (zs : List Int) : ∀ u ∈ ints zs, u.oneCell' = true := by
  intro u hu
  simp only [ints, List.mem_map] at hu
  obtain ⟨z, _, rfl⟩ := hu
  rfl

end Go.Proofs.Ytjjipkgconmfcaa

namespace Go.Proofs.Ytjjipkgconmfcaa
open Go.RowKit

theorem own_empty {w : World} {base g : Nat} {e : TypeId} {size : Nat} (h : w.heap[g]? = some (.cells #[] e (0, 0))) (hb : base ≤ g) : w.ownsRow base e size (.slice (some ⟨g, 0, none⟩) 0 0) 0 [] :=
  ⟨by simp, .inr ⟨g, 0, #[], rfl, hb, h, Nat.le_refl _, by simp, by simp, by simp⟩⟩

theorem own_form {w : World} {base : Nat} {e : TypeId} {size n : Nat} {v : Value} {xs : List Value} (h : w.ownsRow base e size v n xs) (hn : v ≠ .slice none 0 0) : ∃ g cap, v = .slice (some ⟨g, 0, none⟩) n cap ∧ base ≤ g ∧ g < w.heap.size := by
  rcases h.2 with ⟨h0, _⟩ | ⟨g, cap, cur, hv, hb, hg, _⟩
  · exact absurd h0 hn
  · exact ⟨g, cap, hv, hb, (Array.getElem?_eq_some_iff.1 hg).1⟩

theorem run_clone {P : Program} (w : World) (base : Nat) (t ty e : TypeId) (i : TypeInfo) (z : Value) (size bytes : Nat) (ht : P.underlying t = some (.slice e)) (hi : P.info? e = some i) (hz : i.zero = some z)
    (hsize : i.size = size) (hby : i.bytes = bytes) (hzs : z.cells.size = size) (hsz : 0 < size)
    (g0 : Nat) (h0 : w.heap[g0]? = some (.cells #[] e (0, 0))) (hb0 : base ≤ g0)
    (B : Nat) (A : Option Addr) (m c : Nat) (vs : List Value) (hr : Vals w B A vs) (hl : vs.length = m * size) (h1 : ∀ u ∈ vs, u.oneCell' = true)
    (h63 : m ≤ maxLen) (hbytes : m * bytes ≤ 140737488355328) :
    ∃ g1 c1 w', (Builtin.append_ #[t, t] ty #[.slice (some ⟨g0, 0, none⟩) 0 0, .slice A m c]).run P w = .ok (.slice (some ⟨g1, 0, none⟩) m c1) w' ∧ w'.ownsRow base e size (.slice (some ⟨g1, 0, none⟩) m c1) m vs ∧ w.grownBy w' (some g0) ∧
      (g1 = g0 ∨ g1 = w.heap.size) ∧ base ≤ g1 ∧ g1 < w'.heap.size := by
  have hlt := (Array.getElem?_eq_some_iff.1 h0).1
  obtain ⟨v', w', hrun, hown, hg, hat⟩ := run_app (P := P) w base t ty e i z size bytes ht hi hz hsize hby hzs hsz _ 0 [] (own_empty h0 hb0) B A m c vs hr hl h1 (by omega) (by rw [Nat.zero_add]; exact hbytes) (by omega)
  simp only [Nat.zero_add, List.nil_append] at hown
  have hne : v' ≠ .slice none 0 0 := by
    rintro rfl
    rcases hat with h | h <;> simp [Value.ownBlock] at h
  obtain ⟨g1, c1, rfl, hb1, hl1⟩ := own_form hown hne
  refine ⟨g1, c1, w', hrun, hown, hg, ?_, hb1, hl1⟩
  simpa [Value.ownBlock] using hat

theorem wpl_clone {P : Program} {w : World} {ops : Array Oper} {rest : List Oper} {o : Oper} {a : Act} {Q : Exit → Act → World → Prop} (hgd : o.guard = none) (s x : Operand) (t : TypeId)
    (ho : o.op = .call { callee := .builtin .append, args := #[s, x], argTypes := #[t, t] })
    (base : Nat) (e : TypeId) (i : TypeInfo) (z : Value) (size bytes : Nat) (ht : P.underlying t = some (.slice e)) (hi : P.info? e = some i) (hz : i.zero = some z)
    (hsize : i.size = size) (hby : i.bytes = bytes) (hzs : z.cells.size = size) (hsz : 0 < size)
    (g0 : Nat) (hs : a.eval s = .slice (some ⟨g0, 0, none⟩) 0 0) (h0 : w.heap[g0]? = some (.cells #[] e (0, 0))) (hb0 : base ≤ g0)
    (B : Nat) (A : Option Addr) (m c : Nat) (vs : List Value) (hx : a.eval x = .slice A m c) (hr : Vals w B A vs) (hl : vs.length = m * size) (h1 : ∀ u ∈ vs, u.oneCell' = true)
    (h63 : m ≤ maxLen) (hbytes : m * bytes ≤ 140737488355328)
    (h : ∀ g1 c1 w', w'.ownsRow base e size (.slice (some ⟨g1, 0, none⟩) m c1) m vs → w.grownBy w' (some g0) → (g1 = g0 ∨ g1 = w.heap.size) → base ≤ g1 → g1 < w'.heap.size → wpList P ops Q rest (a.put o.dst (.slice (some ⟨g1, 0, none⟩) m c1)) w') :
    wpList P ops Q (o :: rest) a w :=
  wpList_plain hgd fun _ hK => by
    obtain ⟨g1, c1, w', hrun, h2, h3, h4, h5, h6⟩ := run_clone (P := P) w base t o.type e i z size bytes ht hi hz hsize hby hzs hsz g0 h0 hb0 B A m c vs hr hl h1 h63 hbytes
    unfold Oper.wp execOp
    simp only [ho, resolve, invoke, builtin, Sem.run_bind, Sem.run_pure, Result.andThen_ok, List.map_toArray, List.map_cons, List.map_nil, hs, hx, hrun]
    exact hK _ _ (h g1 c1 w' h2 h3 h4 h5 h6)

theorem step_clone {P : Program} {ops : Array Oper} {o : Oper} {a : Act} {w : World} {K : Act → World → Prop} {Q : Exit → Act → World → Prop} {E : Prop} (hgd : o.guard = none) (s x : Operand) (t : TypeId)
    (ho : o.op = .call { callee := .builtin .append, args := #[s, x], argTypes := #[t, t] })
    (base : Nat) (e : TypeId) (i : TypeInfo) (z : Value) (size bytes : Nat) (ht : P.underlying t = some (.slice e)) (hi : P.info? e = some i) (hz : i.zero = some z)
    (hsize : i.size = size) (hby : i.bytes = bytes) (hzs : z.cells.size = size) (hsz : 0 < size)
    (g0 : Nat) (hs : a.eval s = .slice (some ⟨g0, 0, none⟩) 0 0) (h0 : w.heap[g0]? = some (.cells #[] e (0, 0))) (hb0 : base ≤ g0)
    (B : Nat) (A : Option Addr) (m c : Nat) (vs : List Value) (hx : a.eval x = .slice A m c) (hr : Vals w B A vs) (hl : vs.length = m * size) (h1 : ∀ u ∈ vs, u.oneCell' = true)
    (h63 : m ≤ maxLen) (hbytes : m * bytes ≤ 140737488355328)
    (h : ∀ g1 c1 w', w'.ownsRow base e size (.slice (some ⟨g1, 0, none⟩) m c1) m vs → w.grownBy w' (some g0) → (g1 = g0 ∨ g1 = w.heap.size) → base ≤ g1 → g1 < w'.heap.size → K (a.put o.dst (.slice (some ⟨g1, 0, none⟩) m c1)) w') :
    if Region.wanted o (yielded ops a.tmps) = true then Oper.wp P o a w K Q else E := by
  have hw : Region.wanted o (yielded ops a.tmps) = true := by simp [Region.wanted, hgd]
  rw [if_pos hw]
  obtain ⟨g1, c1, w', hrun, h2, h3, h4, h5, h6⟩ := run_clone (P := P) w base t o.type e i z size bytes ht hi hz hsize hby hzs hsz g0 h0 hb0 B A m c vs hr hl h1 h63 hbytes
  unfold Oper.wp execOp
  simp only [ho, resolve, invoke, builtin, Sem.run_bind, Sem.run_pure, Result.andThen_ok, List.map_toArray, List.map_cons, List.map_nil, hs, hx, hrun]
  exact h g1 c1 w' h2 h3 h4 h5 h6

/-- One limb of 'grownBy', where the row that may be written is a new one. -/
theorem Below.ofGrown {B : Nat} {a w w' : World} {g : Nat} (h : Below B a w) (hg : w.grownBy w' (some g)) (hB : B ≤ w.heap.size) (hr : B ≤ g) : Below B a w' :=
  h.grown hg hB (fun k e => by injection e with e; omega)

theorem ints_atL (c : List Int) (k : Nat) (hk : k < c.length) : (ints c)[k]? = some (.int .i64 (c[k]?.getD 0)) := by simp [ints, hk]

theorem own_far {w : World} {base : Nat} {e : TypeId} {size n g cap : Nat} {xs : List Value} (h : w.ownsRow base e size (.slice (some ⟨g, 0, none⟩) n cap) n xs) {p : Addr} (hp : g ≠ p.block) (u : Value) :
    (w.setCell p u).ownsRow base e size (.slice (some ⟨g, 0, none⟩) n cap) n xs := by
  rcases h.2 with ⟨h0, _⟩ | ⟨g', cap', cur, hv, hb, hh, h3⟩
  · cases h0
  · simp only [Value.slice.injEq, Option.some.injEq, Addr.mk.injEq, and_true, true_and] at hv
    obtain ⟨rfl, rfl⟩ := hv
    exact ⟨h.1, .inr ⟨g, cap, cur, rfl, hb, (heap_setCell_other w p g u hp).trans hh, h3⟩⟩

theorem ints_new {w : World} {g B : Nat} {zs : List Int} {fr : Nat × Nat} (h : w.heap[g]? = some (.cells (ints zs).toArray 3 fr)) (hB : g < B) : Ints w B (some ⟨g, 0, none⟩) zs := fun _ =>
  ⟨g, 0, rfl, hB, fun k hk => by rw [Nat.zero_add]; exact (cell_of_row w g k _ _ _ h).trans (ints_at zs k hk)⟩
theorem lt_of_heap {w : World} {g : Nat} {o : Obj} (h : w.heap[g]? = some o) : g < w.heap.size := (Array.getElem?_eq_some_iff.1 h).1
theorem own_cap {w : World} {base : Nat} {e : TypeId} {size n g cap : Nat} {xs : List Value} (h : w.ownsRow base e size (.slice (some ⟨g, 0, none⟩) n cap) n xs) : n ≤ cap := by
  rcases h.2 with ⟨h0, _⟩ | ⟨g', cap', cur, hv, hb, hh, h3, _⟩
  · cases h0
  · simp only [Value.slice.injEq, Option.some.injEq, Addr.mk.injEq, and_true, true_and] at hv
    omega

end Go.Proofs.Ytjjipkgconmfcaa

namespace Go.Proofs.Ytjjipkgconmfcaa
open Go.RowKit

def pairs (l : List (Int × Int)) : List Value := l.flatMap fun p => [.int .i64 p.1, .int .i64 p.2]

theorem pairs_len (l : List (Int × Int)) : (pairs l).length = l.length * 2 := by
  induction l with
  | nil => rfl
  | cons p l ih => simp only [pairs, List.flatMap_cons, List.length_append, List.length_cons, List.length_nil] at ih ⊢; rw [ih]; omega

theorem pairs_at (l : List (Int × Int)) (k : Nat) (hk : k < l.length) : (pairs l)[k * 2]? = some (.int .i64 (l[k]?.getD (0, 0)).1) ∧ (pairs l)[k * 2 + 1]? = some (.int .i64 (l[k]?.getD (0, 0)).2) := by
  induction l generalizing k with
  | nil => simp at hk
  | cons p l ih =>
    cases k with
    | zero => simp [pairs]
    | succ k =>
      have := ih k (by simpa using hk)
      simp only [pairs, List.flatMap_cons] at this ⊢
      rw [show (k + 1) * 2 = k * 2 + 1 + 1 from by omega]
      simpa using this

theorem oneCells_pairs (l : List (Int × Int)) : ∀ u ∈ pairs l, u.oneCell' = true := by
  intro u hu
  simp only [pairs, List.mem_flatMap] at hu
  obtain ⟨p, _, hu⟩ := hu
  simp at hu
  rcases hu with rfl | rfl <;> rfl

theorem pairs_app (a b : List (Int × Int)) : pairs (a ++ b) = pairs a ++ pairs b := by simp [pairs]

theorem vals_new {w : World} {g B : Nat} {vs : List Value} {t : TypeId} {fr : Nat × Nat} (h : w.heap[g]? = some (.cells vs.toArray t fr)) (hB : g < B) : Vals w B (some ⟨g, 0, none⟩) vs := fun _ =>
  ⟨g, 0, rfl, hB, fun j u hj => by rw [Nat.zero_add, cell_of_row w g j _ _ _ h, List.getElem?_toArray]; exact hj⟩

/-- A number is from lo to hi. -/
def inR (x lo hi : Int) : Bool := decide (lo ≤ x) && decide (x ≤ hi)

theorem inR_iff {x lo hi : Int} : inR x lo hi = true ↔ lo ≤ x ∧ x ≤ hi := by simp [inR]

end Go.Proofs.Ytjjipkgconmfcaa

namespace Go.Proofs.Ytjjipkgconmfcaa

abbrev Fact := Value → World → Prop

/-- What an operation gives, in a state and a world: a value and a world of which R holds. -/
def gives (P : Program) (o : Oper) (a : Act) (w : World) (R : Value → World → Prop) : Prop :=
  match (execOp a.eval o).run P w with
  | .ok (.value v) w' => R v w'
  | .ok .skip w' => R undef w'
  | .ok (.enter f args) w' => Calls P f args w' (fun e w'' => ∃ v, e = .returned v ∧ R v w'')
  | _ => False

theorem gives.wp {P : Program} {o : Oper} {a a' : Act} {w : World} {R : Value → World → Prop} {K : Act → World → Prop} {Q : Exit → Act → World → Prop} (h : gives P o a w R) (he : execOp a'.eval o = execOp a.eval o) (hK : ∀ v w', R v w' → K (a'.put o.dst v) w') : o.wp P a' w K Q := by
  unfold gives at h
  unfold Oper.wp
  rw [he]
  generalize (execOp a.eval o).run P w = r at *
  cases r with
  | ok n w' =>
    cases n <;> simp only at h <;> simp only [Oper.upon]
    case value v => exact hK _ _ h
    case skip => exact hK _ _ h
    case enter f args => exact Calls.mono h fun e w'' ⟨v, he, hv⟩ => by subst he; exact hK _ _ hv
  | halt x w' => simp only at h

abbrev slot (a : Act) (t : Nat) : Value := a.tmps.getD t undef

section
variable (P : Program) (ops : Array Oper) (C : World → Prop) (S : World → World → Prop) (QN : Act → World → Prop)

/-- How an operation is met: it isn't wanted; it yields one value; it yields a value of which a fact is known. -/
inductive Kd where
  | un
  | det (c : Value)
  | nd (d : Nat) (Φ : Fact)

def ent : Kd → (Nat → Value) → Value
  | .un, _ => undef
  | .det c, _ => c
  | .nd d _, ρ => ρ d
def nextA (A : (Nat → Value) → Act) (o : Oper) (kd : Kd) : (Nat → Value) → Act := fun ρ => (A ρ).put o.dst (ent kd ρ)
def nextH (hs : List (Nat × Fact)) : Kd → List (Nat × Fact)
  | .nd d Φ => (d, Φ) :: hs
  | _ => hs

/-- What is owed for one operation. -/
def StepOk (o : Oper) (kd : Kd) (A : (Nat → Value) → Act) (hs : List (Nat × Fact)) : Prop :=
  match kd with
  | .un => ∀ ρ, Region.wanted o (yielded ops (A ρ).tmps) = false
  | .det c => (∀ ρ, Region.wanted o (yielded ops (A ρ).tmps) = true) ∧ ∃ ts : List Nat, o.looksAt ops = ts ∧
      ∀ ρ w, C w → (∀ p ∈ hs, p.1 ∈ ts → p.2 (ρ p.1) w) → gives P o (A ρ) w (fun v w' => v = c ∧ S w w' ∧ C w')
  | .nd d Φ => (∀ ρ, Region.wanted o (yielded ops (A ρ).tmps) = true) ∧ (∃ ts : List Nat, o.looksAt ops = ts ∧
      ∀ ρ w, C w → (∀ p ∈ hs, p.1 ∈ ts → p.2 (ρ p.1) w) → gives P o (A ρ) w (fun v w' => Φ v w' ∧ S w w' ∧ C w')) ∧ o.dst = some d ∧ (∀ v w w', Φ v w → S w w' → C w' → Φ v w')

/-- The walk in the text's order. -/
def Steps : List Oper → List Kd → ((Nat → Value) → Act) → List (Nat × Fact) → Prop
  | [], [], A, hs => ∀ ρ w, C w → (∀ p ∈ hs, p.2 (ρ p.1) w) → QN (A ρ) w
  | o :: l, kd :: ks, A, hs => StepOk P ops C S o kd A hs ∧ Steps l ks (nextA A o kd) (nextH hs kd)
  | _, _, _, _ => False

/-- .. without its list: what a proof goes through. -/
def WalkR (l : List Oper) (A : (Nat → Value) → Act) (hs : List (Nat × Fact)) : Prop := ∃ ks, Steps P ops C S QN l ks A hs

def stA (A : (Nat → Value) → Act) : List Oper → List Kd → Nat → (Nat → Value) → Act
  | o :: l, kd :: ks, i + 1 => stA (nextA A o kd) l ks i
  | _, _, _ => A
def stH (hs : List (Nat × Fact)) : List Kd → Nat → List (Nat × Fact)
  | kd :: ks, i + 1 => stH (nextH hs kd) ks i
  | _, _ => hs

variable {P ops C S QN}

theorem Steps.at_ : ∀ {l : List Oper} {ks : List Kd} {A : (Nat → Value) → Act} {hs : List (Nat × Fact)}, Steps P ops C S QN l ks A hs → ∀ i o, l[i]? = some o → ∃ kd, ks[i]? = some kd ∧ StepOk P ops C S o kd (stA A l ks i) (stH hs ks i)
  | o :: l, kd :: ks, A, hs, h, 0, o', ho => by
    simp at ho; subst ho
    exact ⟨kd, rfl, h.1⟩
  | o :: l, kd :: ks, A, hs, h, i + 1, o', ho => Steps.at_ h.2 i o' (by simpa using ho)
  | [], _, _, _, _, _, _, ho => by simp at ho
  | _ :: _, [], _, _, h, _, _, _ => h.elim

theorem Steps.end_ : ∀ {l : List Oper} {ks : List Kd} {A : (Nat → Value) → Act} {hs : List (Nat × Fact)}, Steps P ops C S QN l ks A hs →
    ks.length = l.length ∧ ∀ ρ w, C w → (∀ p ∈ stH hs ks l.length, p.2 (ρ p.1) w) → QN (stA A l ks l.length ρ) w
  | [], [], A, hs, h => ⟨rfl, h⟩
  | o :: l, kd :: ks, A, hs, h => by
    obtain ⟨h1, h2⟩ := Steps.end_ h.2
    exact ⟨by simp [h1], h2⟩
  | [], _ :: _, _, _, h => h.elim
  | _ :: _, [], _, _, h => h.elim

theorem slot_put_ne {a : Act} {d : Option Tmp} {v : Value} {t : Nat} (h : d ≠ some t) : slot (a.put d v) t = slot a t := by
  cases d with
  | none => rfl
  | some d =>
    have hne : d ≠ t := fun e => h (by rw [e])
    simp [slot, Act.put, Array.getElem?_setIfInBounds_ne hne]
theorem slot_put_same {a : Act} {v : Value} {t : Nat} (h : t < a.tmps.size) : slot (a.put (some t) v) t = v := by
  simp [slot, Act.put, h]
theorem size_put (a : Act) (d : Option Tmp) (v : Value) : (a.put d v).tmps.size = a.tmps.size := by
  cases d <;> simp [Act.put]
theorem defers_put (a : Act) (d : Option Tmp) (v : Value) : (a.put d v).defers = a.defers := by
  cases d <;> simp [Act.put]

theorem stA_size : ∀ (A : (Nat → Value) → Act) (l : List Oper) (ks : List Kd) (i : Nat) (ρ : Nat → Value), (stA A l ks i ρ).tmps.size = (A ρ).tmps.size ∧ (stA A l ks i ρ).defers = (A ρ).defers
  | A, o :: l, kd :: ks, i + 1, ρ => by
    have := stA_size (nextA A o kd) l ks i ρ
    simpa [stA, nextA, size_put, defers_put] using this
  | A, [], _, _, ρ => by simp [stA]
  | A, _ :: _, [], _, ρ => by simp [stA]
  | A, _ :: _, _ :: _, 0, ρ => by simp [stA]

/-- A slot that none of the first i operations writes. -/
theorem stA_other : ∀ (A : (Nat → Value) → Act) (l : List Oper) (ks : List Kd) (i : Nat) (ρ : Nat → Value) (t : Nat), (∀ j o, j < i → l[j]? = some o → o.dst ≠ some t) → slot (stA A l ks i ρ) t = slot (A ρ) t
  | A, o :: l, kd :: ks, i + 1, ρ, t, h => by
    rw [show stA A (o :: l) (kd :: ks) (i + 1) ρ = stA (nextA A o kd) l ks i ρ from rfl,
      stA_other (nextA A o kd) l ks i ρ t (fun j o' hj ho => h (j + 1) o' (by omega) (by simpa using ho))]
    exact slot_put_ne (h 0 o (by omega) rfl)
  | A, [], _, _, ρ, t, _ => by simp [stA]
  | A, _ :: _, [], _, ρ, t, _ => by simp [stA]
  | A, _ :: _, _ :: _, 0, ρ, t, _ => by simp [stA]

/-- A slot that one of them writes, and none after it. -/
theorem stA_wrote : ∀ (A : (Nat → Value) → Act) (l : List Oper) (ks : List Kd) (i : Nat) (ρ : Nat → Value) (t j : Nat) (o : Oper) (kd : Kd), j < i → l[j]? = some o → ks[j]? = some kd → o.dst = some t → t < (A ρ).tmps.size →
    (∀ j' o', j < j' → j' < i → l[j']? = some o' → o'.dst ≠ some t) → slot (stA A l ks i ρ) t = ent kd ρ
  | A, o :: l, kd :: ks, i + 1, ρ, t, 0, o', kd', hj, ho, hk, hd, ht, h => by
    simp at ho hk; subst ho hk
    rw [show stA A (o :: l) (kd :: ks) (i + 1) ρ = stA (nextA A o kd) l ks i ρ from rfl,
      stA_other (nextA A o kd) l ks i ρ t (fun j o' hj ho => h (j + 1) o' (by omega) (by omega) (by simpa using ho))]
    show slot ((A ρ).put o.dst (ent kd ρ)) t = _
    rw [hd]; exact slot_put_same ht
  | A, o :: l, kd :: ks, i + 1, ρ, t, j + 1, o', kd', hj, ho, hk, hd, ht, h =>
    stA_wrote (nextA A o kd) l ks i ρ t j o' kd' (by omega) (by simpa using ho) (by simpa using hk) hd (by simpa [nextA, size_put] using ht) (fun j' o'' h1 h2 h3 => h (j' + 1) o'' (by omega) (by omega) (by simpa using h3))
  | A, [], _, _, ρ, t, j, o, kd, _, ho, _, _, _, _ => by simp at ho
  | A, _ :: _, [], _, ρ, t, j, o, kd, _, _, hk, _, _, _ => by simp at hk
  | A, _ :: _, _ :: _, 0, ρ, t, j, o, kd, hj, _, _, _, _, _ => by omega

theorem stH_mem : ∀ (hs : List (Nat × Fact)) (ks : List Kd) (i : Nat) (p : Nat × Fact), p ∈ stH hs ks i → p ∈ hs ∨ ∃ j, j < i ∧ ks[j]? = some (.nd p.1 p.2)
  | hs, kd :: ks, i + 1, p, h => by
    rcases stH_mem (nextH hs kd) ks i p h with h1 | ⟨j, hj, hk⟩
    · cases kd with
      | nd d Φ =>
        simp only [nextH, List.mem_cons] at h1
        rcases h1 with rfl | h1
        · exact .inr ⟨0, by omega, rfl⟩
        · exact .inl h1
      | _ => exact .inl h1
    · exact .inr ⟨j + 1, by omega, by simpa using hk⟩
  | hs, [], _, p, h => .inl (by simpa [stH] using h)
  | hs, _ :: _, 0, p, h => .inl (by simpa [stH] using h)

variable (ops) in
/-- What is asked of a region, as one Bool: edges go back; slots are written once, and lie in the frame; whatever an operation looks at that another one of the region writes, it waits for. -/
def regB (n : Nat) : Bool :=
  (List.range ops.size).all fun k =>
    match ops[k]? with
    | none => true
    | some o =>
      (o.after.all fun e => !Region.binds .any e || decide (e.on < k)) &&
      (match o.dst with | some d => decide (d < n) | none => true) &&
      (match o.op with | .select .. => false | _ => true) &&
      ((List.range ops.size).all fun j =>
        match ops[j]? with
        | none => true
        | some oj =>
          match oj.dst with
          | none => true
          | some d => (decide (j = k) || o.dst != some d) && (!(o.looksAt ops).contains d || (decide (j < k) && o.after.any fun e => Region.binds .any e && e.on == j)))

structure RegOk (n : Nat) (ops : Array Oper) : Prop where
  back : ∀ (k : Nat) (o : Oper), ops[k]? = some o → ∀ e ∈ o.after, Region.binds .any e = true → e.on < k
  inb : ∀ (k : Nat) (o : Oper) (d : Nat), ops[k]? = some o → o.dst = some d → d < n
  sel : ∀ (k : Nat) (o : Oper), ops[k]? = some o → ∀ cs b, o.op ≠ .select cs b
  once : ∀ (k : Nat) (o : Oper) (j : Nat) (oj : Oper) (d : Nat), ops[k]? = some o → ops[j]? = some oj → oj.dst = some d → o.dst = some d → j = k
  waits : ∀ (k : Nat) (o : Oper) (j : Nat) (oj : Oper) (d : Nat), ops[k]? = some o → ops[j]? = some oj → oj.dst = some d → d ∈ o.looksAt ops → j < k ∧ ∃ e ∈ o.after, Region.binds .any e = true ∧ e.on = j

theorem regB_ok {n : Nat} (h : regB ops n = true) : RegOk n ops := by
  simp only [regB, List.all_eq_true, List.mem_range] at h
  have h' : ∀ (k : Nat) (o : Oper), ops[k]? = some o → _ := fun k o ho => by
    have := h k (Array.getElem?_eq_some_iff.1 ho).1
    simp only [ho, Bool.and_eq_true] at this
    exact this
  have hj : ∀ (k : Nat) (o : Oper) (j : Nat) (oj : Oper) (d : Nat), ops[k]? = some o → ops[j]? = some oj → oj.dst = some d → _ := fun k o j oj d ho hoj hd => by
    have := (h' k o ho).2
    simp only [List.all_eq_true, List.mem_range] at this
    have := this j (Array.getElem?_eq_some_iff.1 hoj).1
    simp only [hoj, hd, Bool.and_eq_true] at this
    exact this
  refine ⟨fun k o ho e he hb => ?_, fun k o d ho hd => ?_, fun k o ho cs b e => ?_, fun k o j oj d ho hoj hd hd' => ?_, fun k o j oj d ho hoj hd hm => ?_⟩
  · have := (h' k o ho).1.1.1
    rw [Array.all_eq_true_iff_forall_mem] at this
    simpa [hb] using this e he
  · have := (h' k o ho).1.1.2
    simpa [hd] using this
  · have := (h' k o ho).1.2
    simp [e] at this
  · have := (hj k o j oj d ho hoj hd).1
    simpa [hd'] using this
  · have := (hj k o j oj d ho hoj hd).2
    simp only [Bool.or_eq_true, Bool.not_eq_true', Bool.and_eq_true, decide_eq_true_eq, Array.any_eq_true', beq_iff_eq] at this
    rcases this with h1 | ⟨h1, e, he, hb⟩
    · have : (o.looksAt ops).contains d = true := by simpa using hm
      rw [h1] at this; cases this
    · exact ⟨h1, e, he, hb⟩

/-- What holds on the way: of the operations that have come up. -/
structure InvR (C : World → Prop) (ks : List Kd) (ops : Array Oper) (a0 : Act) (listed : Array Bool) (a : Act) (w : World) : Prop where
  len : listed.size = ops.size
  size : a.tmps.size = a0.tmps.size
  defers : a.defers = a0.defers
  cls : C w
  other : ∀ t, (∀ (j : Nat) (o : Oper), ops[j]? = some o → listed.getD j false = true → o.dst ≠ some t) → slot a t = slot a0 t
  wrote : ∀ (j : Nat) (o : Oper) (kd : Kd), ops[j]? = some o → ks[j]? = some kd → listed.getD j false = true →
    (∀ d, o.dst = some d → slot a d = ent kd (slot a)) ∧ (∀ d Φ, kd = .nd d Φ → o.dst = some d ∧ Φ (slot a d) w)

theorem slot_at {n : Nat} {a0 : Act} {listed : Array Bool} {a : Act} {w : World} {ks : List Kd} (R : RegOk n ops) (hn : a0.tmps.size = n) (hk : ks.length = ops.size) (I : InvR C ks ops a0 listed a w) {k : Nat} {o : Oper} (ho : ops[k]? = some o)
    (hr : ∀ e ∈ o.after, Region.binds .any e = true → listed.getD e.on false = true) (_ : listed.getD k true = false) {t : Nat} (ht : t ∈ o.looksAt ops) :
    slot a t = slot (stA (fun _ => a0) ops.toList ks k (slot a)) t := by
  by_cases hw : ∃ (j : Nat) (oj : Oper), ops[j]? = some oj ∧ oj.dst = some t
  · obtain ⟨j, oj, hoj, hd⟩ := hw
    obtain ⟨hjk, e, he, hb, rfl⟩ := R.waits k o j oj t ho hoj hd ht
    have hl := hr e he hb
    have hjs : e.on < ks.length := by rw [hk]; exact (Array.getElem?_eq_some_iff.1 hoj).1
    have hkd : ks[e.on]? = some ks[e.on] := List.getElem?_eq_getElem hjs
    rw [stA_wrote (fun _ => a0) ops.toList ks k (slot a) t e.on oj _ hjk (by simpa using hoj) hkd hd (by rw [hn]; exact R.inb _ _ _ hoj hd)
      (fun j' o' h1 h2 h3 h4 => by
        have := R.once e.on oj j' o' t hoj (by simpa using h3) h4 hd
        omega)]
    exact (I.wrote e.on oj _ hoj hkd hl).1 t hd
  · rw [stA_other (fun _ => a0) ops.toList ks k (slot a) t (fun j oj _ hoj hd => hw ⟨j, oj, by simpa using hoj, hd⟩)]
    exact I.other t (fun j oj hoj _ hd => hw ⟨j, oj, hoj, hd⟩)

theorem countP_set {l : List Bool} {i : Nat} (h : l[i]? = some false) : (l.set i true).countP (fun b => !b) + 1 = l.countP (fun b => !b) := by
  induction l generalizing i with
  | nil => simp at h
  | cons b l ih =>
    cases i with
    | zero => simp at h; subst h; simp
    | succ i =>
      have := ih (i := i) (by simpa using h)
      simp only [List.set_cons_succ, List.countP_cons]
      omega

theorem walk_sound {n : Nat} {a0 : Act} {ks : List Kd} {Q : Exit → Act → World → Prop} (R : RegOk n ops) (hn : a0.tmps.size = n) (hS : ∀ w, S w w) (hSt : Steps P ops C S (Q .normal) ops.toList ks (fun _ => a0) []) :
    ∀ (fuel : Nat) (listed : Array Bool) (a : Act) (w : World), InvR C ks ops a0 listed a w → listed.toList.countP (fun b => !b) ≤ fuel → wpAny P .any ops Q fuel listed a w := by
  obtain ⟨hk, hend⟩ := hSt.end_
  simp only [Array.length_toList] at hk hend
  -- all have come up: the state is the walk's last one
  have fin : ∀ (listed : Array Bool) (a : Act) (w : World), InvR C ks ops a0 listed a w → Region.ready .any ops listed = [] → Q .normal a w := by
    intro listed a w I hr
    have hall : ∀ k, k < ops.size → listed.getD k false = true := by
      intro k
      induction k using Nat.strongRecOn with
      | _ k ih =>
        intro hlt
        have hks : k < listed.size := by rw [I.len]; exact hlt
        cases hb : listed.getD k false with
        | true => rfl
        | false =>
          exfalso
          have hk2 : k ∈ Region.ready .any ops listed := by
            refine mem_ready.2 ⟨by simpa [hks] using hb, ops[k], Array.getElem?_eq_getElem hlt, fun e he hbi => ?_⟩
            have hlt2 := R.back k _ (Array.getElem?_eq_getElem hlt) e he hbi
            exact ih e.on hlt2 (by omega)
          rw [hr] at hk2; cases hk2
    have ha : a = stA (fun _ => a0) ops.toList ks ops.size (slot a) := by
      have hsz := stA_size (fun _ => a0) ops.toList ks ops.size (slot a)
      have hslot : ∀ t, slot a t = slot (stA (fun _ => a0) ops.toList ks ops.size (slot a)) t := by
        intro t
        by_cases hw : ∃ (j : Nat) (oj : Oper), ops[j]? = some oj ∧ oj.dst = some t
        · obtain ⟨j, oj, hoj, hd⟩ := hw
          have hj := (Array.getElem?_eq_some_iff.1 hoj).1
          have hkd : ks[j]? = some ks[j] := List.getElem?_eq_getElem (by omega)
          rw [stA_wrote (fun _ => a0) ops.toList ks ops.size (slot a) t j oj _ hj (by simpa using hoj) hkd hd (by rw [hn]; exact R.inb _ _ _ hoj hd)
            (fun j' o' h1 h2 h3 h4 => by
              have := R.once j oj j' o' t hoj (by simpa using h3) h4 hd
              omega)]
          exact (I.wrote j oj _ hoj hkd (hall j hj)).1 t hd
        · rw [stA_other (fun _ => a0) ops.toList ks ops.size (slot a) t (fun j oj _ hoj hd => hw ⟨j, oj, by simpa using hoj, hd⟩)]
          exact I.other t (fun j oj hoj _ hd => hw ⟨j, oj, hoj, hd⟩)
      obtain ⟨h1, h2⟩ := hsz
      have hd := I.defers
      have hs := I.size
      generalize stA (fun _ => a0) ops.toList ks ops.size (slot a) = b at *
      obtain ⟨ta, da⟩ := a
      obtain ⟨tb, db⟩ := b
      simp only [Act.mk.injEq] at *
      refine ⟨?_, by rw [hd, h2]⟩
      apply Array.ext
      · omega
      · intro i hi1 hi2
        have := hslot i
        simp only [slot] at this
        simpa [hi1, hi2] using this
    rw [ha]
    refine hend _ w I.cls (fun p hp => ?_)
    rcases stH_mem [] ks ops.size p hp with h1 | ⟨j, hj, hkd⟩
    · cases h1
    · exact ((I.wrote j _ _ (Array.getElem?_eq_getElem hj) hkd (hall j hj)).2 p.1 p.2 rfl).2
  intro fuel
  induction fuel with
  | zero =>
    intro listed a w I hc
    have hr : Region.ready .any ops listed = [] := by
      rw [List.eq_nil_iff_forall_not_mem]
      intro k hk2
      obtain ⟨h0, o, ho, _⟩ := mem_ready.1 hk2
      have hks : k < listed.size := by rw [I.len]; exact (Array.getElem?_eq_some_iff.1 ho).1
      have hm : listed[k] ∈ listed.toList := by simp
      have := List.countP_eq_zero.1 (by omega : listed.toList.countP (fun b => !b) = 0) _ hm
      simp [hks] at h0
      simp [h0] at this
    exact ⟨hr, fin listed a w I hr⟩
  | succ fuel ih =>
    intro listed a w I hc
    refine ⟨fin listed a w I, fun k hk2 => ?_⟩
    obtain ⟨h0, o, ho, hr⟩ := mem_ready.1 hk2
    have hks : k < listed.size := by rw [I.len]; exact (Array.getElem?_eq_some_iff.1 ho).1
    obtain ⟨kd, hkd, hst⟩ := hSt.at_ k o (by simpa using ho)
    have hsl : ∀ t, t ∈ o.looksAt ops → slot a t = slot (stA (fun _ => a0) ops.toList ks k (slot a)) t := fun t ht => slot_at R hn hk I ho hr h0 ht
    have hsz := stA_size (fun _ => a0) ops.toList ks k (slot a)
    have hev : execOp a.eval o = execOp (stA (fun _ => a0) ops.toList ks k (slot a)).eval o :=
      execOp_congr o (R.sel k o ho) fun x hx => by
        cases x with
        | tmp t => exact hsl t (List.mem_append_left _ (List.mem_filterMap.2 ⟨.tmp t, by simpa using hx, rfl⟩))
        | _ => rfl
    have hwn : Region.wanted o (yielded ops a.tmps) = Region.wanted o (yielded ops (stA (fun _ => a0) ops.toList ks k (slot a)).tmps) := by
      unfold Region.wanted
      cases hg : o.guard with
      | none => rfl
      | some gw =>
        obtain ⟨g, want⟩ := gw
        have : yielded ops a.tmps g = yielded ops (stA (fun _ => a0) ops.toList ks k (slot a)).tmps g := by
          unfold yielded
          cases ht : (ops[g]?).bind (·.dst) with
          | none => rfl
          | some t =>
            have hm : t ∈ o.looksAt ops := by simp [Oper.looksAt, hg, ht]
            have hs := hsl t hm
            have hsz' := I.size
            have e1 : a.tmps.size = (stA (fun _ => a0) ops.toList ks k (slot a)).tmps.size := by rw [hsz.1, hsz']
            simp only [slot] at hs
            have : a.tmps[t]? = (stA (fun _ => a0) ops.toList ks k (slot a)).tmps[t]? := by
              rcases Nat.lt_or_ge t a.tmps.size with h | h
              · have h2 : t < (stA (fun _ => a0) ops.toList ks k (slot a)).tmps.size := by rw [← e1]; exact h
                simpa [h, h2] using hs
              · rw [Array.getElem?_eq_none h, Array.getElem?_eq_none (by omega)]
            simp [this]
        simp only [this]
    have hcount : (listed.setIfInBounds k true).toList.countP (fun b => !b) ≤ fuel := by
      have hf : listed.toList[k]? = some false := by simp [hks] at h0; simp [hks, h0]
      have := countP_set hf
      rw [Array.toList_setIfInBounds]
      omega
    have hset : ∀ j, (listed.setIfInBounds k true).getD j false = true ↔ j = k ∨ listed.getD j false = true := by
      intro j
      by_cases hjk : j = k
      · subst hjk; simp [hks]
      · rw [getD_set_ne false (Ne.symm hjk)]; simp [hjk]
    -- the state behind the operation
    have next : ∀ v w', S w w' → C w' → v = ent kd (slot (a.put o.dst v)) → (∀ d Φ, kd = .nd d Φ → o.dst = some d ∧ Φ v w') → (∀ (j : Nat) d Φ, ks[j]? = some (.nd d Φ) → ∀ u, Φ u w → Φ u w') →
        InvR C ks ops a0 (listed.setIfInBounds k true) (a.put o.dst v) w' := by
      intro v w' hS' hC' hv hnd hstab
      have hin : ∀ d, o.dst = some d → d < a.tmps.size := fun d hd => by rw [I.size, hn]; exact R.inb k o d ho hd
      refine ⟨by simp [I.len], by rw [size_put, I.size], by rw [defers_put, I.defers], hC', fun t ht => ?_, fun j oj kj hoj hkj hlj => ?_⟩
      · rw [slot_put_ne (ht k o ho ((hset k).2 (.inl rfl)))]
        exact I.other t (fun j oj hoj hlj => ht j oj hoj ((hset j).2 (.inr hlj)))
      · rcases (hset j).1 hlj with rfl | hlk
        · rw [ho] at hoj; cases hoj
          rw [hkd] at hkj; cases hkj
          refine ⟨fun d hd => ?_, fun d Φ hkn => ?_⟩
          · have : slot (a.put o.dst v) d = v := by rw [hd]; exact slot_put_same (hin d hd)
            rw [this]; exact hv
          · obtain ⟨hd, hΦ⟩ := hnd d Φ hkn
            refine ⟨hd, ?_⟩
            have : slot (a.put o.dst v) d = v := by rw [hd]; exact slot_put_same (hin d hd)
            rw [this]; exact hΦ
        · by_cases hjk : j = k
          · subst hjk
            have h0' : listed.getD j false = false := by
              simp only [Array.getD_eq_getD_getElem?, Array.getElem?_eq_getElem hks, Option.getD_some] at h0 ⊢; exact h0
            rw [h0'] at hlk; cases hlk
          · obtain ⟨h1, h2⟩ := I.wrote j oj kj hoj hkj hlk
            have hne : ∀ d, oj.dst = some d → o.dst ≠ some d := fun d hd hd' => hjk (R.once k o j oj d ho hoj hd hd')
            refine ⟨fun d hd => ?_, fun d Φ hkn => ?_⟩
            · rw [slot_put_ne (hne d hd), h1 d hd]
              cases kj with
              | un => rfl
              | det c => rfl
              | nd d' Φ =>
                obtain ⟨hd', _⟩ := h2 d' Φ rfl
                exact (slot_put_ne (hne d' hd')).symm
            · obtain ⟨hd, hΦ⟩ := h2 d Φ hkn
              refine ⟨hd, ?_⟩
              rw [slot_put_ne (hne d hd)]
              exact hstab j d Φ (by rw [hkj, hkn]) _ hΦ
    have stab : ∀ (w' : World), S w w' → C w' → ∀ (j : Nat) d Φ, ks[j]? = some (.nd d Φ) → ∀ u, Φ u w → Φ u w' := by
      intro w' hS' hC' j d Φ hkj u hu
      have hjl : j < ops.toList.length := by
        have := (List.getElem?_eq_some_iff.1 hkj).1
        simp; omega
      obtain ⟨kd', hkd', hst'⟩ := hSt.at_ j _ (List.getElem?_eq_getElem hjl)
      rw [hkj] at hkd'; cases hkd'
      exact hst'.2.2.2 _ _ _ hu hS' hC'
    have hfacts : ∀ ts : List Nat, o.looksAt ops = ts → ∀ p ∈ stH [] ks k, p.1 ∈ ts → p.2 (slot a p.1) w := by
      intro ts hts p hp hpt
      rcases stH_mem [] ks k p hp with h1 | ⟨j, hj, hkj⟩
      · cases h1
      · have hjl : j < ops.size := by have := (Array.getElem?_eq_some_iff.1 ho).1; omega
        have hoj := Array.getElem?_eq_getElem hjl
        obtain ⟨kd', hkd', hst'⟩ := hSt.at_ j ops[j] (by rw [Array.getElem?_toList]; exact hoj)
        rw [hkj] at hkd'; cases hkd'
        have hd := hst'.2.2.1
        obtain ⟨_, e, he, hb, hej⟩ := R.waits k o j _ p.1 ho hoj hd (by rw [hts]; exact hpt)
        have hl := hr e he hb
        rw [hej] at hl
        exact ((I.wrote j _ _ hoj hkj hl).2 p.1 p.2 rfl).2
    unfold wpOp
    simp only [ho]
    cases kd with
    | un =>
      have : Region.wanted o (yielded ops a.tmps) = false := by rw [hwn]; exact hst _
      simp only [this, Bool.false_eq_true, if_false]
      exact ih _ _ _ (next undef w (hS w) I.cls rfl (fun d Φ h => by cases h) (stab w (hS w) I.cls)) hcount
    | det c =>
      obtain ⟨hw, ts, hts, hg⟩ := hst
      have : Region.wanted o (yielded ops a.tmps) = true := by rw [hwn]; exact hw _
      simp only [this, if_true]
      refine .inl ((hg (slot a) w I.cls (hfacts ts hts)).wp hev fun v w' ⟨hv, hS', hC'⟩ => ?_)
      exact ih _ _ _ (next v w' hS' hC' hv (fun d Φ h => by cases h) (stab w' hS' hC')) hcount
    | nd d Φ =>
      obtain ⟨hw, ⟨ts, hts, hg⟩, hd, _⟩ := hst
      have : Region.wanted o (yielded ops a.tmps) = true := by rw [hwn]; exact hw _
      simp only [this, if_true]
      refine .inl ((hg (slot a) w I.cls (hfacts ts hts)).wp hev fun v w' ⟨hv, hS', hC'⟩ => ?_)
      refine ih _ _ _ (next v w' hS' hC' ?_ (fun d' Φ' h => by cases h; exact ⟨hd, hv⟩) (stab w' hS' hC')) hcount
      show v = slot (a.put o.dst v) d
      rw [hd]
      exact (slot_put_same (by rw [I.size, hn]; exact R.inb k o d ho hd)).symm

/-- A REGION THAT DRAWS ITS ORDER, WALKED ONCE. -/
theorem wp_walk {id : Nat} {Q : Exit → Act → World → Prop} {a0 : Act} {w0 : World} (n : Nat) (hm : P.follows .mixedOrders = true) (hB : regB ops n = true) (hn : a0.tmps.size = n) (hS : ∀ w, S w w) (hC : C w0.drew)
    (h : WalkR P ops C S (Q .normal) ops.toList (fun _ => a0) []) : (Code.region id ops true).wp P Q a0 w0 := by
  obtain ⟨ks, hSt⟩ := h
  refine wp_region_any hm (walk_sound (regB_ok hB) hn hS hSt ops.size (Array.replicate ops.size false) a0 _ ?_ ?_)
  · exact ⟨by simp, rfl, rfl, hC, fun _ _ => rfl, fun j o kd ho hk hl => by simp [Array.getElem?_replicate] at hl; split at hl <;> simp at hl⟩
  · simp [List.countP_replicate]

/-! ### The moves -/
theorem WalkR.nil {A : (Nat → Value) → Act} {hs : List (Nat × Fact)} (h : ∀ ρ w, C w → (∀ p ∈ hs, p.2 (ρ p.1) w) → QN (A ρ) w) : WalkR P ops C S QN [] A hs := ⟨[], h⟩
theorem WalkR.un {o : Oper} {l : List Oper} {A : (Nat → Value) → Act} {hs : List (Nat × Fact)} (hw : ∀ ρ, Region.wanted o (yielded ops (A ρ).tmps) = false) (h : WalkR P ops C S QN l (fun ρ => (A ρ).put o.dst undef) hs) : WalkR P ops C S QN (o :: l) A hs :=
  h.elim fun ks hk => ⟨.un :: ks, hw, hk⟩
theorem WalkR.det {o : Oper} {l : List Oper} {A : (Nat → Value) → Act} {hs : List (Nat × Fact)} {c : Value} {ts : List Nat} (hw : ∀ ρ, Region.wanted o (yielded ops (A ρ).tmps) = true) (hts : o.looksAt ops = ts)
    (hg : ∀ ρ w, C w → (∀ p ∈ hs, p.1 ∈ ts → p.2 (ρ p.1) w) → gives P o (A ρ) w (fun v w' => v = c ∧ S w w' ∧ C w')) (h : WalkR P ops C S QN l (fun ρ => (A ρ).put o.dst c) hs) : WalkR P ops C S QN (o :: l) A hs :=
  h.elim fun ks hk => ⟨.det c :: ks, ⟨hw, ts, hts, hg⟩, hk⟩
theorem WalkR.nd {o : Oper} {l : List Oper} {A : (Nat → Value) → Act} {hs : List (Nat × Fact)} {d : Nat} (Φ : Fact) {ts : List Nat} (hw : ∀ ρ, Region.wanted o (yielded ops (A ρ).tmps) = true) (hts : o.looksAt ops = ts) (hd : o.dst = some d) (hst : ∀ v w w', Φ v w → S w w' → C w' → Φ v w')
    (hg : ∀ ρ w, C w → (∀ p ∈ hs, p.1 ∈ ts → p.2 (ρ p.1) w) → gives P o (A ρ) w (fun v w' => Φ v w' ∧ S w w' ∧ C w')) (h : WalkR P ops C S QN l (fun ρ => (A ρ).put o.dst (ρ d)) ((d, Φ) :: hs)) : WalkR P ops C S QN (o :: l) A hs :=
  h.elim fun ks hk => ⟨.nd d Φ :: ks, ⟨hw, ⟨ts, hts, hg⟩, hd, hst⟩, hk⟩

end

end Go.Proofs.Ytjjipkgconmfcaa

namespace Go.Proofs.Ytjjipkgconmfcaa
open Go.RowKit

/-- The step of a walk through a region that only makes new memory. -/
abbrev Grows (W W' : World) : Prop := Below W.heap.size W W'

theorem Grows.refl (W : World) : Grows W W := Below.refl _ _

/-- A new slice of just these cells. -/
def NewSl (n : Nat) (cs : Array Value) (e : TypeId) : Fact := fun v W => ∃ g, v = .slice (some ⟨g, 0, none⟩) n n ∧ W.heap[g]? = some (.cells cs e (0, 0))

theorem NewSl.keep {n : Nat} {cs : Array Value} {e : TypeId} (v : Value) (W W' : World) (h : NewSl n cs e v W) (hg : Grows W W') : NewSl n cs e v W' := by
  obtain ⟨g, hv, hm⟩ := h
  exact ⟨g, hv, (hg.block g (Array.getElem?_eq_some_iff.1 hm).1).trans hm⟩

end Go.Proofs.Ytjjipkgconmfcaa

namespace Go.Proofs.Ytjjipkgconmfcaa
namespace R2

section
variable {ops : Array Oper}
variable (ops) in
/-- What is asked of a region, as one Bool: edges go back; slots are written once, and lie in the frame; whatever an operation looks at that another one of the region writes, it waits for. -/
def regB (n : Nat) : Bool :=
  (List.range ops.size).all fun k =>
    match ops[k]? with
    | none => true
    | some o =>
      (o.after.all fun e => !Region.binds .any e || decide (e.on < k)) &&
      (match o.dst with | some d => decide (d < n) | none => true) &&
      (match o.op with | .select .. => false | _ => true) &&
      ((List.range ops.size).all fun j =>
        match ops[j]? with
        | none => true
        | some oj =>
          match oj.dst with
          | none => true
          | some d => (decide (j = k) || o.dst != some d) && (!(o.looksAt ops).contains d || (decide (j < k) && o.after.any fun e => Region.binds .any e && e.on == j) || (decide (k < j) && oj.after.any fun e => Region.binds .any e && e.on == k)))

structure RegOk (n : Nat) (ops : Array Oper) : Prop where
  back : ∀ (k : Nat) (o : Oper), ops[k]? = some o → ∀ e ∈ o.after, Region.binds .any e = true → e.on < k
  inb : ∀ (k : Nat) (o : Oper) (d : Nat), ops[k]? = some o → o.dst = some d → d < n
  sel : ∀ (k : Nat) (o : Oper), ops[k]? = some o → ∀ cs b, o.op ≠ .select cs b
  once : ∀ (k : Nat) (o : Oper) (j : Nat) (oj : Oper) (d : Nat), ops[k]? = some o → ops[j]? = some oj → oj.dst = some d → o.dst = some d → j = k
  waits : ∀ (k : Nat) (o : Oper) (j : Nat) (oj : Oper) (d : Nat), ops[k]? = some o → ops[j]? = some oj → oj.dst = some d → d ∈ o.looksAt ops → (j < k ∧ ∃ e ∈ o.after, Region.binds .any e = true ∧ e.on = j) ∨ (k < j ∧ ∃ e ∈ oj.after, Region.binds .any e = true ∧ e.on = k)

theorem regB_ok {n : Nat} (h : regB ops n = true) : RegOk n ops := by
  simp only [regB, List.all_eq_true, List.mem_range] at h
  have h' : ∀ (k : Nat) (o : Oper), ops[k]? = some o → _ := fun k o ho => by
    have := h k (Array.getElem?_eq_some_iff.1 ho).1
    simp only [ho, Bool.and_eq_true] at this
    exact this
  have hj : ∀ (k : Nat) (o : Oper) (j : Nat) (oj : Oper) (d : Nat), ops[k]? = some o → ops[j]? = some oj → oj.dst = some d → _ := fun k o j oj d ho hoj hd => by
    have := (h' k o ho).2
    simp only [List.all_eq_true, List.mem_range] at this
    have := this j (Array.getElem?_eq_some_iff.1 hoj).1
    simp only [hoj, hd, Bool.and_eq_true] at this
    exact this
  refine ⟨fun k o ho e he hb => ?_, fun k o d ho hd => ?_, fun k o ho cs b e => ?_, fun k o j oj d ho hoj hd hd' => ?_, fun k o j oj d ho hoj hd hm => ?_⟩
  · have := (h' k o ho).1.1.1
    rw [Array.all_eq_true_iff_forall_mem] at this
    simpa [hb] using this e he
  · have := (h' k o ho).1.1.2
    simpa [hd] using this
  · have := (h' k o ho).1.2
    simp [e] at this
  · have := (hj k o j oj d ho hoj hd).1
    simpa [hd'] using this
  · have := (hj k o j oj d ho hoj hd).2
    simp only [Bool.or_eq_true, Bool.not_eq_true', Bool.and_eq_true, decide_eq_true_eq, Array.any_eq_true', beq_iff_eq] at this
    rcases this with (h1 | ⟨h1, e, he, hb⟩) | ⟨h1, e, he, hb⟩
    · have : (o.looksAt ops).contains d = true := by simpa using hm
      rw [h1] at this; cases this
    · exact .inl ⟨h1, e, he, hb⟩
    · exact .inr ⟨h1, e, he, hb⟩

/-- The slots that an operation waits for. -/
def depsOf (ops : Array Oper) (o : Oper) : List Nat := o.after.toList.filterMap fun e => if Region.binds .any e = true then (ops[e.on]?).bind (·.dst) else none
theorem mem_deps {o : Oper} {u : Nat} : u ∈ depsOf ops o ↔ ∃ e ∈ o.after, Region.binds .any e = true ∧ ∃ od, ops[e.on]? = some od ∧ od.dst = some u := by
  simp only [depsOf, List.mem_filterMap, Array.mem_toList_iff]
  constructor
  · rintro ⟨e, he, h⟩
    split at h
    · rename_i hb
      rw [Option.bind_eq_some_iff] at h
      exact ⟨e, he, hb, h⟩
    · cases h
  · rintro ⟨e, he, hb, od, h1, h2⟩
    exact ⟨e, he, by rw [if_pos hb, Option.bind_eq_some_iff]; exact ⟨od, h1, h2⟩⟩

end

section
variable (P : Program) (ops : Array Oper) (C : World → Prop) (S : Oper → World → World → Prop) (x0 : Nat) (Ψ : World → Prop) (QN : Act → World → Prop)

/-- How an operation is met: it isn't wanted; it yields one value; it yields a value of which a fact is known. -/
inductive Kd where
  | un
  | det (c : Value)
  | nd (d : Nat) (Φ : Fact)
  | fx (t : Nat) (Φ : Fact)
  | tp (d x : Nat) (Φ : Fact)

def ent : Kd → (Nat → Value) → Value
  | .un, _ => undef
  | .det c, _ => c
  | .nd d _, ρ => ρ d
  | .fx _ _, _ => undef
  | .tp d _ _, ρ => ρ d
def nextA (A : (Nat → Value) → Act) (o : Oper) (kd : Kd) : (Nat → Value) → Act := fun ρ => (A ρ).put o.dst (ent kd ρ)
def nextH (hs : List (Nat × Fact)) : Kd → List (Nat × Fact)
  | .nd d Φ => (d, Φ) :: hs
  | _ => hs
/-- Facts that hold until the operation that writes slot x. -/
def nextT (us : List (Nat × Nat × Fact)) : Kd → List (Nat × Nat × Fact)
  | .tp d x Φ => (d, x, Φ) :: us
  | _ => us
def nextF (fs : List (Nat × Fact)) : Kd → List (Nat × Fact)
  | .fx t Φ => (t, Φ) :: fs
  | _ => fs

/-- What is owed for one operation. -/
def StepOk (o : Oper) (kd : Kd) (A : (Nat → Value) → Act) (hs : List (Nat × Fact)) (us : List (Nat × Nat × Fact)) : Prop :=
  match kd with
  | .un => ∀ ρ, Region.wanted o (yielded ops (A ρ).tmps) = false
  | .det c => (∀ ρ, Region.wanted o (yielded ops (A ρ).tmps) = true) ∧ ∃ ts : List Nat, o.looksAt ops = ts ∧
      ∀ ρ w, C w → (∀ p ∈ hs, p.1 ∈ ts → p.2 (ρ p.1) w) → ((∀ p ∈ us, p.1 ∈ ts → o.dst = some p.2.1 → p.2.2 (ρ p.1) w) ∧ (o.dst = some x0 → Ψ w)) → gives P o (A ρ) w (fun v w' => v = c ∧ S o w w' ∧ C w')
  | .nd d Φ => (∀ ρ, Region.wanted o (yielded ops (A ρ).tmps) = true) ∧ (∃ ts : List Nat, o.looksAt ops = ts ∧
      ∀ ρ w, C w → (∀ p ∈ hs, p.1 ∈ ts → p.2 (ρ p.1) w) → ((∀ p ∈ us, p.1 ∈ ts → o.dst = some p.2.1 → p.2.2 (ρ p.1) w) ∧ (o.dst = some x0 → Ψ w)) → gives P o (A ρ) w (fun v w' => Φ v w' ∧ S o w w' ∧ C w')) ∧ o.dst = some d ∧ (∀ (o' : Oper) v w w', o'.dst ≠ some d → (∀ u ∈ depsOf ops o, o'.dst ≠ some u) → Φ v w → S o' w w' → C w' → Φ v w')
  | .fx t Φ => (∀ ρ, Region.wanted o (yielded ops (A ρ).tmps) = true) ∧ (∃ ts : List Nat, o.looksAt ops = ts ∧ t ∈ ts ∧ t ∈ depsOf ops o ∧
      ∀ ρ w, C w → (∀ p ∈ hs, p.1 ∈ ts → p.2 (ρ p.1) w) → ((∀ p ∈ us, p.1 ∈ ts → o.dst = some p.2.1 → p.2.2 (ρ p.1) w) ∧ (o.dst = some x0 → Ψ w)) → gives P o (A ρ) w (fun _ w' => Φ (slot (A ρ) t) w' ∧ S o w w' ∧ C w')) ∧ o.dst = none ∧ (∀ (o' : Oper) v w w', Φ v w → S o' w w' → C w' → Φ v w')
  | .tp d x Φ => (∀ ρ, Region.wanted o (yielded ops (A ρ).tmps) = true) ∧ (∃ ts : List Nat, o.looksAt ops = ts ∧
      ∀ ρ w, C w → (∀ p ∈ hs, p.1 ∈ ts → p.2 (ρ p.1) w) → ((∀ p ∈ us, p.1 ∈ ts → o.dst = some p.2.1 → p.2.2 (ρ p.1) w) ∧ (o.dst = some x0 → Ψ w)) → gives P o (A ρ) w (fun v w' => Φ v w' ∧ S o w w' ∧ C w')) ∧ o.dst = some d ∧ (∀ (o' : Oper) v w w', o'.dst ≠ some d → o'.dst ≠ some x → Φ v w → S o' w w' → C w' → Φ v w')

/-- The walk in the text's order. -/
def Steps : List Oper → List Kd → ((Nat → Value) → Act) → List (Nat × Fact) → List (Nat × Nat × Fact) → List (Nat × Fact) → Prop
  | [], [], A, hs, _, fs => ∀ ρ w, C w → (∀ p ∈ hs, p.2 (ρ p.1) w) → (∀ p ∈ fs, p.2 (slot (A ρ) p.1) w) → QN (A ρ) w
  | o :: l, kd :: ks, A, hs, us, fs => StepOk P ops C S x0 Ψ o kd A hs us ∧ Steps l ks (nextA A o kd) (nextH hs kd) (nextT us kd) (nextF fs kd)
  | _, _, _, _, _, _ => False

/-- .. without its list: what a proof goes through. -/
def WalkR (l : List Oper) (A : (Nat → Value) → Act) (hs : List (Nat × Fact)) (us : List (Nat × Nat × Fact)) (fs : List (Nat × Fact)) : Prop := ∃ ks, Steps P ops C S x0 Ψ QN l ks A hs us fs

def stA (A : (Nat → Value) → Act) : List Oper → List Kd → Nat → (Nat → Value) → Act
  | o :: l, kd :: ks, i + 1 => stA (nextA A o kd) l ks i
  | _, _, _ => A
def stH (hs : List (Nat × Fact)) : List Kd → Nat → List (Nat × Fact)
  | kd :: ks, i + 1 => stH (nextH hs kd) ks i
  | _, _ => hs
def stT (us : List (Nat × Nat × Fact)) : List Kd → Nat → List (Nat × Nat × Fact)
  | kd :: ks, i + 1 => stT (nextT us kd) ks i
  | _, _ => us
def stF (fs : List (Nat × Fact)) : List Kd → Nat → List (Nat × Fact)
  | kd :: ks, i + 1 => stF (nextF fs kd) ks i
  | _, _ => fs

variable {P ops C S x0 Ψ QN}

theorem Steps.at_ : ∀ {l : List Oper} {ks : List Kd} {A : (Nat → Value) → Act} {hs : List (Nat × Fact)} {us : List (Nat × Nat × Fact)} {fs : List (Nat × Fact)}, Steps P ops C S x0 Ψ QN l ks A hs us fs → ∀ i o, l[i]? = some o → ∃ kd, ks[i]? = some kd ∧ StepOk P ops C S x0 Ψ o kd (stA A l ks i) (stH hs ks i) (stT us ks i)
  | o :: l, kd :: ks, A, hs, us, fs, h, 0, o', ho => by
    simp at ho; subst ho
    exact ⟨kd, rfl, h.1⟩
  | o :: l, kd :: ks, A, hs, us, fs, h, i + 1, o', ho => Steps.at_ h.2 i o' (by simpa using ho)
  | [], _, _, _, _, _, _, _, _, ho => by simp at ho
  | _ :: _, [], _, _, _, _, h, _, _, _ => h.elim

theorem Steps.end_ : ∀ {l : List Oper} {ks : List Kd} {A : (Nat → Value) → Act} {hs : List (Nat × Fact)} {us : List (Nat × Nat × Fact)} {fs : List (Nat × Fact)}, Steps P ops C S x0 Ψ QN l ks A hs us fs →
    ks.length = l.length ∧ ∀ ρ w, C w → (∀ p ∈ stH hs ks l.length, p.2 (ρ p.1) w) → (∀ p ∈ stF fs ks l.length, p.2 (slot (stA A l ks l.length ρ) p.1) w) → QN (stA A l ks l.length ρ) w
  | [], [], A, hs, us, fs, h => ⟨rfl, h⟩
  | o :: l, kd :: ks, A, hs, us, fs, h => by
    obtain ⟨h1, h2⟩ := Steps.end_ h.2
    exact ⟨by simp [h1], h2⟩
  | [], _ :: _, _, _, _, _, h => h.elim
  | _ :: _, [], _, _, _, _, h => h.elim

theorem stA_size : ∀ (A : (Nat → Value) → Act) (l : List Oper) (ks : List Kd) (i : Nat) (ρ : Nat → Value), (stA A l ks i ρ).tmps.size = (A ρ).tmps.size ∧ (stA A l ks i ρ).defers = (A ρ).defers
  | A, o :: l, kd :: ks, i + 1, ρ => by
    have := stA_size (nextA A o kd) l ks i ρ
    simpa [stA, nextA, size_put, defers_put] using this
  | A, [], _, _, ρ => by simp [stA]
  | A, _ :: _, [], _, ρ => by simp [stA]
  | A, _ :: _, _ :: _, 0, ρ => by simp [stA]

/-- A slot that none of the first i operations writes. -/
theorem stA_other : ∀ (A : (Nat → Value) → Act) (l : List Oper) (ks : List Kd) (i : Nat) (ρ : Nat → Value) (t : Nat), (∀ j o, j < i → l[j]? = some o → o.dst ≠ some t) → slot (stA A l ks i ρ) t = slot (A ρ) t
  | A, o :: l, kd :: ks, i + 1, ρ, t, h => by
    rw [show stA A (o :: l) (kd :: ks) (i + 1) ρ = stA (nextA A o kd) l ks i ρ from rfl,
      stA_other (nextA A o kd) l ks i ρ t (fun j o' hj ho => h (j + 1) o' (by omega) (by simpa using ho))]
    exact slot_put_ne (h 0 o (by omega) rfl)
  | A, [], _, _, ρ, t, _ => by simp [stA]
  | A, _ :: _, [], _, ρ, t, _ => by simp [stA]
  | A, _ :: _, _ :: _, 0, ρ, t, _ => by simp [stA]

/-- A slot that one of them writes, and none after it. -/
theorem stA_wrote : ∀ (A : (Nat → Value) → Act) (l : List Oper) (ks : List Kd) (i : Nat) (ρ : Nat → Value) (t j : Nat) (o : Oper) (kd : Kd), j < i → l[j]? = some o → ks[j]? = some kd → o.dst = some t → t < (A ρ).tmps.size →
    (∀ j' o', j < j' → j' < i → l[j']? = some o' → o'.dst ≠ some t) → slot (stA A l ks i ρ) t = ent kd ρ
  | A, o :: l, kd :: ks, i + 1, ρ, t, 0, o', kd', hj, ho, hk, hd, ht, h => by
    simp at ho hk; subst ho hk
    rw [show stA A (o :: l) (kd :: ks) (i + 1) ρ = stA (nextA A o kd) l ks i ρ from rfl,
      stA_other (nextA A o kd) l ks i ρ t (fun j o' hj ho => h (j + 1) o' (by omega) (by omega) (by simpa using ho))]
    show slot ((A ρ).put o.dst (ent kd ρ)) t = _
    rw [hd]; exact slot_put_same ht
  | A, o :: l, kd :: ks, i + 1, ρ, t, j + 1, o', kd', hj, ho, hk, hd, ht, h =>
    stA_wrote (nextA A o kd) l ks i ρ t j o' kd' (by omega) (by simpa using ho) (by simpa using hk) hd (by simpa [nextA, size_put] using ht) (fun j' o'' h1 h2 h3 => h (j' + 1) o'' (by omega) (by omega) (by simpa using h3))
  | A, [], _, _, ρ, t, j, o, kd, _, ho, _, _, _, _ => by simp at ho
  | A, _ :: _, [], _, ρ, t, j, o, kd, _, _, hk, _, _, _ => by simp at hk
  | A, _ :: _, _ :: _, 0, ρ, t, j, o, kd, hj, _, _, _, _, _ => by omega

theorem stH_mem : ∀ (hs : List (Nat × Fact)) (ks : List Kd) (i : Nat) (p : Nat × Fact), p ∈ stH hs ks i → p ∈ hs ∨ ∃ j, j < i ∧ ks[j]? = some (.nd p.1 p.2)
  | hs, kd :: ks, i + 1, p, h => by
    rcases stH_mem (nextH hs kd) ks i p h with h1 | ⟨j, hj, hk⟩
    · cases kd with
      | nd d Φ =>
        simp only [nextH, List.mem_cons] at h1
        rcases h1 with rfl | h1
        · exact .inr ⟨0, by omega, rfl⟩
        · exact .inl h1
      | _ => exact .inl h1
    · exact .inr ⟨j + 1, by omega, by simpa using hk⟩
  | hs, [], _, p, h => .inl (by simpa [stH] using h)
  | hs, _ :: _, 0, p, h => .inl (by simpa [stH] using h)

theorem stT_mem : ∀ (us : List (Nat × Nat × Fact)) (ks : List Kd) (i : Nat) (p : Nat × Nat × Fact), p ∈ stT us ks i → p ∈ us ∨ ∃ j, j < i ∧ ks[j]? = some (.tp p.1 p.2.1 p.2.2)
  | us, kd :: ks, i + 1, p, h => by
    rcases stT_mem (nextT us kd) ks i p h with h1 | ⟨j, hj, hk⟩
    · cases kd with
      | tp d x Φ =>
        simp only [nextT, List.mem_cons] at h1
        rcases h1 with rfl | h1
        · exact .inr ⟨0, by omega, rfl⟩
        · exact .inl h1
      | _ => exact .inl h1
    · exact .inr ⟨j + 1, by omega, by simpa using hk⟩
  | us, [], _, p, h => .inl (by simpa [stT] using h)
  | us, _ :: _, 0, p, h => .inl (by simpa [stT] using h)

theorem stF_mem : ∀ (fs : List (Nat × Fact)) (ks : List Kd) (i : Nat) (p : Nat × Fact), p ∈ stF fs ks i → p ∈ fs ∨ ∃ j, j < i ∧ ks[j]? = some (.fx p.1 p.2)
  | fs, kd :: ks, i + 1, p, h => by
    rcases stF_mem (nextF fs kd) ks i p h with h1 | ⟨j, hj, hk⟩
    · cases kd with
      | fx t Φ =>
        simp only [nextF, List.mem_cons] at h1
        rcases h1 with rfl | h1
        · exact .inr ⟨0, by omega, rfl⟩
        · exact .inl h1
      | _ => exact .inl h1
    · exact .inr ⟨j + 1, by omega, by simpa using hk⟩
  | fs, [], _, p, h => .inl (by simpa [stF] using h)
  | fs, _ :: _, 0, p, h => .inl (by simpa [stF] using h)

/-- What holds on the way: of the operations that have come up. -/
structure InvR (C : World → Prop) (x0 : Nat) (Ψ : World → Prop) (ks : List Kd) (ops : Array Oper) (a0 : Act) (listed : Array Bool) (a : Act) (w : World) : Prop where
  len : listed.size = ops.size
  size : a.tmps.size = a0.tmps.size
  defers : a.defers = a0.defers
  cls : C w
  psi : (∀ (i : Nat) (oi : Oper), ops[i]? = some oi → oi.dst = some x0 → listed.getD i false = false) → Ψ w
  closed : ∀ (j : Nat) (o : Oper), ops[j]? = some o → listed.getD j false = true → ∀ e ∈ o.after, Region.binds .any e = true → listed.getD e.on false = true
  other : ∀ t, (∀ (j : Nat) (o : Oper), ops[j]? = some o → listed.getD j false = true → o.dst ≠ some t) → slot a t = slot a0 t
  wrote : ∀ (j : Nat) (o : Oper) (kd : Kd), ops[j]? = some o → ks[j]? = some kd → listed.getD j false = true →
    (∀ d, o.dst = some d → slot a d = ent kd (slot a)) ∧ (∀ d Φ, kd = .nd d Φ → o.dst = some d ∧ Φ (slot a d) w) ∧ (∀ t Φ, kd = .fx t Φ → t ∈ depsOf ops o ∧ Φ (slot a t) w) ∧
    (∀ d x Φ, kd = .tp d x Φ → o.dst = some d ∧ ((∀ (i : Nat) (oi : Oper), ops[i]? = some oi → oi.dst = some x → listed.getD i false = false) → Φ (slot a d) w))

theorem slot_at {n : Nat} {a0 : Act} {listed : Array Bool} {a : Act} {w : World} {ks : List Kd} (R : RegOk n ops) (hn : a0.tmps.size = n) (hk : ks.length = ops.size) (I : InvR C x0 Ψ ks ops a0 listed a w) {k : Nat} {o : Oper} (ho : ops[k]? = some o)
    (hr : ∀ e ∈ o.after, Region.binds .any e = true → listed.getD e.on false = true) (h0 : listed.getD k false = false) {t : Nat} (ht : t ∈ o.looksAt ops) :
    slot a t = slot (stA (fun _ => a0) ops.toList ks k (slot a)) t := by
  by_cases hw : ∃ (j : Nat) (oj : Oper), ops[j]? = some oj ∧ oj.dst = some t
  · obtain ⟨j, oj, hoj, hd⟩ := hw
    rcases R.waits k o j oj t ho hoj hd ht with ⟨hjk, e, he, hb, rfl⟩ | ⟨hjk, e, he, hb, hek⟩
    · have hl := hr e he hb
      have hjs : e.on < ks.length := by rw [hk]; exact (Array.getElem?_eq_some_iff.1 hoj).1
      have hkd : ks[e.on]? = some ks[e.on] := List.getElem?_eq_getElem hjs
      rw [stA_wrote (fun _ => a0) ops.toList ks k (slot a) t e.on oj _ hjk (by simpa using hoj) hkd hd (by rw [hn]; exact R.inb _ _ _ hoj hd)
        (fun j' o' h1 h2 h3 h4 => by
          have := R.once e.on oj j' o' t hoj (by simpa using h3) h4 hd
          omega)]
      exact (I.wrote e.on oj _ hoj hkd hl).1 t hd
    · rw [stA_other (fun _ => a0) ops.toList ks k (slot a) t (fun j' oj' hj' hoj' hd' => by
        have := R.once j oj j' oj' t hoj (by simpa using hoj') hd' hd
        omega)]
      refine I.other t (fun j' oj' hoj' hl hd' => ?_)
      have hjj := R.once j oj j' oj' t hoj hoj' hd' hd
      subst hjj
      have := I.closed j' oj hoj hl e he hb
      rw [hek, h0] at this; cases this
  · rw [stA_other (fun _ => a0) ops.toList ks k (slot a) t (fun j oj _ hoj hd => hw ⟨j, oj, by simpa using hoj, hd⟩)]
    exact I.other t (fun j oj hoj _ hd => hw ⟨j, oj, hoj, hd⟩)

theorem walk_sound {n : Nat} {a0 : Act} {ks : List Kd} {Q : Exit → Act → World → Prop} (R : RegOk n ops) (hn : a0.tmps.size = n) (hS : ∀ o w, S o w w) (hPsi : ∀ (o' : Oper) w w', o'.dst ≠ some x0 → Ψ w → S o' w w' → C w' → Ψ w') (hSt : Steps P ops C S x0 Ψ (Q .normal) ops.toList ks (fun _ => a0) [] [] []) :
    ∀ (fuel : Nat) (listed : Array Bool) (a : Act) (w : World), InvR C x0 Ψ ks ops a0 listed a w → listed.toList.countP (fun b => !b) ≤ fuel → wpAny P .any ops Q fuel listed a w := by
  obtain ⟨hk, hend⟩ := hSt.end_
  simp only [Array.length_toList] at hk hend
  -- all have come up: the state is the walk's last one
  have fin : ∀ (listed : Array Bool) (a : Act) (w : World), InvR C x0 Ψ ks ops a0 listed a w → Region.ready .any ops listed = [] → Q .normal a w := by
    intro listed a w I hr
    have hall : ∀ k, k < ops.size → listed.getD k false = true := by
      intro k
      induction k using Nat.strongRecOn with
      | _ k ih =>
        intro hlt
        have hks : k < listed.size := by rw [I.len]; exact hlt
        cases hb : listed.getD k false with
        | true => rfl
        | false =>
          exfalso
          have hk2 : k ∈ Region.ready .any ops listed := by
            refine mem_ready.2 ⟨by simpa [hks] using hb, ops[k], Array.getElem?_eq_getElem hlt, fun e he hbi => ?_⟩
            have hlt2 := R.back k _ (Array.getElem?_eq_getElem hlt) e he hbi
            exact ih e.on hlt2 (by omega)
          rw [hr] at hk2; cases hk2
    have ha : a = stA (fun _ => a0) ops.toList ks ops.size (slot a) := by
      have hsz := stA_size (fun _ => a0) ops.toList ks ops.size (slot a)
      have hslot : ∀ t, slot a t = slot (stA (fun _ => a0) ops.toList ks ops.size (slot a)) t := by
        intro t
        by_cases hw : ∃ (j : Nat) (oj : Oper), ops[j]? = some oj ∧ oj.dst = some t
        · obtain ⟨j, oj, hoj, hd⟩ := hw
          have hj := (Array.getElem?_eq_some_iff.1 hoj).1
          have hkd : ks[j]? = some ks[j] := List.getElem?_eq_getElem (by omega)
          rw [stA_wrote (fun _ => a0) ops.toList ks ops.size (slot a) t j oj _ hj (by simpa using hoj) hkd hd (by rw [hn]; exact R.inb _ _ _ hoj hd)
            (fun j' o' h1 h2 h3 h4 => by
              have := R.once j oj j' o' t hoj (by simpa using h3) h4 hd
              omega)]
          exact (I.wrote j oj _ hoj hkd (hall j hj)).1 t hd
        · rw [stA_other (fun _ => a0) ops.toList ks ops.size (slot a) t (fun j oj _ hoj hd => hw ⟨j, oj, by simpa using hoj, hd⟩)]
          exact I.other t (fun j oj hoj _ hd => hw ⟨j, oj, hoj, hd⟩)
      obtain ⟨h1, h2⟩ := hsz
      have hd := I.defers
      have hs := I.size
      generalize stA (fun _ => a0) ops.toList ks ops.size (slot a) = b at *
      obtain ⟨ta, da⟩ := a
      obtain ⟨tb, db⟩ := b
      simp only [Act.mk.injEq] at *
      refine ⟨?_, by rw [hd, h2]⟩
      apply Array.ext
      · omega
      · intro i hi1 hi2
        have := hslot i
        simp only [slot] at this
        simpa [hi1, hi2] using this
    rw [ha]
    refine hend _ w I.cls (fun p hp => ?_) (fun p hp => ?_)
    · rcases stH_mem [] ks ops.size p hp with h1 | ⟨j, hj, hkd⟩
      · cases h1
      · exact ((I.wrote j _ _ (Array.getElem?_eq_getElem hj) hkd (hall j hj)).2.1 p.1 p.2 rfl).2
    · rcases stF_mem [] ks ops.size p hp with h1 | ⟨j, hj, hkd⟩
      · cases h1
      · rw [← ha]
        exact ((I.wrote j _ _ (Array.getElem?_eq_getElem hj) hkd (hall j hj)).2.2.1 p.1 p.2 rfl).2
  intro fuel
  induction fuel with
  | zero =>
    intro listed a w I hc
    have hr : Region.ready .any ops listed = [] := by
      rw [List.eq_nil_iff_forall_not_mem]
      intro k hk2
      obtain ⟨h0, o, ho, _⟩ := mem_ready.1 hk2
      have hks : k < listed.size := by rw [I.len]; exact (Array.getElem?_eq_some_iff.1 ho).1
      have hm : listed[k] ∈ listed.toList := by simp
      have := List.countP_eq_zero.1 (by omega : listed.toList.countP (fun b => !b) = 0) _ hm
      simp [hks] at h0
      simp [h0] at this
    exact ⟨hr, fin listed a w I hr⟩
  | succ fuel ih =>
    intro listed a w I hc
    refine ⟨fin listed a w I, fun k hk2 => ?_⟩
    obtain ⟨h0, o, ho, hr⟩ := mem_ready.1 hk2
    have hks : k < listed.size := by rw [I.len]; exact (Array.getElem?_eq_some_iff.1 ho).1
    obtain ⟨kd, hkd, hst⟩ := hSt.at_ k o (by simpa using ho)
    have h0k : listed.getD k false = false := by
      simp only [Array.getD_eq_getD_getElem?, Array.getElem?_eq_getElem hks, Option.getD_some] at h0 ⊢; exact h0
    have hsl : ∀ t, t ∈ o.looksAt ops → slot a t = slot (stA (fun _ => a0) ops.toList ks k (slot a)) t := fun t ht => slot_at R hn hk I ho hr h0k ht
    have hsz := stA_size (fun _ => a0) ops.toList ks k (slot a)
    have hev : execOp a.eval o = execOp (stA (fun _ => a0) ops.toList ks k (slot a)).eval o :=
      execOp_congr o (R.sel k o ho) fun x hx => by
        cases x with
        | tmp t => exact hsl t (List.mem_append_left _ (List.mem_filterMap.2 ⟨.tmp t, by simpa using hx, rfl⟩))
        | _ => rfl
    have hwn : Region.wanted o (yielded ops a.tmps) = Region.wanted o (yielded ops (stA (fun _ => a0) ops.toList ks k (slot a)).tmps) := by
      unfold Region.wanted
      cases hg : o.guard with
      | none => rfl
      | some gw =>
        obtain ⟨g, want⟩ := gw
        have : yielded ops a.tmps g = yielded ops (stA (fun _ => a0) ops.toList ks k (slot a)).tmps g := by
          unfold yielded
          cases ht : (ops[g]?).bind (·.dst) with
          | none => rfl
          | some t =>
            have hm : t ∈ o.looksAt ops := by simp [Oper.looksAt, hg, ht]
            have hs := hsl t hm
            have hsz' := I.size
            have e1 : a.tmps.size = (stA (fun _ => a0) ops.toList ks k (slot a)).tmps.size := by rw [hsz.1, hsz']
            simp only [slot] at hs
            have : a.tmps[t]? = (stA (fun _ => a0) ops.toList ks k (slot a)).tmps[t]? := by
              rcases Nat.lt_or_ge t a.tmps.size with h | h
              · have h2 : t < (stA (fun _ => a0) ops.toList ks k (slot a)).tmps.size := by rw [← e1]; exact h
                simpa [h, h2] using hs
              · rw [Array.getElem?_eq_none h, Array.getElem?_eq_none (by omega)]
            simp [this]
        simp only [this]
    have hcount : (listed.setIfInBounds k true).toList.countP (fun b => !b) ≤ fuel := by
      have hf : listed.toList[k]? = some false := by simp [hks] at h0; simp [hks, h0]
      have := countP_set hf
      rw [Array.toList_setIfInBounds]
      omega
    have hset : ∀ j, (listed.setIfInBounds k true).getD j false = true ↔ j = k ∨ listed.getD j false = true := by
      intro j
      by_cases hjk : j = k
      · subst hjk; simp [hks]
      · rw [getD_set_ne false (Ne.symm hjk)]; simp [hjk]
    -- an operation that is done waits for nothing that is not
    have notdone : ∀ (j : Nat) (oj : Oper), ops[j]? = some oj → listed.getD j false = true → ∀ u ∈ depsOf ops oj, o.dst ≠ some u := by
      intro j oj hoj hlj u hu hd'
      obtain ⟨e, he, hb, od, hod, hdu⟩ := mem_deps.1 hu
      have hek := R.once k o e.on od u ho hod hdu hd'
      have := I.closed j oj hoj hlj e he hb
      rw [hek, h0k] at this; cases this
    -- the state behind the operation
    have next : ∀ v w', S o w w' → C w' → v = ent kd (slot (a.put o.dst v)) → (∀ d Φ, kd = .nd d Φ → o.dst = some d ∧ Φ v w') → (∀ t Φ, kd = .fx t Φ → t ∈ depsOf ops o ∧ Φ (slot (a.put o.dst v) t) w') → (∀ d x Φ, kd = .tp d x Φ → o.dst = some d ∧ Φ v w') →
        InvR C x0 Ψ ks ops a0 (listed.setIfInBounds k true) (a.put o.dst v) w' := by
      intro v w' hS' hC' hv hnd hfx htp
      have hin : ∀ d, o.dst = some d → d < a.tmps.size := fun d hd => by rw [I.size, hn]; exact R.inb k o d ho hd
      refine ⟨by simp [I.len], by rw [size_put, I.size], by rw [defers_put, I.defers], hC', fun hno => ?_, fun j oj hoj hlj e he hb => ?_, fun t ht => ?_, fun j oj kj hoj hkj hlj => ?_⟩
      · have hnx : o.dst ≠ some x0 := fun hx => by
          have := hno k o ho hx
          rw [(hset k).2 (.inl rfl)] at this; cases this
        refine hPsi o _ _ hnx (I.psi fun i oi hoi hx => ?_) hS' hC'
        have := hno i oi hoi hx
        cases hb : listed.getD i false with
        | false => rfl
        | true => rw [(hset i).2 (.inr hb)] at this; cases this
      · rcases (hset j).1 hlj with rfl | hlk
        · rw [ho] at hoj; cases hoj
          exact (hset _).2 (.inr (hr e he hb))
        · exact (hset _).2 (.inr (I.closed j oj hoj hlk e he hb))
      · rw [slot_put_ne (ht k o ho ((hset k).2 (.inl rfl)))]
        exact I.other t (fun j oj hoj hlj => ht j oj hoj ((hset j).2 (.inr hlj)))
      · rcases (hset j).1 hlj with rfl | hlk
        · rw [ho] at hoj; cases hoj
          rw [hkd] at hkj; cases hkj
          refine ⟨fun d hd => ?_, fun d Φ hkn => ?_, hfx, fun d x Φ hkn => ?_⟩
          · have : slot (a.put o.dst v) d = v := by rw [hd]; exact slot_put_same (hin d hd)
            rw [this]; exact hv
          · obtain ⟨hd, hΦ⟩ := hnd d Φ hkn
            refine ⟨hd, ?_⟩
            have : slot (a.put o.dst v) d = v := by rw [hd]; exact slot_put_same (hin d hd)
            rw [this]; exact hΦ
          · obtain ⟨hd, hΦ⟩ := htp d x Φ hkn
            refine ⟨hd, fun _ => ?_⟩
            have : slot (a.put o.dst v) d = v := by rw [hd]; exact slot_put_same (hin d hd)
            rw [this]; exact hΦ
        · have hjk : j ≠ k := fun e => by rw [e, h0k] at hlk; cases hlk
          obtain ⟨h1, h2, h3, h4⟩ := I.wrote j oj kj hoj hkj hlk
          have hne : ∀ d, oj.dst = some d → o.dst ≠ some d := fun d hd hd' => hjk (R.once k o j oj d ho hoj hd hd')
          obtain ⟨kd', hkd', hst'⟩ := hSt.at_ j oj (by simpa using hoj)
          rw [hkj] at hkd'; cases hkd'
          refine ⟨fun d hd => ?_, fun d Φ hkn => ?_, fun t Φ hkn => ?_, fun d x Φ hkn => ?_⟩
          · rw [slot_put_ne (hne d hd), h1 d hd]
            cases kj with
            | un => rfl
            | det c => rfl
            | fx t Φ => rfl
            | nd d' Φ =>
              obtain ⟨hd', _⟩ := h2 d' Φ rfl
              exact (slot_put_ne (hne d' hd')).symm
            | tp d' x Φ =>
              obtain ⟨hd', _⟩ := h4 d' x Φ rfl
              exact (slot_put_ne (hne d' hd')).symm
          · obtain ⟨hd, hΦ⟩ := h2 d Φ hkn
            subst hkn
            refine ⟨hd, ?_⟩
            rw [slot_put_ne (hne d hd)]
            exact hst'.2.2.2 o _ _ _ (hne d hd) (notdone j oj hoj hlk) hΦ hS' hC'
          · obtain ⟨ht, hΦ⟩ := h3 t Φ hkn
            subst hkn
            refine ⟨ht, ?_⟩
            rw [slot_put_ne (notdone j oj hoj hlk t ht)]
            exact hst'.2.2.2 o _ _ _ hΦ hS' hC'
          · obtain ⟨hd, hΦ⟩ := h4 d x Φ hkn
            subst hkn
            refine ⟨hd, fun hno => ?_⟩
            rw [slot_put_ne (hne d hd)]
            have hnx : o.dst ≠ some x := fun hx => by
              have := hno k o ho hx
              rw [(hset k).2 (.inl rfl)] at this; cases this
            refine hst'.2.2.2 o _ _ _ (hne d hd) hnx (hΦ fun i oi hoi hx => ?_) hS' hC'
            have := hno i oi hoi hx
            cases hb : listed.getD i false with
            | false => rfl
            | true => rw [(hset i).2 (.inr hb)] at this; cases this
    have hfacts : ∀ ts : List Nat, o.looksAt ops = ts → ∀ p ∈ stH [] ks k, p.1 ∈ ts → p.2 (slot a p.1) w := by
      intro ts hts p hp hpt
      rcases stH_mem [] ks k p hp with h1 | ⟨j, hj, hkj⟩
      · cases h1
      · have hjl : j < ops.size := by have := (Array.getElem?_eq_some_iff.1 ho).1; omega
        have hoj := Array.getElem?_eq_getElem hjl
        obtain ⟨kd', hkd', hst'⟩ := hSt.at_ j ops[j] (by rw [Array.getElem?_toList]; exact hoj)
        rw [hkj] at hkd'; cases hkd'
        have hd := hst'.2.2.1
        obtain ⟨e, he, hb, hej⟩ : ∃ e ∈ o.after, Region.binds .any e = true ∧ e.on = j := by
          rcases R.waits k o j _ p.1 ho hoj hd (by rw [hts]; exact hpt) with ⟨_, h⟩ | ⟨h, _⟩
          · exact h
          · omega
        have hl := hr e he hb
        rw [hej] at hl
        exact ((I.wrote j _ _ hoj hkj hl).2.1 p.1 p.2 rfl).2
    have htemp : ∀ ts : List Nat, o.looksAt ops = ts → ∀ p ∈ stT [] ks k, p.1 ∈ ts → o.dst = some p.2.1 → p.2.2 (slot a p.1) w := by
      intro ts hts p hp hpt hpx
      rcases stT_mem [] ks k p hp with h1 | ⟨j, hj, hkj⟩
      · cases h1
      · have hjl : j < ops.size := by have := (Array.getElem?_eq_some_iff.1 ho).1; omega
        have hoj := Array.getElem?_eq_getElem hjl
        obtain ⟨kd', hkd', hst'⟩ := hSt.at_ j ops[j] (by rw [Array.getElem?_toList]; exact hoj)
        rw [hkj] at hkd'; cases hkd'
        have hd := hst'.2.2.1
        obtain ⟨e, he, hb, hej⟩ : ∃ e ∈ o.after, Region.binds .any e = true ∧ e.on = j := by
          rcases R.waits k o j _ p.1 ho hoj hd (by rw [hts]; exact hpt) with ⟨_, h⟩ | ⟨h, _⟩
          · exact h
          · omega
        have hl := hr e he hb
        rw [hej] at hl
        refine ((I.wrote j _ _ hoj hkj hl).2.2.2 p.1 p.2.1 p.2.2 rfl).2 fun i oi hoi hx => ?_
        have : i = k := R.once k o i oi p.2.1 ho hoi hx hpx
        rw [this]; exact h0k
    have hpsi : o.dst = some x0 → Ψ w := fun hx => I.psi fun i oi hoi hx' => by
      have : i = k := R.once k o i oi x0 ho hoi hx' hx
      rw [this]; exact h0k
    unfold wpOp
    simp only [ho]
    cases kd with
    | un =>
      have : Region.wanted o (yielded ops a.tmps) = false := by rw [hwn]; exact hst _
      simp only [this, Bool.false_eq_true, if_false]
      exact ih _ _ _ (next undef w (hS o w) I.cls rfl (fun d Φ h => by cases h) (fun t Φ h => by cases h) (fun d x Φ h => by cases h)) hcount
    | det c =>
      obtain ⟨hw, ts, hts, hg⟩ := hst
      have : Region.wanted o (yielded ops a.tmps) = true := by rw [hwn]; exact hw _
      simp only [this, if_true]
      refine .inl ((hg (slot a) w I.cls (hfacts ts hts) ⟨htemp ts hts, hpsi⟩).wp hev fun v w' ⟨hv, hS', hC'⟩ => ?_)
      exact ih _ _ _ (next v w' hS' hC' hv (fun d Φ h => by cases h) (fun t Φ h => by cases h) (fun d x Φ h => by cases h)) hcount
    | nd d Φ =>
      obtain ⟨hw, ⟨ts, hts, hg⟩, hd, _⟩ := hst
      have : Region.wanted o (yielded ops a.tmps) = true := by rw [hwn]; exact hw _
      simp only [this, if_true]
      refine .inl ((hg (slot a) w I.cls (hfacts ts hts) ⟨htemp ts hts, hpsi⟩).wp hev fun v w' ⟨hv, hS', hC'⟩ => ?_)
      refine ih _ _ _ (next v w' hS' hC' ?_ (fun d' Φ' h => by cases h; exact ⟨hd, hv⟩) (fun t Φ h => by cases h) (fun d x Φ h => by cases h)) hcount
      show v = slot (a.put o.dst v) d
      rw [hd]
      exact (slot_put_same (by rw [I.size, hn]; exact R.inb k o d ho hd)).symm
    | tp d x Φ =>
      obtain ⟨hw, ⟨ts, hts, hg⟩, hd, _⟩ := hst
      have : Region.wanted o (yielded ops a.tmps) = true := by rw [hwn]; exact hw _
      simp only [this, if_true]
      refine .inl ((hg (slot a) w I.cls (hfacts ts hts) ⟨htemp ts hts, hpsi⟩).wp hev fun v w' ⟨hv, hS', hC'⟩ => ?_)
      refine ih _ _ _ (next v w' hS' hC' ?_ (fun d' Φ' h => by cases h) (fun t Φ h => by cases h) (fun d' x' Φ' h => by cases h; exact ⟨hd, hv⟩)) hcount
      show v = slot (a.put o.dst v) d
      rw [hd]
      exact (slot_put_same (by rw [I.size, hn]; exact R.inb k o d ho hd)).symm
    | fx t Φ =>
      obtain ⟨hw, ⟨ts, hts, ht, htd, hg⟩, hd, _⟩ := hst
      have : Region.wanted o (yielded ops a.tmps) = true := by rw [hwn]; exact hw _
      simp only [this, if_true]
      refine .inl ((hg (slot a) w I.cls (hfacts ts hts) ⟨htemp ts hts, hpsi⟩).wp hev fun v w' ⟨hv, hS', hC'⟩ => ?_)
      have e : a.put o.dst v = a := by rw [hd]; rfl
      have e2 : a.put o.dst undef = a := by rw [hd]; rfl
      rw [e]
      have ht' : t ∈ o.looksAt ops := by rw [hts]; exact ht
      have hn := next undef w' hS' hC' rfl (fun d' Φ' h => by cases h) (fun t' Φ' h => by
        cases h
        rw [e2]
        refine ⟨htd, ?_⟩
        rw [hsl t ht']
        exact hv) (fun d x Φ h => by cases h)
      rw [e2] at hn
      exact ih _ _ _ hn hcount

/-- A REGION THAT DRAWS ITS ORDER, WALKED ONCE; Ψ holds till the operation that writes slot x0. -/
theorem wp_walkT {id : Nat} {Q : Exit → Act → World → Prop} {a0 : Act} {w0 : World} (n : Nat) (x0 : Nat) (Ψ : World → Prop) (hm : P.follows .mixedOrders = true) (hB : regB ops n = true) (hn : a0.tmps.size = n) (hS : ∀ o w, S o w w) (hC : C w0.drew)
    (hPsi : ∀ (o' : Oper) w w', o'.dst ≠ some x0 → Ψ w → S o' w w' → C w' → Ψ w') (h0 : Ψ w0.drew)
    (h : WalkR P ops C S x0 Ψ (Q .normal) ops.toList (fun _ => a0) [] [] []) : (Code.region id ops true).wp P Q a0 w0 := by
  obtain ⟨ks, hSt⟩ := h
  refine wp_region_any hm (walk_sound (regB_ok hB) hn hS hPsi hSt ops.size (Array.replicate ops.size false) a0 _ ?_ ?_)
  · exact ⟨by simp, rfl, rfl, hC, fun _ => h0, fun j o ho hl => by simp [Array.getElem?_replicate] at hl; split at hl <;> simp at hl, fun _ _ => rfl, fun j o kd ho hk hl => by simp [Array.getElem?_replicate] at hl; split at hl <;> simp at hl⟩
  · simp [List.countP_replicate]

theorem wp_walk {id : Nat} {Q : Exit → Act → World → Prop} {a0 : Act} {w0 : World} (n : Nat) (hm : P.follows .mixedOrders = true) (hB : regB ops n = true) (hn : a0.tmps.size = n) (hS : ∀ o w, S o w w) (hC : C w0.drew)
    (h : WalkR P ops C S 0 (fun _ => True) (Q .normal) ops.toList (fun _ => a0) [] [] []) : (Code.region id ops true).wp P Q a0 w0 :=
  wp_walkT n 0 (fun _ => True) hm hB hn hS hC (fun _ _ _ _ _ _ _ => trivial) trivial h

/-! ### The moves -/
variable {fs : List (Nat × Fact)} {us : List (Nat × Nat × Fact)}
theorem WalkR.nil {A : (Nat → Value) → Act} {hs : List (Nat × Fact)} (h : ∀ ρ w, C w → (∀ p ∈ hs, p.2 (ρ p.1) w) → (∀ p ∈ fs, p.2 (slot (A ρ) p.1) w) → QN (A ρ) w) : WalkR P ops C S x0 Ψ QN [] A hs us fs := ⟨[], h⟩
theorem WalkR.un {o : Oper} {l : List Oper} {A : (Nat → Value) → Act} {hs : List (Nat × Fact)} (hw : ∀ ρ, Region.wanted o (yielded ops (A ρ).tmps) = false) (h : WalkR P ops C S x0 Ψ QN l (fun ρ => (A ρ).put o.dst undef) hs us fs) : WalkR P ops C S x0 Ψ QN (o :: l) A hs us fs :=
  h.elim fun ks hk => ⟨.un :: ks, hw, hk⟩
theorem WalkR.det {o : Oper} {l : List Oper} {A : (Nat → Value) → Act} {hs : List (Nat × Fact)} {c : Value} {ts : List Nat} (hw : ∀ ρ, Region.wanted o (yielded ops (A ρ).tmps) = true) (hts : o.looksAt ops = ts)
    (hg : ∀ ρ w, C w → (∀ p ∈ hs, p.1 ∈ ts → p.2 (ρ p.1) w) → ((∀ p ∈ us, p.1 ∈ ts → o.dst = some p.2.1 → p.2.2 (ρ p.1) w) ∧ (o.dst = some x0 → Ψ w)) → gives P o (A ρ) w (fun v w' => v = c ∧ S o w w' ∧ C w')) (h : WalkR P ops C S x0 Ψ QN l (fun ρ => (A ρ).put o.dst c) hs us fs) : WalkR P ops C S x0 Ψ QN (o :: l) A hs us fs :=
  h.elim fun ks hk => ⟨.det c :: ks, ⟨hw, ts, hts, hg⟩, hk⟩
theorem WalkR.nd {o : Oper} {l : List Oper} {A : (Nat → Value) → Act} {hs : List (Nat × Fact)} {d : Nat} (Φ : Fact) {ts : List Nat} (hw : ∀ ρ, Region.wanted o (yielded ops (A ρ).tmps) = true) (hts : o.looksAt ops = ts) (hd : o.dst = some d) (hst : ∀ (o' : Oper) v w w', o'.dst ≠ some d → (∀ u ∈ depsOf ops o, o'.dst ≠ some u) → Φ v w → S o' w w' → C w' → Φ v w')
    (hg : ∀ ρ w, C w → (∀ p ∈ hs, p.1 ∈ ts → p.2 (ρ p.1) w) → ((∀ p ∈ us, p.1 ∈ ts → o.dst = some p.2.1 → p.2.2 (ρ p.1) w) ∧ (o.dst = some x0 → Ψ w)) → gives P o (A ρ) w (fun v w' => Φ v w' ∧ S o w w' ∧ C w')) (h : WalkR P ops C S x0 Ψ QN l (fun ρ => (A ρ).put o.dst (ρ d)) ((d, Φ) :: hs) us fs) : WalkR P ops C S x0 Ψ QN (o :: l) A hs us fs :=
  h.elim fun ks hk => ⟨.nd d Φ :: ks, ⟨hw, ⟨ts, hts, hg⟩, hd, hst⟩, hk⟩
theorem WalkR.tp {o : Oper} {l : List Oper} {A : (Nat → Value) → Act} {hs : List (Nat × Fact)} {d : Nat} (x : Nat) (Φ : Fact) {ts : List Nat} (hw : ∀ ρ, Region.wanted o (yielded ops (A ρ).tmps) = true) (hts : o.looksAt ops = ts) (hd : o.dst = some d) (hst : ∀ (o' : Oper) v w w', o'.dst ≠ some d → o'.dst ≠ some x → Φ v w → S o' w w' → C w' → Φ v w')
    (hg : ∀ ρ w, C w → (∀ p ∈ hs, p.1 ∈ ts → p.2 (ρ p.1) w) → ((∀ p ∈ us, p.1 ∈ ts → o.dst = some p.2.1 → p.2.2 (ρ p.1) w) ∧ (o.dst = some x0 → Ψ w)) → gives P o (A ρ) w (fun v w' => Φ v w' ∧ S o w w' ∧ C w')) (h : WalkR P ops C S x0 Ψ QN l (fun ρ => (A ρ).put o.dst (ρ d)) hs ((d, x, Φ) :: us) fs) : WalkR P ops C S x0 Ψ QN (o :: l) A hs us fs :=
  h.elim fun ks hk => ⟨.tp d x Φ :: ks, ⟨hw, ⟨ts, hts, hg⟩, hd, hst⟩, hk⟩
theorem WalkR.fx {o : Oper} {l : List Oper} {A : (Nat → Value) → Act} {hs : List (Nat × Fact)} (t : Nat) (Φ : Fact) {ts : List Nat} (hw : ∀ ρ, Region.wanted o (yielded ops (A ρ).tmps) = true) (hts : o.looksAt ops = ts) (ht : t ∈ ts) (htd : t ∈ depsOf ops o) (hd : o.dst = none) (hst : ∀ (o' : Oper) v w w', Φ v w → S o' w w' → C w' → Φ v w')
    (hg : ∀ ρ w, C w → (∀ p ∈ hs, p.1 ∈ ts → p.2 (ρ p.1) w) → ((∀ p ∈ us, p.1 ∈ ts → o.dst = some p.2.1 → p.2.2 (ρ p.1) w) ∧ (o.dst = some x0 → Ψ w)) → gives P o (A ρ) w (fun _ w' => Φ (slot (A ρ) t) w' ∧ S o w w' ∧ C w')) (h : WalkR P ops C S x0 Ψ QN l A hs us ((t, Φ) :: fs)) : WalkR P ops C S x0 Ψ QN (o :: l) A hs us fs :=
  h.elim fun ks hk => ⟨.fx t Φ :: ks, ⟨hw, ⟨ts, hts, ht, htd, hg⟩, hd, hst⟩, by rw [show nextA A o (.fx t Φ) = A from funext fun ρ => by simp [nextA, hd, Act.put]]; exact hk⟩

end

end R2
end Go.Proofs.Ytjjipkgconmfcaa

namespace Go.Proofs.Ytjjipkgconmfcaa
namespace R3
open R2

/-- Whether operation i waits for the one that writes slot d, in so many steps. -/
def needsD (ops : Array Oper) : Nat → Nat → Nat → Bool
  | 0, _, _ => false
  | f + 1, i, d =>
    match ops[i]? with
    | none => false
    | some o => o.after.any fun e => Region.binds .any e && ((match ops[e.on]? with | some oe => oe.dst == some d | none => false) || needsD ops f e.on d)

/-- Each operation that writes x0 is the one that writes slot d, or waits for it. -/
def aheadB (ops : Array Oper) (x0 : Option Nat) (d : Nat) : Bool :=
  (List.range ops.size).all fun i =>
    match ops[i]? with
    | none => true
    | some oi => oi.dst != x0 || oi.dst == some d || needsD ops ops.size i d

theorem aheadB_ok {ops : Array Oper} {x0 : Option Nat} {d i : Nat} {oi : Oper} (h : aheadB ops x0 d = true) (hi : ops[i]? = some oi) (hx : oi.dst = x0) : oi.dst = some d ∨ needsD ops ops.size i d = true := by
  simp only [aheadB, List.all_eq_true, List.mem_range] at h
  have := h i (Array.getElem?_eq_some_iff.1 hi).1
  simp only [hi, Bool.or_eq_true, bne_iff_ne, ne_eq, beq_iff_eq] at this
  rcases this with (h1 | h1) | h1
  · exact absurd hx h1
  · exact .inl h1
  · exact .inr h1

theorem needsD_ok {ops : Array Oper} {listed : Array Bool} (hc : ∀ (j : Nat) (o : Oper), ops[j]? = some o → listed.getD j false = true → ∀ e ∈ o.after, Region.binds .any e = true → listed.getD e.on false = true) :
    ∀ (f i d : Nat), listed.getD i false = true → needsD ops f i d = true → ∃ j oj, ops[j]? = some oj ∧ oj.dst = some d ∧ listed.getD j false = true
  | 0, _, _, _, h => by simp [needsD] at h
  | f + 1, i, d, hl, h => by
    unfold needsD at h
    split at h
    · cases h
    · rename_i o ho
      obtain ⟨e, he, hb⟩ := Array.any_eq_true'.1 h
      simp only [Bool.and_eq_true, Bool.or_eq_true] at hb
      have hle := hc i o ho hl e he hb.1
      rcases hb.2 with h1 | h1
      · split at h1
        · rename_i oe hoe
          exact ⟨e.on, oe, hoe, by simpa using h1, hle⟩
        · cases h1
      · exact needsD_ok hc f e.on d hle h1

section
variable (P : Program) (ops : Array Oper) (C : World → Prop) (S : Oper → World → World → Prop) (x0 : Option Nat) (Ψ : World → Prop) (QN : Act → World → Prop)

/-- What is owed for one operation. -/
def StepOk (o : Oper) (kd : R2.Kd) (A : (Nat → Value) → Act) (hs : List (Nat × Fact)) (us : List (Nat × Nat × Fact)) : Prop :=
  match kd with
  | .un => ∀ ρ, Region.wanted o (yielded ops (A ρ).tmps) = false
  | .det c => (∀ ρ, Region.wanted o (yielded ops (A ρ).tmps) = true) ∧ ∃ ts : List Nat, o.looksAt ops = ts ∧
      ∀ ρ w, C w → (∀ p ∈ hs, p.1 ∈ ts → p.2 (ρ p.1) w) → ((∀ p ∈ us, p.1 ∈ ts → o.dst = some p.2.1 → p.2.2 (ρ p.1) w) ∧ ((∃ d, o.dst = some d ∧ aheadB ops x0 d = true) → Ψ w)) → gives P o (A ρ) w (fun v w' => v = c ∧ S o w w' ∧ C w')
  | .nd d Φ => (∀ ρ, Region.wanted o (yielded ops (A ρ).tmps) = true) ∧ (∃ ts : List Nat, o.looksAt ops = ts ∧
      ∀ ρ w, C w → (∀ p ∈ hs, p.1 ∈ ts → p.2 (ρ p.1) w) → ((∀ p ∈ us, p.1 ∈ ts → o.dst = some p.2.1 → p.2.2 (ρ p.1) w) ∧ ((∃ d, o.dst = some d ∧ aheadB ops x0 d = true) → Ψ w)) → gives P o (A ρ) w (fun v w' => Φ v w' ∧ S o w w' ∧ C w')) ∧ o.dst = some d ∧ (∀ (o' : Oper) v w w', o'.dst ≠ some d → (∀ u ∈ R2.depsOf ops o, o'.dst ≠ some u) → Φ v w → S o' w w' → C w' → Φ v w')
  | .fx t Φ => (∀ ρ, Region.wanted o (yielded ops (A ρ).tmps) = true) ∧ (∃ ts : List Nat, o.looksAt ops = ts ∧ t ∈ ts ∧ t ∈ R2.depsOf ops o ∧
      ∀ ρ w, C w → (∀ p ∈ hs, p.1 ∈ ts → p.2 (ρ p.1) w) → ((∀ p ∈ us, p.1 ∈ ts → o.dst = some p.2.1 → p.2.2 (ρ p.1) w) ∧ ((∃ d, o.dst = some d ∧ aheadB ops x0 d = true) → Ψ w)) → gives P o (A ρ) w (fun _ w' => Φ (slot (A ρ) t) w' ∧ S o w w' ∧ C w')) ∧ o.dst = none ∧ (∀ (o' : Oper) v w w', Φ v w → S o' w w' → C w' → Φ v w')
  | .tp d x Φ => (∀ ρ, Region.wanted o (yielded ops (A ρ).tmps) = true) ∧ (∃ ts : List Nat, o.looksAt ops = ts ∧
      ∀ ρ w, C w → (∀ p ∈ hs, p.1 ∈ ts → p.2 (ρ p.1) w) → ((∀ p ∈ us, p.1 ∈ ts → o.dst = some p.2.1 → p.2.2 (ρ p.1) w) ∧ ((∃ d, o.dst = some d ∧ aheadB ops x0 d = true) → Ψ w)) → gives P o (A ρ) w (fun v w' => Φ v w' ∧ S o w w' ∧ C w')) ∧ o.dst = some d ∧ (∀ (o' : Oper) v w w', o'.dst ≠ some d → o'.dst ≠ some x → Φ v w → S o' w w' → C w' → Φ v w')

/-- The walk in the text's order. -/
def Steps : List Oper → List R2.Kd → ((Nat → Value) → Act) → List (Nat × Fact) → List (Nat × Nat × Fact) → List (Nat × Fact) → Prop
  | [], [], A, hs, _, fs => ∀ ρ w, C w → (∀ p ∈ hs, p.2 (ρ p.1) w) → (∀ p ∈ fs, p.2 (slot (A ρ) p.1) w) → QN (A ρ) w
  | o :: l, kd :: ks, A, hs, us, fs => StepOk P ops C S x0 Ψ o kd A hs us ∧ Steps l ks (R2.nextA A o kd) (R2.nextH hs kd) (R2.nextT us kd) (R2.nextF fs kd)
  | _, _, _, _, _, _ => False

/-- .. without its list: what a proof goes through. -/
def WalkR (l : List Oper) (A : (Nat → Value) → Act) (hs : List (Nat × Fact)) (us : List (Nat × Nat × Fact)) (fs : List (Nat × Fact)) : Prop := ∃ ks, Steps P ops C S x0 Ψ QN l ks A hs us fs

variable {P ops C S x0 Ψ QN}

theorem Steps.at_ : ∀ {l : List Oper} {ks : List R2.Kd} {A : (Nat → Value) → Act} {hs : List (Nat × Fact)} {us : List (Nat × Nat × Fact)} {fs : List (Nat × Fact)}, Steps P ops C S x0 Ψ QN l ks A hs us fs → ∀ i o, l[i]? = some o → ∃ kd, ks[i]? = some kd ∧ StepOk P ops C S x0 Ψ o kd (R2.stA A l ks i) (R2.stH hs ks i) (R2.stT us ks i)
  | o :: l, kd :: ks, A, hs, us, fs, h, 0, o', ho => by
    simp at ho; subst ho
    exact ⟨kd, rfl, h.1⟩
  | o :: l, kd :: ks, A, hs, us, fs, h, i + 1, o', ho => Steps.at_ h.2 i o' (by simpa using ho)
  | [], _, _, _, _, _, _, _, _, ho => by simp at ho
  | _ :: _, [], _, _, _, _, h, _, _, _ => h.elim

theorem Steps.end_ : ∀ {l : List Oper} {ks : List R2.Kd} {A : (Nat → Value) → Act} {hs : List (Nat × Fact)} {us : List (Nat × Nat × Fact)} {fs : List (Nat × Fact)}, Steps P ops C S x0 Ψ QN l ks A hs us fs →
    ks.length = l.length ∧ ∀ ρ w, C w → (∀ p ∈ R2.stH hs ks l.length, p.2 (ρ p.1) w) → (∀ p ∈ R2.stF fs ks l.length, p.2 (slot (R2.stA A l ks l.length ρ) p.1) w) → QN (R2.stA A l ks l.length ρ) w
  | [], [], A, hs, us, fs, h => ⟨rfl, h⟩
  | o :: l, kd :: ks, A, hs, us, fs, h => by
    obtain ⟨h1, h2⟩ := Steps.end_ h.2
    exact ⟨by simp [h1], h2⟩
  | [], _ :: _, _, _, _, _, h => h.elim
  | _ :: _, [], _, _, _, _, h => h.elim

/-- What holds on the way: of the operations that have come up. -/
structure InvR (C : World → Prop) (x0 : Option Nat) (Ψ : World → Prop) (ks : List R2.Kd) (ops : Array Oper) (a0 : Act) (listed : Array Bool) (a : Act) (w : World) : Prop where
  len : listed.size = ops.size
  size : a.tmps.size = a0.tmps.size
  defers : a.defers = a0.defers
  cls : C w
  psi : (∀ (i : Nat) (oi : Oper), ops[i]? = some oi → oi.dst = x0 → listed.getD i false = false) → Ψ w
  closed : ∀ (j : Nat) (o : Oper), ops[j]? = some o → listed.getD j false = true → ∀ e ∈ o.after, Region.binds .any e = true → listed.getD e.on false = true
  other : ∀ t, (∀ (j : Nat) (o : Oper), ops[j]? = some o → listed.getD j false = true → o.dst ≠ some t) → slot a t = slot a0 t
  wrote : ∀ (j : Nat) (o : Oper) (kd : R2.Kd), ops[j]? = some o → ks[j]? = some kd → listed.getD j false = true →
    (∀ d, o.dst = some d → slot a d = R2.ent kd (slot a)) ∧ (∀ d Φ, kd = .nd d Φ → o.dst = some d ∧ Φ (slot a d) w) ∧ (∀ t Φ, kd = .fx t Φ → t ∈ R2.depsOf ops o ∧ Φ (slot a t) w) ∧
    (∀ d x Φ, kd = .tp d x Φ → o.dst = some d ∧ ((∀ (i : Nat) (oi : Oper), ops[i]? = some oi → oi.dst = some x → listed.getD i false = false) → Φ (slot a d) w))

theorem slot_at {n : Nat} {a0 : Act} {listed : Array Bool} {a : Act} {w : World} {ks : List R2.Kd} (R : R2.RegOk n ops) (hn : a0.tmps.size = n) (hk : ks.length = ops.size) (I : InvR C x0 Ψ ks ops a0 listed a w) {k : Nat} {o : Oper} (ho : ops[k]? = some o)
    (hr : ∀ e ∈ o.after, Region.binds .any e = true → listed.getD e.on false = true) (h0 : listed.getD k false = false) {t : Nat} (ht : t ∈ o.looksAt ops) :
    slot a t = slot (R2.stA (fun _ => a0) ops.toList ks k (slot a)) t := by
  by_cases hw : ∃ (j : Nat) (oj : Oper), ops[j]? = some oj ∧ oj.dst = some t
  · obtain ⟨j, oj, hoj, hd⟩ := hw
    rcases R.waits k o j oj t ho hoj hd ht with ⟨hjk, e, he, hb, rfl⟩ | ⟨hjk, e, he, hb, hek⟩
    · have hl := hr e he hb
      have hjs : e.on < ks.length := by rw [hk]; exact (Array.getElem?_eq_some_iff.1 hoj).1
      have hkd : ks[e.on]? = some ks[e.on] := List.getElem?_eq_getElem hjs
      rw [R2.stA_wrote (fun _ => a0) ops.toList ks k (slot a) t e.on oj _ hjk (by simpa using hoj) hkd hd (by rw [hn]; exact R.inb _ _ _ hoj hd)
        (fun j' o' h1 h2 h3 h4 => by
          have := R.once e.on oj j' o' t hoj (by simpa using h3) h4 hd
          omega)]
      exact (I.wrote e.on oj _ hoj hkd hl).1 t hd
    · rw [R2.stA_other (fun _ => a0) ops.toList ks k (slot a) t (fun j' oj' hj' hoj' hd' => by
        have := R.once j oj j' oj' t hoj (by simpa using hoj') hd' hd
        omega)]
      refine I.other t (fun j' oj' hoj' hl hd' => ?_)
      have hjj := R.once j oj j' oj' t hoj hoj' hd' hd
      subst hjj
      have := I.closed j' oj hoj hl e he hb
      rw [hek, h0] at this; cases this
  · rw [R2.stA_other (fun _ => a0) ops.toList ks k (slot a) t (fun j oj _ hoj hd => hw ⟨j, oj, by simpa using hoj, hd⟩)]
    exact I.other t (fun j oj hoj _ hd => hw ⟨j, oj, hoj, hd⟩)

theorem walk_sound {n : Nat} {a0 : Act} {ks : List R2.Kd} {Q : Exit → Act → World → Prop} (R : R2.RegOk n ops) (hn : a0.tmps.size = n) (hS : ∀ o w, S o w w) (hPsi : ∀ (o' : Oper) w w', o'.dst ≠ x0 → Ψ w → S o' w w' → C w' → Ψ w') (hSt : Steps P ops C S x0 Ψ (Q .normal) ops.toList ks (fun _ => a0) [] [] []) :
    ∀ (fuel : Nat) (listed : Array Bool) (a : Act) (w : World), InvR C x0 Ψ ks ops a0 listed a w → listed.toList.countP (fun b => !b) ≤ fuel → wpAny P .any ops Q fuel listed a w := by
  obtain ⟨hk, hend⟩ := hSt.end_
  simp only [Array.length_toList] at hk hend
  -- all have come up: the state is the walk's last one
  have fin : ∀ (listed : Array Bool) (a : Act) (w : World), InvR C x0 Ψ ks ops a0 listed a w → Region.ready .any ops listed = [] → Q .normal a w := by
    intro listed a w I hr
    have hall : ∀ k, k < ops.size → listed.getD k false = true := by
      intro k
      induction k using Nat.strongRecOn with
      | _ k ih =>
        intro hlt
        have hks : k < listed.size := by rw [I.len]; exact hlt
        cases hb : listed.getD k false with
        | true => rfl
        | false =>
          exfalso
          have hk2 : k ∈ Region.ready .any ops listed := by
            refine mem_ready.2 ⟨by simpa [hks] using hb, ops[k], Array.getElem?_eq_getElem hlt, fun e he hbi => ?_⟩
            have hlt2 := R.back k _ (Array.getElem?_eq_getElem hlt) e he hbi
            exact ih e.on hlt2 (by omega)
          rw [hr] at hk2; cases hk2
    have ha : a = R2.stA (fun _ => a0) ops.toList ks ops.size (slot a) := by
      have hsz := R2.stA_size (fun _ => a0) ops.toList ks ops.size (slot a)
      have hslot : ∀ t, slot a t = slot (R2.stA (fun _ => a0) ops.toList ks ops.size (slot a)) t := by
        intro t
        by_cases hw : ∃ (j : Nat) (oj : Oper), ops[j]? = some oj ∧ oj.dst = some t
        · obtain ⟨j, oj, hoj, hd⟩ := hw
          have hj := (Array.getElem?_eq_some_iff.1 hoj).1
          have hkd : ks[j]? = some ks[j] := List.getElem?_eq_getElem (by omega)
          rw [R2.stA_wrote (fun _ => a0) ops.toList ks ops.size (slot a) t j oj _ hj (by simpa using hoj) hkd hd (by rw [hn]; exact R.inb _ _ _ hoj hd)
            (fun j' o' h1 h2 h3 h4 => by
              have := R.once j oj j' o' t hoj (by simpa using h3) h4 hd
              omega)]
          exact (I.wrote j oj _ hoj hkd (hall j hj)).1 t hd
        · rw [R2.stA_other (fun _ => a0) ops.toList ks ops.size (slot a) t (fun j oj _ hoj hd => hw ⟨j, oj, by simpa using hoj, hd⟩)]
          exact I.other t (fun j oj hoj _ hd => hw ⟨j, oj, hoj, hd⟩)
      obtain ⟨h1, h2⟩ := hsz
      have hd := I.defers
      have hs := I.size
      generalize R2.stA (fun _ => a0) ops.toList ks ops.size (slot a) = b at *
      obtain ⟨ta, da⟩ := a
      obtain ⟨tb, db⟩ := b
      simp only [Act.mk.injEq] at *
      refine ⟨?_, by rw [hd, h2]⟩
      apply Array.ext
      · omega
      · intro i hi1 hi2
        have := hslot i
        simp only [slot] at this
        simpa [hi1, hi2] using this
    rw [ha]
    refine hend _ w I.cls (fun p hp => ?_) (fun p hp => ?_)
    · rcases R2.stH_mem [] ks ops.size p hp with h1 | ⟨j, hj, hkd⟩
      · cases h1
      · exact ((I.wrote j _ _ (Array.getElem?_eq_getElem hj) hkd (hall j hj)).2.1 p.1 p.2 rfl).2
    · rcases R2.stF_mem [] ks ops.size p hp with h1 | ⟨j, hj, hkd⟩
      · cases h1
      · rw [← ha]
        exact ((I.wrote j _ _ (Array.getElem?_eq_getElem hj) hkd (hall j hj)).2.2.1 p.1 p.2 rfl).2
  intro fuel
  induction fuel with
  | zero =>
    intro listed a w I hc
    have hr : Region.ready .any ops listed = [] := by
      rw [List.eq_nil_iff_forall_not_mem]
      intro k hk2
      obtain ⟨h0, o, ho, _⟩ := mem_ready.1 hk2
      have hks : k < listed.size := by rw [I.len]; exact (Array.getElem?_eq_some_iff.1 ho).1
      have hm : listed[k] ∈ listed.toList := by simp
      have := List.countP_eq_zero.1 (by omega : listed.toList.countP (fun b => !b) = 0) _ hm
      simp [hks] at h0
      simp [h0] at this
    exact ⟨hr, fin listed a w I hr⟩
  | succ fuel ih =>
    intro listed a w I hc
    refine ⟨fin listed a w I, fun k hk2 => ?_⟩
    obtain ⟨h0, o, ho, hr⟩ := mem_ready.1 hk2
    have hks : k < listed.size := by rw [I.len]; exact (Array.getElem?_eq_some_iff.1 ho).1
    obtain ⟨kd, hkd, hst⟩ := hSt.at_ k o (by simpa using ho)
    have h0k : listed.getD k false = false := by
      simp only [Array.getD_eq_getD_getElem?, Array.getElem?_eq_getElem hks, Option.getD_some] at h0 ⊢; exact h0
    have hsl : ∀ t, t ∈ o.looksAt ops → slot a t = slot (R2.stA (fun _ => a0) ops.toList ks k (slot a)) t := fun t ht => slot_at R hn hk I ho hr h0k ht
    have hsz := R2.stA_size (fun _ => a0) ops.toList ks k (slot a)
    have hev : execOp a.eval o = execOp (R2.stA (fun _ => a0) ops.toList ks k (slot a)).eval o :=
      execOp_congr o (R.sel k o ho) fun x hx => by
        cases x with
        | tmp t => exact hsl t (List.mem_append_left _ (List.mem_filterMap.2 ⟨.tmp t, by simpa using hx, rfl⟩))
        | _ => rfl
    have hwn : Region.wanted o (yielded ops a.tmps) = Region.wanted o (yielded ops (R2.stA (fun _ => a0) ops.toList ks k (slot a)).tmps) := by
      unfold Region.wanted
      cases hg : o.guard with
      | none => rfl
      | some gw =>
        obtain ⟨g, want⟩ := gw
        have : yielded ops a.tmps g = yielded ops (R2.stA (fun _ => a0) ops.toList ks k (slot a)).tmps g := by
          unfold yielded
          cases ht : (ops[g]?).bind (·.dst) with
          | none => rfl
          | some t =>
            have hm : t ∈ o.looksAt ops := by simp [Oper.looksAt, hg, ht]
            have hs := hsl t hm
            have hsz' := I.size
            have e1 : a.tmps.size = (R2.stA (fun _ => a0) ops.toList ks k (slot a)).tmps.size := by rw [hsz.1, hsz']
            simp only [slot] at hs
            have : a.tmps[t]? = (R2.stA (fun _ => a0) ops.toList ks k (slot a)).tmps[t]? := by
              rcases Nat.lt_or_ge t a.tmps.size with h | h
              · have h2 : t < (R2.stA (fun _ => a0) ops.toList ks k (slot a)).tmps.size := by rw [← e1]; exact h
                simpa [h, h2] using hs
              · rw [Array.getElem?_eq_none h, Array.getElem?_eq_none (by omega)]
            simp [this]
        simp only [this]
    have hcount : (listed.setIfInBounds k true).toList.countP (fun b => !b) ≤ fuel := by
      have hf : listed.toList[k]? = some false := by simp [hks] at h0; simp [hks, h0]
      have := countP_set hf
      rw [Array.toList_setIfInBounds]
      omega
    have hset : ∀ j, (listed.setIfInBounds k true).getD j false = true ↔ j = k ∨ listed.getD j false = true := by
      intro j
      by_cases hjk : j = k
      · subst hjk; simp [hks]
      · rw [getD_set_ne false (Ne.symm hjk)]; simp [hjk]
    -- an operation that is done waits for nothing that is not
    have notdone : ∀ (j : Nat) (oj : Oper), ops[j]? = some oj → listed.getD j false = true → ∀ u ∈ R2.depsOf ops oj, o.dst ≠ some u := by
      intro j oj hoj hlj u hu hd'
      obtain ⟨e, he, hb, od, hod, hdu⟩ := R2.mem_deps.1 hu
      have hek := R.once k o e.on od u ho hod hdu hd'
      have := I.closed j oj hoj hlj e he hb
      rw [hek, h0k] at this; cases this
    -- the state behind the operation
    have next : ∀ v w', S o w w' → C w' → v = R2.ent kd (slot (a.put o.dst v)) → (∀ d Φ, kd = .nd d Φ → o.dst = some d ∧ Φ v w') → (∀ t Φ, kd = .fx t Φ → t ∈ R2.depsOf ops o ∧ Φ (slot (a.put o.dst v) t) w') → (∀ d x Φ, kd = .tp d x Φ → o.dst = some d ∧ Φ v w') →
        InvR C x0 Ψ ks ops a0 (listed.setIfInBounds k true) (a.put o.dst v) w' := by
      intro v w' hS' hC' hv hnd hfx htp
      have hin : ∀ d, o.dst = some d → d < a.tmps.size := fun d hd => by rw [I.size, hn]; exact R.inb k o d ho hd
      refine ⟨by simp [I.len], by rw [size_put, I.size], by rw [defers_put, I.defers], hC', fun hno => ?_, fun j oj hoj hlj e he hb => ?_, fun t ht => ?_, fun j oj kj hoj hkj hlj => ?_⟩
      · have hnx : o.dst ≠ x0 := fun hx => by
          have := hno k o ho hx
          rw [(hset k).2 (.inl rfl)] at this; cases this
        refine hPsi o _ _ hnx (I.psi fun i oi hoi hx => ?_) hS' hC'
        have := hno i oi hoi hx
        cases hb : listed.getD i false with
        | false => rfl
        | true => rw [(hset i).2 (.inr hb)] at this; cases this
      · rcases (hset j).1 hlj with rfl | hlk
        · rw [ho] at hoj; cases hoj
          exact (hset _).2 (.inr (hr e he hb))
        · exact (hset _).2 (.inr (I.closed j oj hoj hlk e he hb))
      · rw [slot_put_ne (ht k o ho ((hset k).2 (.inl rfl)))]
        exact I.other t (fun j oj hoj hlj => ht j oj hoj ((hset j).2 (.inr hlj)))
      · rcases (hset j).1 hlj with rfl | hlk
        · rw [ho] at hoj; cases hoj
          rw [hkd] at hkj; cases hkj
          refine ⟨fun d hd => ?_, fun d Φ hkn => ?_, hfx, fun d x Φ hkn => ?_⟩
          · have : slot (a.put o.dst v) d = v := by rw [hd]; exact slot_put_same (hin d hd)
            rw [this]; exact hv
          · obtain ⟨hd, hΦ⟩ := hnd d Φ hkn
            refine ⟨hd, ?_⟩
            have : slot (a.put o.dst v) d = v := by rw [hd]; exact slot_put_same (hin d hd)
            rw [this]; exact hΦ
          · obtain ⟨hd, hΦ⟩ := htp d x Φ hkn
            refine ⟨hd, fun _ => ?_⟩
            have : slot (a.put o.dst v) d = v := by rw [hd]; exact slot_put_same (hin d hd)
            rw [this]; exact hΦ
        · have hjk : j ≠ k := fun e => by rw [e, h0k] at hlk; cases hlk
          obtain ⟨h1, h2, h3, h4⟩ := I.wrote j oj kj hoj hkj hlk
          have hne : ∀ d, oj.dst = some d → o.dst ≠ some d := fun d hd hd' => hjk (R.once k o j oj d ho hoj hd hd')
          obtain ⟨kd', hkd', hst'⟩ := hSt.at_ j oj (by simpa using hoj)
          rw [hkj] at hkd'; cases hkd'
          refine ⟨fun d hd => ?_, fun d Φ hkn => ?_, fun t Φ hkn => ?_, fun d x Φ hkn => ?_⟩
          · rw [slot_put_ne (hne d hd), h1 d hd]
            cases kj with
            | un => rfl
            | det c => rfl
            | fx t Φ => rfl
            | nd d' Φ =>
              obtain ⟨hd', _⟩ := h2 d' Φ rfl
              exact (slot_put_ne (hne d' hd')).symm
            | tp d' x Φ =>
              obtain ⟨hd', _⟩ := h4 d' x Φ rfl
              exact (slot_put_ne (hne d' hd')).symm
          · obtain ⟨hd, hΦ⟩ := h2 d Φ hkn
            subst hkn
            refine ⟨hd, ?_⟩
            rw [slot_put_ne (hne d hd)]
            exact hst'.2.2.2 o _ _ _ (hne d hd) (notdone j oj hoj hlk) hΦ hS' hC'
          · obtain ⟨ht, hΦ⟩ := h3 t Φ hkn
            subst hkn
            refine ⟨ht, ?_⟩
            rw [slot_put_ne (notdone j oj hoj hlk t ht)]
            exact hst'.2.2.2 o _ _ _ hΦ hS' hC'
          · obtain ⟨hd, hΦ⟩ := h4 d x Φ hkn
            subst hkn
            refine ⟨hd, fun hno => ?_⟩
            rw [slot_put_ne (hne d hd)]
            have hnx : o.dst ≠ some x := fun hx => by
              have := hno k o ho hx
              rw [(hset k).2 (.inl rfl)] at this; cases this
            refine hst'.2.2.2 o _ _ _ (hne d hd) hnx (hΦ fun i oi hoi hx => ?_) hS' hC'
            have := hno i oi hoi hx
            cases hb : listed.getD i false with
            | false => rfl
            | true => rw [(hset i).2 (.inr hb)] at this; cases this
    have hfacts : ∀ ts : List Nat, o.looksAt ops = ts → ∀ p ∈ R2.stH [] ks k, p.1 ∈ ts → p.2 (slot a p.1) w := by
      intro ts hts p hp hpt
      rcases R2.stH_mem [] ks k p hp with h1 | ⟨j, hj, hkj⟩
      · cases h1
      · have hjl : j < ops.size := by have := (Array.getElem?_eq_some_iff.1 ho).1; omega
        have hoj := Array.getElem?_eq_getElem hjl
        obtain ⟨kd', hkd', hst'⟩ := hSt.at_ j ops[j] (by rw [Array.getElem?_toList]; exact hoj)
        rw [hkj] at hkd'; cases hkd'
        have hd := hst'.2.2.1
        obtain ⟨e, he, hb, hej⟩ : ∃ e ∈ o.after, Region.binds .any e = true ∧ e.on = j := by
          rcases R.waits k o j _ p.1 ho hoj hd (by rw [hts]; exact hpt) with ⟨_, h⟩ | ⟨h, _⟩
          · exact h
          · omega
        have hl := hr e he hb
        rw [hej] at hl
        exact ((I.wrote j _ _ hoj hkj hl).2.1 p.1 p.2 rfl).2
    have htemp : ∀ ts : List Nat, o.looksAt ops = ts → ∀ p ∈ R2.stT [] ks k, p.1 ∈ ts → o.dst = some p.2.1 → p.2.2 (slot a p.1) w := by
      intro ts hts p hp hpt hpx
      rcases R2.stT_mem [] ks k p hp with h1 | ⟨j, hj, hkj⟩
      · cases h1
      · have hjl : j < ops.size := by have := (Array.getElem?_eq_some_iff.1 ho).1; omega
        have hoj := Array.getElem?_eq_getElem hjl
        obtain ⟨kd', hkd', hst'⟩ := hSt.at_ j ops[j] (by rw [Array.getElem?_toList]; exact hoj)
        rw [hkj] at hkd'; cases hkd'
        have hd := hst'.2.2.1
        obtain ⟨e, he, hb, hej⟩ : ∃ e ∈ o.after, Region.binds .any e = true ∧ e.on = j := by
          rcases R.waits k o j _ p.1 ho hoj hd (by rw [hts]; exact hpt) with ⟨_, h⟩ | ⟨h, _⟩
          · exact h
          · omega
        have hl := hr e he hb
        rw [hej] at hl
        refine ((I.wrote j _ _ hoj hkj hl).2.2.2 p.1 p.2.1 p.2.2 rfl).2 fun i oi hoi hx => ?_
        have : i = k := R.once k o i oi p.2.1 ho hoi hx hpx
        rw [this]; exact h0k
    have hpsi : (∃ d, o.dst = some d ∧ aheadB ops x0 d = true) → Ψ w := fun ⟨d, hd, hb⟩ => I.psi fun i oi hoi hx => by
      cases hl : listed.getD i false with
      | false => rfl
      | true =>
        exfalso
        rcases aheadB_ok hb hoi hx with h1 | h1
        · have : i = k := R.once k o i oi d ho hoi h1 hd
          rw [this, h0k] at hl; cases hl
        · obtain ⟨j, oj, hoj, hjd, hlj⟩ := needsD_ok I.closed _ i d hl h1
          have : j = k := R.once k o j oj d ho hoj hjd hd
          rw [this, h0k] at hlj; cases hlj
    unfold wpOp
    simp only [ho]
    cases kd with
    | un =>
      have : Region.wanted o (yielded ops a.tmps) = false := by rw [hwn]; exact hst _
      simp only [this, Bool.false_eq_true, if_false]
      exact ih _ _ _ (next undef w (hS o w) I.cls rfl (fun d Φ h => by cases h) (fun t Φ h => by cases h) (fun d x Φ h => by cases h)) hcount
    | det c =>
      obtain ⟨hw, ts, hts, hg⟩ := hst
      have : Region.wanted o (yielded ops a.tmps) = true := by rw [hwn]; exact hw _
      simp only [this, if_true]
      refine .inl ((hg (slot a) w I.cls (hfacts ts hts) ⟨htemp ts hts, hpsi⟩).wp hev fun v w' ⟨hv, hS', hC'⟩ => ?_)
      exact ih _ _ _ (next v w' hS' hC' hv (fun d Φ h => by cases h) (fun t Φ h => by cases h) (fun d x Φ h => by cases h)) hcount
    | nd d Φ =>
      obtain ⟨hw, ⟨ts, hts, hg⟩, hd, _⟩ := hst
      have : Region.wanted o (yielded ops a.tmps) = true := by rw [hwn]; exact hw _
      simp only [this, if_true]
      refine .inl ((hg (slot a) w I.cls (hfacts ts hts) ⟨htemp ts hts, hpsi⟩).wp hev fun v w' ⟨hv, hS', hC'⟩ => ?_)
      refine ih _ _ _ (next v w' hS' hC' ?_ (fun d' Φ' h => by cases h; exact ⟨hd, hv⟩) (fun t Φ h => by cases h) (fun d x Φ h => by cases h)) hcount
      show v = slot (a.put o.dst v) d
      rw [hd]
      exact (slot_put_same (by rw [I.size, hn]; exact R.inb k o d ho hd)).symm
    | tp d x Φ =>
      obtain ⟨hw, ⟨ts, hts, hg⟩, hd, _⟩ := hst
      have : Region.wanted o (yielded ops a.tmps) = true := by rw [hwn]; exact hw _
      simp only [this, if_true]
      refine .inl ((hg (slot a) w I.cls (hfacts ts hts) ⟨htemp ts hts, hpsi⟩).wp hev fun v w' ⟨hv, hS', hC'⟩ => ?_)
      refine ih _ _ _ (next v w' hS' hC' ?_ (fun d' Φ' h => by cases h) (fun t Φ h => by cases h) (fun d' x' Φ' h => by cases h; exact ⟨hd, hv⟩)) hcount
      show v = slot (a.put o.dst v) d
      rw [hd]
      exact (slot_put_same (by rw [I.size, hn]; exact R.inb k o d ho hd)).symm
    | fx t Φ =>
      obtain ⟨hw, ⟨ts, hts, ht, htd, hg⟩, hd, _⟩ := hst
      have : Region.wanted o (yielded ops a.tmps) = true := by rw [hwn]; exact hw _
      simp only [this, if_true]
      refine .inl ((hg (slot a) w I.cls (hfacts ts hts) ⟨htemp ts hts, hpsi⟩).wp hev fun v w' ⟨hv, hS', hC'⟩ => ?_)
      have e : a.put o.dst v = a := by rw [hd]; rfl
      have e2 : a.put o.dst undef = a := by rw [hd]; rfl
      rw [e]
      have ht' : t ∈ o.looksAt ops := by rw [hts]; exact ht
      have hn := next undef w' hS' hC' rfl (fun d' Φ' h => by cases h) (fun t' Φ' h => by
        cases h
        rw [e2]
        refine ⟨htd, ?_⟩
        rw [hsl t ht']
        exact hv) (fun d x Φ h => by cases h)
      rw [e2] at hn
      exact ih _ _ _ hn hcount

/-- A REGION THAT DRAWS ITS ORDER, WALKED ONCE; Ψ holds till the operation that writes slot x0. -/
theorem wp_walkT {id : Nat} {Q : Exit → Act → World → Prop} {a0 : Act} {w0 : World} (n : Nat) (x0 : Option Nat) (Ψ : World → Prop) (hm : P.follows .mixedOrders = true) (hB : R2.regB ops n = true) (hn : a0.tmps.size = n) (hS : ∀ o w, S o w w) (hC : C w0.drew)
    (hPsi : ∀ (o' : Oper) w w', o'.dst ≠ x0 → Ψ w → S o' w w' → C w' → Ψ w') (h0 : Ψ w0.drew)
    (h : WalkR P ops C S x0 Ψ (Q .normal) ops.toList (fun _ => a0) [] [] []) : (Code.region id ops true).wp P Q a0 w0 := by
  obtain ⟨ks, hSt⟩ := h
  refine wp_region_any hm (walk_sound (R2.regB_ok hB) hn hS hPsi hSt ops.size (Array.replicate ops.size false) a0 _ ?_ ?_)
  · exact ⟨by simp, rfl, rfl, hC, fun _ => h0, fun j o ho hl => by simp [Array.getElem?_replicate] at hl; split at hl <;> simp at hl, fun _ _ => rfl, fun j o kd ho hk hl => by simp [Array.getElem?_replicate] at hl; split at hl <;> simp at hl⟩
  · simp [List.countP_replicate]

/-! ### The moves -/
variable {fs : List (Nat × Fact)} {us : List (Nat × Nat × Fact)}
theorem WalkR.nil {A : (Nat → Value) → Act} {hs : List (Nat × Fact)} (h : ∀ ρ w, C w → (∀ p ∈ hs, p.2 (ρ p.1) w) → (∀ p ∈ fs, p.2 (slot (A ρ) p.1) w) → QN (A ρ) w) : WalkR P ops C S x0 Ψ QN [] A hs us fs := ⟨[], h⟩
theorem WalkR.un {o : Oper} {l : List Oper} {A : (Nat → Value) → Act} {hs : List (Nat × Fact)} (hw : ∀ ρ, Region.wanted o (yielded ops (A ρ).tmps) = false) (h : WalkR P ops C S x0 Ψ QN l (fun ρ => (A ρ).put o.dst undef) hs us fs) : WalkR P ops C S x0 Ψ QN (o :: l) A hs us fs :=
  h.elim fun ks hk => ⟨.un :: ks, hw, hk⟩
theorem WalkR.det {o : Oper} {l : List Oper} {A : (Nat → Value) → Act} {hs : List (Nat × Fact)} {c : Value} {ts : List Nat} (hw : ∀ ρ, Region.wanted o (yielded ops (A ρ).tmps) = true) (hts : o.looksAt ops = ts)
    (hg : ∀ ρ w, C w → (∀ p ∈ hs, p.1 ∈ ts → p.2 (ρ p.1) w) → ((∀ p ∈ us, p.1 ∈ ts → o.dst = some p.2.1 → p.2.2 (ρ p.1) w) ∧ ((∃ d, o.dst = some d ∧ aheadB ops x0 d = true) → Ψ w)) → gives P o (A ρ) w (fun v w' => v = c ∧ S o w w' ∧ C w')) (h : WalkR P ops C S x0 Ψ QN l (fun ρ => (A ρ).put o.dst c) hs us fs) : WalkR P ops C S x0 Ψ QN (o :: l) A hs us fs :=
  h.elim fun ks hk => ⟨.det c :: ks, ⟨hw, ts, hts, hg⟩, hk⟩
theorem WalkR.nd {o : Oper} {l : List Oper} {A : (Nat → Value) → Act} {hs : List (Nat × Fact)} {d : Nat} (Φ : Fact) {ts : List Nat} (hw : ∀ ρ, Region.wanted o (yielded ops (A ρ).tmps) = true) (hts : o.looksAt ops = ts) (hd : o.dst = some d) (hst : ∀ (o' : Oper) v w w', o'.dst ≠ some d → (∀ u ∈ R2.depsOf ops o, o'.dst ≠ some u) → Φ v w → S o' w w' → C w' → Φ v w')
    (hg : ∀ ρ w, C w → (∀ p ∈ hs, p.1 ∈ ts → p.2 (ρ p.1) w) → ((∀ p ∈ us, p.1 ∈ ts → o.dst = some p.2.1 → p.2.2 (ρ p.1) w) ∧ ((∃ d, o.dst = some d ∧ aheadB ops x0 d = true) → Ψ w)) → gives P o (A ρ) w (fun v w' => Φ v w' ∧ S o w w' ∧ C w')) (h : WalkR P ops C S x0 Ψ QN l (fun ρ => (A ρ).put o.dst (ρ d)) ((d, Φ) :: hs) us fs) : WalkR P ops C S x0 Ψ QN (o :: l) A hs us fs :=
  h.elim fun ks hk => ⟨.nd d Φ :: ks, ⟨hw, ⟨ts, hts, hg⟩, hd, hst⟩, hk⟩
theorem WalkR.tp {o : Oper} {l : List Oper} {A : (Nat → Value) → Act} {hs : List (Nat × Fact)} {d : Nat} (x : Nat) (Φ : Fact) {ts : List Nat} (hw : ∀ ρ, Region.wanted o (yielded ops (A ρ).tmps) = true) (hts : o.looksAt ops = ts) (hd : o.dst = some d) (hst : ∀ (o' : Oper) v w w', o'.dst ≠ some d → o'.dst ≠ some x → Φ v w → S o' w w' → C w' → Φ v w')
    (hg : ∀ ρ w, C w → (∀ p ∈ hs, p.1 ∈ ts → p.2 (ρ p.1) w) → ((∀ p ∈ us, p.1 ∈ ts → o.dst = some p.2.1 → p.2.2 (ρ p.1) w) ∧ ((∃ d, o.dst = some d ∧ aheadB ops x0 d = true) → Ψ w)) → gives P o (A ρ) w (fun v w' => Φ v w' ∧ S o w w' ∧ C w')) (h : WalkR P ops C S x0 Ψ QN l (fun ρ => (A ρ).put o.dst (ρ d)) hs ((d, x, Φ) :: us) fs) : WalkR P ops C S x0 Ψ QN (o :: l) A hs us fs :=
  h.elim fun ks hk => ⟨.tp d x Φ :: ks, ⟨hw, ⟨ts, hts, hg⟩, hd, hst⟩, hk⟩
theorem WalkR.fx {o : Oper} {l : List Oper} {A : (Nat → Value) → Act} {hs : List (Nat × Fact)} (t : Nat) (Φ : Fact) {ts : List Nat} (hw : ∀ ρ, Region.wanted o (yielded ops (A ρ).tmps) = true) (hts : o.looksAt ops = ts) (ht : t ∈ ts) (htd : t ∈ R2.depsOf ops o) (hd : o.dst = none) (hst : ∀ (o' : Oper) v w w', Φ v w → S o' w w' → C w' → Φ v w')
    (hg : ∀ ρ w, C w → (∀ p ∈ hs, p.1 ∈ ts → p.2 (ρ p.1) w) → ((∀ p ∈ us, p.1 ∈ ts → o.dst = some p.2.1 → p.2.2 (ρ p.1) w) ∧ ((∃ d, o.dst = some d ∧ aheadB ops x0 d = true) → Ψ w)) → gives P o (A ρ) w (fun _ w' => Φ (slot (A ρ) t) w' ∧ S o w w' ∧ C w')) (h : WalkR P ops C S x0 Ψ QN l A hs us ((t, Φ) :: fs)) : WalkR P ops C S x0 Ψ QN (o :: l) A hs us fs :=
  h.elim fun ks hk => ⟨.fx t Φ :: ks, ⟨hw, ⟨ts, hts, ht, htd, hg⟩, hd, hst⟩, by rw [show R2.nextA A o (.fx t Φ) = A from funext fun ρ => by simp [R2.nextA, hd, Act.put]]; exact hk⟩

end

end R3
end Go.Proofs.Ytjjipkgconmfcaa

namespace Go.Proofs.Ytjjipkgconmfcaa
namespace R4

section
variable {ops : Array Oper}
variable (ops) in
/-- What is asked of a region, as one Bool: edges go back; slots are written once, and lie in the frame; whatever an operation looks at that another one of the region writes, it waits for. -/
def regB (n : Nat) : Bool :=
  (List.range ops.size).all fun k =>
    match ops[k]? with
    | none => true
    | some o =>
      (o.after.all fun e => !Region.binds .any e || decide (e.on < k)) &&
      (match o.dst with | some d => decide (d < n) | none => true) &&
      (match o.op with | .select .. => false | _ => true) &&
      ((List.range ops.size).all fun j =>
        match ops[j]? with
        | none => true
        | some oj =>
          match oj.dst with
          | none => true
          | some d => (decide (j = k) || o.dst != some d) && (!(o.looksAt ops).contains d || (decide (j < k) && o.after.any fun e => Region.binds .any e && e.on == j) || (decide (k < j) && oj.after.any fun e => Region.binds .any e && e.on == k)))

structure RegOk (n : Nat) (ops : Array Oper) : Prop where
  back : ∀ (k : Nat) (o : Oper), ops[k]? = some o → ∀ e ∈ o.after, Region.binds .any e = true → e.on < k
  inb : ∀ (k : Nat) (o : Oper) (d : Nat), ops[k]? = some o → o.dst = some d → d < n
  sel : ∀ (k : Nat) (o : Oper), ops[k]? = some o → ∀ cs b, o.op ≠ .select cs b
  once : ∀ (k : Nat) (o : Oper) (j : Nat) (oj : Oper) (d : Nat), ops[k]? = some o → ops[j]? = some oj → oj.dst = some d → o.dst = some d → j = k
  waits : ∀ (k : Nat) (o : Oper) (j : Nat) (oj : Oper) (d : Nat), ops[k]? = some o → ops[j]? = some oj → oj.dst = some d → d ∈ o.looksAt ops → (j < k ∧ ∃ e ∈ o.after, Region.binds .any e = true ∧ e.on = j) ∨ (k < j ∧ ∃ e ∈ oj.after, Region.binds .any e = true ∧ e.on = k)

theorem regB_ok {n : Nat} (h : regB ops n = true) : RegOk n ops := by
  simp only [regB, List.all_eq_true, List.mem_range] at h
  have h' : ∀ (k : Nat) (o : Oper), ops[k]? = some o → _ := fun k o ho => by
    have := h k (Array.getElem?_eq_some_iff.1 ho).1
    simp only [ho, Bool.and_eq_true] at this
    exact this
  have hj : ∀ (k : Nat) (o : Oper) (j : Nat) (oj : Oper) (d : Nat), ops[k]? = some o → ops[j]? = some oj → oj.dst = some d → _ := fun k o j oj d ho hoj hd => by
    have := (h' k o ho).2
    simp only [List.all_eq_true, List.mem_range] at this
    have := this j (Array.getElem?_eq_some_iff.1 hoj).1
    simp only [hoj, hd, Bool.and_eq_true] at this
    exact this
  refine ⟨fun k o ho e he hb => ?_, fun k o d ho hd => ?_, fun k o ho cs b e => ?_, fun k o j oj d ho hoj hd hd' => ?_, fun k o j oj d ho hoj hd hm => ?_⟩
  · have := (h' k o ho).1.1.1
    rw [Array.all_eq_true_iff_forall_mem] at this
    simpa [hb] using this e he
  · have := (h' k o ho).1.1.2
    simpa [hd] using this
  · have := (h' k o ho).1.2
    simp [e] at this
  · have := (hj k o j oj d ho hoj hd).1
    simpa [hd'] using this
  · have := (hj k o j oj d ho hoj hd).2
    simp only [Bool.or_eq_true, Bool.not_eq_true', Bool.and_eq_true, decide_eq_true_eq, Array.any_eq_true', beq_iff_eq] at this
    rcases this with (h1 | ⟨h1, e, he, hb⟩) | ⟨h1, e, he, hb⟩
    · have : (o.looksAt ops).contains d = true := by simpa using hm
      rw [h1] at this; cases this
    · exact .inl ⟨h1, e, he, hb⟩
    · exact .inr ⟨h1, e, he, hb⟩

/-- The slots that an operation waits for. -/
def depsOf (ops : Array Oper) (o : Oper) : List Nat := o.after.toList.filterMap fun e => if Region.binds .any e = true then (ops[e.on]?).bind (·.dst) else none
theorem mem_deps {o : Oper} {u : Nat} : u ∈ depsOf ops o ↔ ∃ e ∈ o.after, Region.binds .any e = true ∧ ∃ od, ops[e.on]? = some od ∧ od.dst = some u := by
  simp only [depsOf, List.mem_filterMap, Array.mem_toList_iff]
  constructor
  · rintro ⟨e, he, h⟩
    split at h
    · rename_i hb
      rw [Option.bind_eq_some_iff] at h
      exact ⟨e, he, hb, h⟩
    · cases h
  · rintro ⟨e, he, hb, od, h1, h2⟩
    exact ⟨e, he, by rw [if_pos hb, Option.bind_eq_some_iff]; exact ⟨od, h1, h2⟩⟩

end

section
variable (P : Program) (ops : Array Oper) (C : (Nat → Value) → World → Prop) (S : (Nat → Value) → Oper → World → World → Prop) (x0 : Nat) (Ψ : World → Prop) (QN : Act → World → Prop)

/-- How an operation is met: it isn't wanted; it yields one value; it yields a value of which a fact is known. -/
inductive Kd where
  | un
  | det (c : Value)
  | nd (d : Nat) (Φ : Fact)
  | fx (t : Nat) (Φ : Fact)
  | tp (d x : Nat) (Φ : Fact)

def ent : Kd → (Nat → Value) → Value
  | .un, _ => undef
  | .det c, _ => c
  | .nd d _, ρ => ρ d
  | .fx _ _, _ => undef
  | .tp d _ _, ρ => ρ d
def nextA (A : (Nat → Value) → Act) (o : Oper) (kd : Kd) : (Nat → Value) → Act := fun ρ => (A ρ).put o.dst (ent kd ρ)
def nextH (hs : List (Nat × Fact)) : Kd → List (Nat × Fact)
  | .nd d Φ => (d, Φ) :: hs
  | _ => hs
/-- Facts that hold until the operation that writes slot x. -/
def nextT (us : List (Nat × Nat × Fact)) : Kd → List (Nat × Nat × Fact)
  | .tp d x Φ => (d, x, Φ) :: us
  | _ => us
def nextF (fs : List (Nat × Fact)) : Kd → List (Nat × Fact)
  | .fx t Φ => (t, Φ) :: fs
  | _ => fs

theorem count_one {Q : Oper → Bool} : ∀ {l : List Oper}, l.countP Q ≤ 1 → ∀ (k k' : Nat) (o' o'' : Oper), l[k]? = some o' → l[k']? = some o'' → Q o' = true → Q o'' = true → k = k'
  | [], _, _, _, _, _, h, _, _, _ => by simp at h
  | x :: l, hc, k, k', o', o'', h1, h2, q1, q2 => by
    have hin : ∀ (i : Nat) (o : Oper), l[i]? = some o → Q o = true → 0 < l.countP Q := fun i o hi hq => List.countP_pos_iff.2 ⟨o, List.mem_of_getElem? hi, hq⟩
    rw [List.countP_cons] at hc
    cases k with
    | zero =>
      cases k' with
      | zero => rfl
      | succ k' =>
        simp only [List.getElem?_cons_zero, Option.some.injEq] at h1
        have := hin k' o'' (by simpa using h2) q2
        rw [h1, q1, if_pos rfl] at hc
        omega
    | succ k =>
      cases k' with
      | zero =>
        simp only [List.getElem?_cons_zero, Option.some.injEq] at h2
        have := hin k o' (by simpa using h1) q1
        rw [h2, q2, if_pos rfl] at hc
        omega
      | succ k' =>
        have := count_one (l := l) (by omega) k k' o' o'' (by simpa using h1) (by simpa using h2) q1 q2
        omega

/-- The slots behind a write. -/
def upd (ρ : Nat → Value) (d : Option Nat) (v : Value) : Nat → Value := fun t => if d = some t then v else ρ t
theorem slot_upd {a : Act} {d : Option Nat} {v : Value} (h : ∀ t, d = some t → t < a.tmps.size) : slot (a.put d v) = upd (slot a) d v := by
  funext t
  unfold upd
  by_cases e : d = some t
  · rw [if_pos e, e]
    exact slot_put_same (h t e)
  · rw [if_neg e]
    exact slot_put_ne e

/-- What is owed for one operation. -/
def StepOk (o : Oper) (kd : Kd) (A : (Nat → Value) → Act) (hs : List (Nat × Fact)) (us : List (Nat × Nat × Fact)) : Prop :=
  match kd with
  | .un => (∀ ρ, Region.wanted o (yielded ops (A ρ).tmps) = false) ∧ ∀ ρ w, C ρ w → C (upd ρ o.dst undef) w
  | .det c => (∀ ρ, Region.wanted o (yielded ops (A ρ).tmps) = true) ∧ ∃ ts : List Nat, o.looksAt ops = ts ∧
      ∀ ρ w, C ρ w → (∀ p ∈ hs, p.1 ∈ ts → p.2 (ρ p.1) w) → ((∀ p ∈ us, p.1 ∈ ts → o.dst = some p.2.1 → p.2.2 (ρ p.1) w) ∧ (o.dst = some x0 → Ψ w)) → gives P o (A ρ) w (fun v w' => v = c ∧ S ρ o w w' ∧ C (upd ρ o.dst v) w')
  | .nd d Φ => (∀ ρ, Region.wanted o (yielded ops (A ρ).tmps) = true) ∧ (∃ ts : List Nat, o.looksAt ops = ts ∧
      ∀ ρ w, C ρ w → (∀ p ∈ hs, p.1 ∈ ts → p.2 (ρ p.1) w) → ((∀ p ∈ us, p.1 ∈ ts → o.dst = some p.2.1 → p.2.2 (ρ p.1) w) ∧ (o.dst = some x0 → Ψ w)) → gives P o (A ρ) w (fun v w' => Φ v w' ∧ S ρ o w w' ∧ C (upd ρ o.dst v) w')) ∧ o.dst = some d ∧ (∀ (o' : Oper) σ w w', o'.dst ≠ some d → (∀ u ∈ depsOf ops o, o'.dst ≠ some u) → Φ (σ d) w → C σ w → S σ o' w w' → Φ (σ d) w')
  | .fx t Φ => (∀ ρ, Region.wanted o (yielded ops (A ρ).tmps) = true) ∧ (∃ ts : List Nat, o.looksAt ops = ts ∧ t ∈ ts ∧ t ∈ depsOf ops o ∧
      ∀ ρ w, C ρ w → (∀ p ∈ hs, p.1 ∈ ts → p.2 (ρ p.1) w) → ((∀ p ∈ us, p.1 ∈ ts → o.dst = some p.2.1 → p.2.2 (ρ p.1) w) ∧ (o.dst = some x0 → Ψ w)) → gives P o (A ρ) w (fun _ w' => Φ (slot (A ρ) t) w' ∧ S ρ o w w' ∧ C ρ w')) ∧ o.dst = none ∧ (∃ Q : Oper → Bool, Q o = true ∧ (∀ (k k' : Nat) (o' o'' : Oper), ops[k]? = some o' → ops[k']? = some o'' → Q o' = true → Q o'' = true → k = k') ∧ ∀ (o' : Oper) σ w w', Q o' = false → Φ (σ t) w → C σ w → S σ o' w w' → Φ (σ t) w')
  | .tp d x Φ => (∀ ρ, Region.wanted o (yielded ops (A ρ).tmps) = true) ∧ (∃ ts : List Nat, o.looksAt ops = ts ∧
      ∀ ρ w, C ρ w → (∀ p ∈ hs, p.1 ∈ ts → p.2 (ρ p.1) w) → ((∀ p ∈ us, p.1 ∈ ts → o.dst = some p.2.1 → p.2.2 (ρ p.1) w) ∧ (o.dst = some x0 → Ψ w)) → gives P o (A ρ) w (fun v w' => Φ v w' ∧ S ρ o w w' ∧ C (upd ρ o.dst v) w')) ∧ o.dst = some d ∧ (∀ (o' : Oper) σ w w', o'.dst ≠ some d → o'.dst ≠ some x → Φ (σ d) w → C σ w → S σ o' w w' → Φ (σ d) w')

/-- The walk in the text's order. -/
def Steps : List Oper → List Kd → ((Nat → Value) → Act) → List (Nat × Fact) → List (Nat × Nat × Fact) → List (Nat × Fact) → Prop
  | [], [], A, hs, _, fs => ∀ ρ w, C ρ w → (∀ p ∈ hs, p.2 (ρ p.1) w) → (∀ p ∈ fs, p.2 (slot (A ρ) p.1) w) → QN (A ρ) w
  | o :: l, kd :: ks, A, hs, us, fs => StepOk P ops C S x0 Ψ o kd A hs us ∧ Steps l ks (nextA A o kd) (nextH hs kd) (nextT us kd) (nextF fs kd)
  | _, _, _, _, _, _ => False

/-- .. without its list: what a proof goes through. -/
def WalkR (l : List Oper) (A : (Nat → Value) → Act) (hs : List (Nat × Fact)) (us : List (Nat × Nat × Fact)) (fs : List (Nat × Fact)) : Prop := ∃ ks, Steps P ops C S x0 Ψ QN l ks A hs us fs

def stA (A : (Nat → Value) → Act) : List Oper → List Kd → Nat → (Nat → Value) → Act
  | o :: l, kd :: ks, i + 1 => stA (nextA A o kd) l ks i
  | _, _, _ => A
def stH (hs : List (Nat × Fact)) : List Kd → Nat → List (Nat × Fact)
  | kd :: ks, i + 1 => stH (nextH hs kd) ks i
  | _, _ => hs
def stT (us : List (Nat × Nat × Fact)) : List Kd → Nat → List (Nat × Nat × Fact)
  | kd :: ks, i + 1 => stT (nextT us kd) ks i
  | _, _ => us
def stF (fs : List (Nat × Fact)) : List Kd → Nat → List (Nat × Fact)
  | kd :: ks, i + 1 => stF (nextF fs kd) ks i
  | _, _ => fs

variable {P ops C S x0 Ψ QN}

theorem Steps.at_ : ∀ {l : List Oper} {ks : List Kd} {A : (Nat → Value) → Act} {hs : List (Nat × Fact)} {us : List (Nat × Nat × Fact)} {fs : List (Nat × Fact)}, Steps P ops C S x0 Ψ QN l ks A hs us fs → ∀ i o, l[i]? = some o → ∃ kd, ks[i]? = some kd ∧ StepOk P ops C S x0 Ψ o kd (stA A l ks i) (stH hs ks i) (stT us ks i)
  | o :: l, kd :: ks, A, hs, us, fs, h, 0, o', ho => by
    simp at ho; subst ho
    exact ⟨kd, rfl, h.1⟩
  | o :: l, kd :: ks, A, hs, us, fs, h, i + 1, o', ho => Steps.at_ h.2 i o' (by simpa using ho)
  | [], _, _, _, _, _, _, _, _, ho => by simp at ho
  | _ :: _, [], _, _, _, _, h, _, _, _ => h.elim

theorem Steps.end_ : ∀ {l : List Oper} {ks : List Kd} {A : (Nat → Value) → Act} {hs : List (Nat × Fact)} {us : List (Nat × Nat × Fact)} {fs : List (Nat × Fact)}, Steps P ops C S x0 Ψ QN l ks A hs us fs →
    ks.length = l.length ∧ ∀ ρ w, C ρ w → (∀ p ∈ stH hs ks l.length, p.2 (ρ p.1) w) → (∀ p ∈ stF fs ks l.length, p.2 (slot (stA A l ks l.length ρ) p.1) w) → QN (stA A l ks l.length ρ) w
  | [], [], A, hs, us, fs, h => ⟨rfl, h⟩
  | o :: l, kd :: ks, A, hs, us, fs, h => by
    obtain ⟨h1, h2⟩ := Steps.end_ h.2
    exact ⟨by simp [h1], h2⟩
  | [], _ :: _, _, _, _, _, h => h.elim
  | _ :: _, [], _, _, _, _, h => h.elim

theorem stA_size : ∀ (A : (Nat → Value) → Act) (l : List Oper) (ks : List Kd) (i : Nat) (ρ : Nat → Value), (stA A l ks i ρ).tmps.size = (A ρ).tmps.size ∧ (stA A l ks i ρ).defers = (A ρ).defers
  | A, o :: l, kd :: ks, i + 1, ρ => by
    have := stA_size (nextA A o kd) l ks i ρ
    simpa [stA, nextA, size_put, defers_put] using this
  | A, [], _, _, ρ => by simp [stA]
  | A, _ :: _, [], _, ρ => by simp [stA]
  | A, _ :: _, _ :: _, 0, ρ => by simp [stA]

/-- A slot that none of the first i operations writes. -/
theorem stA_other : ∀ (A : (Nat → Value) → Act) (l : List Oper) (ks : List Kd) (i : Nat) (ρ : Nat → Value) (t : Nat), (∀ j o, j < i → l[j]? = some o → o.dst ≠ some t) → slot (stA A l ks i ρ) t = slot (A ρ) t
  | A, o :: l, kd :: ks, i + 1, ρ, t, h => by
    rw [show stA A (o :: l) (kd :: ks) (i + 1) ρ = stA (nextA A o kd) l ks i ρ from rfl,
      stA_other (nextA A o kd) l ks i ρ t (fun j o' hj ho => h (j + 1) o' (by omega) (by simpa using ho))]
    exact slot_put_ne (h 0 o (by omega) rfl)
  | A, [], _, _, ρ, t, _ => by simp [stA]
  | A, _ :: _, [], _, ρ, t, _ => by simp [stA]
  | A, _ :: _, _ :: _, 0, ρ, t, _ => by simp [stA]

/-- A slot that one of them writes, and none after it. -/
theorem stA_wrote : ∀ (A : (Nat → Value) → Act) (l : List Oper) (ks : List Kd) (i : Nat) (ρ : Nat → Value) (t j : Nat) (o : Oper) (kd : Kd), j < i → l[j]? = some o → ks[j]? = some kd → o.dst = some t → t < (A ρ).tmps.size →
    (∀ j' o', j < j' → j' < i → l[j']? = some o' → o'.dst ≠ some t) → slot (stA A l ks i ρ) t = ent kd ρ
  | A, o :: l, kd :: ks, i + 1, ρ, t, 0, o', kd', hj, ho, hk, hd, ht, h => by
    simp at ho hk; subst ho hk
    rw [show stA A (o :: l) (kd :: ks) (i + 1) ρ = stA (nextA A o kd) l ks i ρ from rfl,
      stA_other (nextA A o kd) l ks i ρ t (fun j o' hj ho => h (j + 1) o' (by omega) (by omega) (by simpa using ho))]
    show slot ((A ρ).put o.dst (ent kd ρ)) t = _
    rw [hd]; exact slot_put_same ht
  | A, o :: l, kd :: ks, i + 1, ρ, t, j + 1, o', kd', hj, ho, hk, hd, ht, h =>
    stA_wrote (nextA A o kd) l ks i ρ t j o' kd' (by omega) (by simpa using ho) (by simpa using hk) hd (by simpa [nextA, size_put] using ht) (fun j' o'' h1 h2 h3 => h (j' + 1) o'' (by omega) (by omega) (by simpa using h3))
  | A, [], _, _, ρ, t, j, o, kd, _, ho, _, _, _, _ => by simp at ho
  | A, _ :: _, [], _, ρ, t, j, o, kd, _, _, hk, _, _, _ => by simp at hk
  | A, _ :: _, _ :: _, 0, ρ, t, j, o, kd, hj, _, _, _, _, _ => by omega

theorem stH_mem : ∀ (hs : List (Nat × Fact)) (ks : List Kd) (i : Nat) (p : Nat × Fact), p ∈ stH hs ks i → p ∈ hs ∨ ∃ j, j < i ∧ ks[j]? = some (.nd p.1 p.2)
  | hs, kd :: ks, i + 1, p, h => by
    rcases stH_mem (nextH hs kd) ks i p h with h1 | ⟨j, hj, hk⟩
    · cases kd with
      | nd d Φ =>
        simp only [nextH, List.mem_cons] at h1
        rcases h1 with rfl | h1
        · exact .inr ⟨0, by omega, rfl⟩
        · exact .inl h1
      | _ => exact .inl h1
    · exact .inr ⟨j + 1, by omega, by simpa using hk⟩
  | hs, [], _, p, h => .inl (by simpa [stH] using h)
  | hs, _ :: _, 0, p, h => .inl (by simpa [stH] using h)

theorem stT_mem : ∀ (us : List (Nat × Nat × Fact)) (ks : List Kd) (i : Nat) (p : Nat × Nat × Fact), p ∈ stT us ks i → p ∈ us ∨ ∃ j, j < i ∧ ks[j]? = some (.tp p.1 p.2.1 p.2.2)
  | us, kd :: ks, i + 1, p, h => by
    rcases stT_mem (nextT us kd) ks i p h with h1 | ⟨j, hj, hk⟩
    · cases kd with
      | tp d x Φ =>
        simp only [nextT, List.mem_cons] at h1
        rcases h1 with rfl | h1
        · exact .inr ⟨0, by omega, rfl⟩
        · exact .inl h1
      | _ => exact .inl h1
    · exact .inr ⟨j + 1, by omega, by simpa using hk⟩
  | us, [], _, p, h => .inl (by simpa [stT] using h)
  | us, _ :: _, 0, p, h => .inl (by simpa [stT] using h)

theorem stF_mem : ∀ (fs : List (Nat × Fact)) (ks : List Kd) (i : Nat) (p : Nat × Fact), p ∈ stF fs ks i → p ∈ fs ∨ ∃ j, j < i ∧ ks[j]? = some (.fx p.1 p.2)
  | fs, kd :: ks, i + 1, p, h => by
    rcases stF_mem (nextF fs kd) ks i p h with h1 | ⟨j, hj, hk⟩
    · cases kd with
      | fx t Φ =>
        simp only [nextF, List.mem_cons] at h1
        rcases h1 with rfl | h1
        · exact .inr ⟨0, by omega, rfl⟩
        · exact .inl h1
      | _ => exact .inl h1
    · exact .inr ⟨j + 1, by omega, by simpa using hk⟩
  | fs, [], _, p, h => .inl (by simpa [stF] using h)
  | fs, _ :: _, 0, p, h => .inl (by simpa [stF] using h)

/-- What holds on the way: of the operations that have come up. -/
structure InvR (C : (Nat → Value) → World → Prop) (x0 : Nat) (Ψ : World → Prop) (ks : List Kd) (ops : Array Oper) (a0 : Act) (listed : Array Bool) (a : Act) (w : World) : Prop where
  len : listed.size = ops.size
  size : a.tmps.size = a0.tmps.size
  defers : a.defers = a0.defers
  cls : C (slot a) w
  psi : (∀ (i : Nat) (oi : Oper), ops[i]? = some oi → oi.dst = some x0 → listed.getD i false = false) → Ψ w
  closed : ∀ (j : Nat) (o : Oper), ops[j]? = some o → listed.getD j false = true → ∀ e ∈ o.after, Region.binds .any e = true → listed.getD e.on false = true
  other : ∀ t, (∀ (j : Nat) (o : Oper), ops[j]? = some o → listed.getD j false = true → o.dst ≠ some t) → slot a t = slot a0 t
  wrote : ∀ (j : Nat) (o : Oper) (kd : Kd), ops[j]? = some o → ks[j]? = some kd → listed.getD j false = true →
    (∀ d, o.dst = some d → slot a d = ent kd (slot a)) ∧ (∀ d Φ, kd = .nd d Φ → o.dst = some d ∧ Φ (slot a d) w) ∧ (∀ t Φ, kd = .fx t Φ → t ∈ depsOf ops o ∧ Φ (slot a t) w) ∧
    (∀ d x Φ, kd = .tp d x Φ → o.dst = some d ∧ ((∀ (i : Nat) (oi : Oper), ops[i]? = some oi → oi.dst = some x → listed.getD i false = false) → Φ (slot a d) w))

theorem slot_at {n : Nat} {a0 : Act} {listed : Array Bool} {a : Act} {w : World} {ks : List Kd} (R : RegOk n ops) (hn : a0.tmps.size = n) (hk : ks.length = ops.size) (I : InvR C x0 Ψ ks ops a0 listed a w) {k : Nat} {o : Oper} (ho : ops[k]? = some o)
    (hr : ∀ e ∈ o.after, Region.binds .any e = true → listed.getD e.on false = true) (h0 : listed.getD k false = false) {t : Nat} (ht : t ∈ o.looksAt ops) :
    slot a t = slot (stA (fun _ => a0) ops.toList ks k (slot a)) t := by
  by_cases hw : ∃ (j : Nat) (oj : Oper), ops[j]? = some oj ∧ oj.dst = some t
  · obtain ⟨j, oj, hoj, hd⟩ := hw
    rcases R.waits k o j oj t ho hoj hd ht with ⟨hjk, e, he, hb, rfl⟩ | ⟨hjk, e, he, hb, hek⟩
    · have hl := hr e he hb
      have hjs : e.on < ks.length := by rw [hk]; exact (Array.getElem?_eq_some_iff.1 hoj).1
      have hkd : ks[e.on]? = some ks[e.on] := List.getElem?_eq_getElem hjs
      rw [stA_wrote (fun _ => a0) ops.toList ks k (slot a) t e.on oj _ hjk (by simpa using hoj) hkd hd (by rw [hn]; exact R.inb _ _ _ hoj hd)
        (fun j' o' h1 h2 h3 h4 => by
          have := R.once e.on oj j' o' t hoj (by simpa using h3) h4 hd
          omega)]
      exact (I.wrote e.on oj _ hoj hkd hl).1 t hd
    · rw [stA_other (fun _ => a0) ops.toList ks k (slot a) t (fun j' oj' hj' hoj' hd' => by
        have := R.once j oj j' oj' t hoj (by simpa using hoj') hd' hd
        omega)]
      refine I.other t (fun j' oj' hoj' hl hd' => ?_)
      have hjj := R.once j oj j' oj' t hoj hoj' hd' hd
      subst hjj
      have := I.closed j' oj hoj hl e he hb
      rw [hek, h0] at this; cases this
  · rw [stA_other (fun _ => a0) ops.toList ks k (slot a) t (fun j oj _ hoj hd => hw ⟨j, oj, by simpa using hoj, hd⟩)]
    exact I.other t (fun j oj hoj _ hd => hw ⟨j, oj, hoj, hd⟩)

theorem walk_sound {n : Nat} {a0 : Act} {ks : List Kd} {Q : Exit → Act → World → Prop} (R : RegOk n ops) (hn : a0.tmps.size = n) (hS : ∀ σ o w, S σ o w w) (hPsi : ∀ (o' : Oper) σ w w', o'.dst ≠ some x0 → Ψ w → C σ w → S σ o' w w' → Ψ w') (hSt : Steps P ops C S x0 Ψ (Q .normal) ops.toList ks (fun _ => a0) [] [] []) :
    ∀ (fuel : Nat) (listed : Array Bool) (a : Act) (w : World), InvR C x0 Ψ ks ops a0 listed a w → listed.toList.countP (fun b => !b) ≤ fuel → wpAny P .any ops Q fuel listed a w := by
  obtain ⟨hk, hend⟩ := hSt.end_
  simp only [Array.length_toList] at hk hend
  -- all have come up: the state is the walk's last one
  have fin : ∀ (listed : Array Bool) (a : Act) (w : World), InvR C x0 Ψ ks ops a0 listed a w → Region.ready .any ops listed = [] → Q .normal a w := by
    intro listed a w I hr
    have hall : ∀ k, k < ops.size → listed.getD k false = true := by
      intro k
      induction k using Nat.strongRecOn with
      | _ k ih =>
        intro hlt
        have hks : k < listed.size := by rw [I.len]; exact hlt
        cases hb : listed.getD k false with
        | true => rfl
        | false =>
          exfalso
          have hk2 : k ∈ Region.ready .any ops listed := by
            refine mem_ready.2 ⟨by simpa [hks] using hb, ops[k], Array.getElem?_eq_getElem hlt, fun e he hbi => ?_⟩
            have hlt2 := R.back k _ (Array.getElem?_eq_getElem hlt) e he hbi
            exact ih e.on hlt2 (by omega)
          rw [hr] at hk2; cases hk2
    have ha : a = stA (fun _ => a0) ops.toList ks ops.size (slot a) := by
      have hsz := stA_size (fun _ => a0) ops.toList ks ops.size (slot a)
      have hslot : ∀ t, slot a t = slot (stA (fun _ => a0) ops.toList ks ops.size (slot a)) t := by
        intro t
        by_cases hw : ∃ (j : Nat) (oj : Oper), ops[j]? = some oj ∧ oj.dst = some t
        · obtain ⟨j, oj, hoj, hd⟩ := hw
          have hj := (Array.getElem?_eq_some_iff.1 hoj).1
          have hkd : ks[j]? = some ks[j] := List.getElem?_eq_getElem (by omega)
          rw [stA_wrote (fun _ => a0) ops.toList ks ops.size (slot a) t j oj _ hj (by simpa using hoj) hkd hd (by rw [hn]; exact R.inb _ _ _ hoj hd)
            (fun j' o' h1 h2 h3 h4 => by
              have := R.once j oj j' o' t hoj (by simpa using h3) h4 hd
              omega)]
          exact (I.wrote j oj _ hoj hkd (hall j hj)).1 t hd
        · rw [stA_other (fun _ => a0) ops.toList ks ops.size (slot a) t (fun j oj _ hoj hd => hw ⟨j, oj, by simpa using hoj, hd⟩)]
          exact I.other t (fun j oj hoj _ hd => hw ⟨j, oj, hoj, hd⟩)
      obtain ⟨h1, h2⟩ := hsz
      have hd := I.defers
      have hs := I.size
      generalize stA (fun _ => a0) ops.toList ks ops.size (slot a) = b at *
      obtain ⟨ta, da⟩ := a
      obtain ⟨tb, db⟩ := b
      simp only [Act.mk.injEq] at *
      refine ⟨?_, by rw [hd, h2]⟩
      apply Array.ext
      · omega
      · intro i hi1 hi2
        have := hslot i
        simp only [slot] at this
        simpa [hi1, hi2] using this
    rw [ha]
    refine hend _ w I.cls (fun p hp => ?_) (fun p hp => ?_)
    · rcases stH_mem [] ks ops.size p hp with h1 | ⟨j, hj, hkd⟩
      · cases h1
      · exact ((I.wrote j _ _ (Array.getElem?_eq_getElem hj) hkd (hall j hj)).2.1 p.1 p.2 rfl).2
    · rcases stF_mem [] ks ops.size p hp with h1 | ⟨j, hj, hkd⟩
      · cases h1
      · rw [← ha]
        exact ((I.wrote j _ _ (Array.getElem?_eq_getElem hj) hkd (hall j hj)).2.2.1 p.1 p.2 rfl).2
  intro fuel
  induction fuel with
  | zero =>
    intro listed a w I hc
    have hr : Region.ready .any ops listed = [] := by
      rw [List.eq_nil_iff_forall_not_mem]
      intro k hk2
      obtain ⟨h0, o, ho, _⟩ := mem_ready.1 hk2
      have hks : k < listed.size := by rw [I.len]; exact (Array.getElem?_eq_some_iff.1 ho).1
      have hm : listed[k] ∈ listed.toList := by simp
      have := List.countP_eq_zero.1 (by omega : listed.toList.countP (fun b => !b) = 0) _ hm
      simp [hks] at h0
      simp [h0] at this
    exact ⟨hr, fin listed a w I hr⟩
  | succ fuel ih =>
    intro listed a w I hc
    refine ⟨fin listed a w I, fun k hk2 => ?_⟩
    obtain ⟨h0, o, ho, hr⟩ := mem_ready.1 hk2
    have hks : k < listed.size := by rw [I.len]; exact (Array.getElem?_eq_some_iff.1 ho).1
    obtain ⟨kd, hkd, hst⟩ := hSt.at_ k o (by simpa using ho)
    have h0k : listed.getD k false = false := by
      simp only [Array.getD_eq_getD_getElem?, Array.getElem?_eq_getElem hks, Option.getD_some] at h0 ⊢; exact h0
    have hsl : ∀ t, t ∈ o.looksAt ops → slot a t = slot (stA (fun _ => a0) ops.toList ks k (slot a)) t := fun t ht => slot_at R hn hk I ho hr h0k ht
    have hsz := stA_size (fun _ => a0) ops.toList ks k (slot a)
    have hev : execOp a.eval o = execOp (stA (fun _ => a0) ops.toList ks k (slot a)).eval o :=
      execOp_congr o (R.sel k o ho) fun x hx => by
        cases x with
        | tmp t => exact hsl t (List.mem_append_left _ (List.mem_filterMap.2 ⟨.tmp t, by simpa using hx, rfl⟩))
        | _ => rfl
    have hwn : Region.wanted o (yielded ops a.tmps) = Region.wanted o (yielded ops (stA (fun _ => a0) ops.toList ks k (slot a)).tmps) := by
      unfold Region.wanted
      cases hg : o.guard with
      | none => rfl
      | some gw =>
        obtain ⟨g, want⟩ := gw
        have : yielded ops a.tmps g = yielded ops (stA (fun _ => a0) ops.toList ks k (slot a)).tmps g := by
          unfold yielded
          cases ht : (ops[g]?).bind (·.dst) with
          | none => rfl
          | some t =>
            have hm : t ∈ o.looksAt ops := by simp [Oper.looksAt, hg, ht]
            have hs := hsl t hm
            have hsz' := I.size
            have e1 : a.tmps.size = (stA (fun _ => a0) ops.toList ks k (slot a)).tmps.size := by rw [hsz.1, hsz']
            simp only [slot] at hs
            have : a.tmps[t]? = (stA (fun _ => a0) ops.toList ks k (slot a)).tmps[t]? := by
              rcases Nat.lt_or_ge t a.tmps.size with h | h
              · have h2 : t < (stA (fun _ => a0) ops.toList ks k (slot a)).tmps.size := by rw [← e1]; exact h
                simpa [h, h2] using hs
              · rw [Array.getElem?_eq_none h, Array.getElem?_eq_none (by omega)]
            simp [this]
        simp only [this]
    have hcount : (listed.setIfInBounds k true).toList.countP (fun b => !b) ≤ fuel := by
      have hf : listed.toList[k]? = some false := by simp [hks] at h0; simp [hks, h0]
      have := countP_set hf
      rw [Array.toList_setIfInBounds]
      omega
    have hset : ∀ j, (listed.setIfInBounds k true).getD j false = true ↔ j = k ∨ listed.getD j false = true := by
      intro j
      by_cases hjk : j = k
      · subst hjk; simp [hks]
      · rw [getD_set_ne false (Ne.symm hjk)]; simp [hjk]
    -- an operation that is done waits for nothing that is not
    have notdone : ∀ (j : Nat) (oj : Oper), ops[j]? = some oj → listed.getD j false = true → ∀ u ∈ depsOf ops oj, o.dst ≠ some u := by
      intro j oj hoj hlj u hu hd'
      obtain ⟨e, he, hb, od, hod, hdu⟩ := mem_deps.1 hu
      have hek := R.once k o e.on od u ho hod hdu hd'
      have := I.closed j oj hoj hlj e he hb
      rw [hek, h0k] at this; cases this
    -- the state behind the operation
    have next : ∀ v w', S (slot a) o w w' → C (slot (a.put o.dst v)) w' → v = ent kd (slot (a.put o.dst v)) → (∀ d Φ, kd = .nd d Φ → o.dst = some d ∧ Φ v w') → (∀ t Φ, kd = .fx t Φ → t ∈ depsOf ops o ∧ Φ (slot (a.put o.dst v) t) w') → (∀ d x Φ, kd = .tp d x Φ → o.dst = some d ∧ Φ v w') →
        InvR C x0 Ψ ks ops a0 (listed.setIfInBounds k true) (a.put o.dst v) w' := by
      intro v w' hS' hC' hv hnd hfx htp
      have hin : ∀ d, o.dst = some d → d < a.tmps.size := fun d hd => by rw [I.size, hn]; exact R.inb k o d ho hd
      refine ⟨by simp [I.len], by rw [size_put, I.size], by rw [defers_put, I.defers], hC', fun hno => ?_, fun j oj hoj hlj e he hb => ?_, fun t ht => ?_, fun j oj kj hoj hkj hlj => ?_⟩
      · have hnx : o.dst ≠ some x0 := fun hx => by
          have := hno k o ho hx
          rw [(hset k).2 (.inl rfl)] at this; cases this
        refine hPsi o _ _ _ hnx (I.psi fun i oi hoi hx => ?_) I.cls hS'
        have := hno i oi hoi hx
        cases hb : listed.getD i false with
        | false => rfl
        | true => rw [(hset i).2 (.inr hb)] at this; cases this
      · rcases (hset j).1 hlj with rfl | hlk
        · rw [ho] at hoj; cases hoj
          exact (hset _).2 (.inr (hr e he hb))
        · exact (hset _).2 (.inr (I.closed j oj hoj hlk e he hb))
      · rw [slot_put_ne (ht k o ho ((hset k).2 (.inl rfl)))]
        exact I.other t (fun j oj hoj hlj => ht j oj hoj ((hset j).2 (.inr hlj)))
      · rcases (hset j).1 hlj with rfl | hlk
        · rw [ho] at hoj; cases hoj
          rw [hkd] at hkj; cases hkj
          refine ⟨fun d hd => ?_, fun d Φ hkn => ?_, hfx, fun d x Φ hkn => ?_⟩
          · have : slot (a.put o.dst v) d = v := by rw [hd]; exact slot_put_same (hin d hd)
            rw [this]; exact hv
          · obtain ⟨hd, hΦ⟩ := hnd d Φ hkn
            refine ⟨hd, ?_⟩
            have : slot (a.put o.dst v) d = v := by rw [hd]; exact slot_put_same (hin d hd)
            rw [this]; exact hΦ
          · obtain ⟨hd, hΦ⟩ := htp d x Φ hkn
            refine ⟨hd, fun _ => ?_⟩
            have : slot (a.put o.dst v) d = v := by rw [hd]; exact slot_put_same (hin d hd)
            rw [this]; exact hΦ
        · have hjk : j ≠ k := fun e => by rw [e, h0k] at hlk; cases hlk
          obtain ⟨h1, h2, h3, h4⟩ := I.wrote j oj kj hoj hkj hlk
          have hne : ∀ d, oj.dst = some d → o.dst ≠ some d := fun d hd hd' => hjk (R.once k o j oj d ho hoj hd hd')
          obtain ⟨kd', hkd', hst'⟩ := hSt.at_ j oj (by simpa using hoj)
          rw [hkj] at hkd'; cases hkd'
          refine ⟨fun d hd => ?_, fun d Φ hkn => ?_, fun t Φ hkn => ?_, fun d x Φ hkn => ?_⟩
          · rw [slot_put_ne (hne d hd), h1 d hd]
            cases kj with
            | un => rfl
            | det c => rfl
            | fx t Φ => rfl
            | nd d' Φ =>
              obtain ⟨hd', _⟩ := h2 d' Φ rfl
              exact (slot_put_ne (hne d' hd')).symm
            | tp d' x Φ =>
              obtain ⟨hd', _⟩ := h4 d' x Φ rfl
              exact (slot_put_ne (hne d' hd')).symm
          · obtain ⟨hd, hΦ⟩ := h2 d Φ hkn
            subst hkn
            refine ⟨hd, ?_⟩
            rw [slot_put_ne (hne d hd)]
            exact hst'.2.2.2 o (slot a) _ _ (hne d hd) (notdone j oj hoj hlk) hΦ I.cls hS'
          · obtain ⟨ht, hΦ⟩ := h3 t Φ hkn
            subst hkn
            refine ⟨ht, ?_⟩
            rw [slot_put_ne (notdone j oj hoj hlk t ht)]
            obtain ⟨Q, hq, hone, hkeep⟩ := hst'.2.2.2
            exact hkeep o (slot a) _ _ (by
              cases hQ : Q o with
              | false => rfl
              | true => exact absurd (hone j k oj o hoj ho hq hQ) hjk) hΦ I.cls hS'
          · obtain ⟨hd, hΦ⟩ := h4 d x Φ hkn
            subst hkn
            refine ⟨hd, fun hno => ?_⟩
            rw [slot_put_ne (hne d hd)]
            have hnx : o.dst ≠ some x := fun hx => by
              have := hno k o ho hx
              rw [(hset k).2 (.inl rfl)] at this; cases this
            refine hst'.2.2.2 o (slot a) _ _ (hne d hd) hnx (hΦ fun i oi hoi hx => ?_) I.cls hS'
            have := hno i oi hoi hx
            cases hb : listed.getD i false with
            | false => rfl
            | true => rw [(hset i).2 (.inr hb)] at this; cases this
    have hfacts : ∀ ts : List Nat, o.looksAt ops = ts → ∀ p ∈ stH [] ks k, p.1 ∈ ts → p.2 (slot a p.1) w := by
      intro ts hts p hp hpt
      rcases stH_mem [] ks k p hp with h1 | ⟨j, hj, hkj⟩
      · cases h1
      · have hjl : j < ops.size := by have := (Array.getElem?_eq_some_iff.1 ho).1; omega
        have hoj := Array.getElem?_eq_getElem hjl
        obtain ⟨kd', hkd', hst'⟩ := hSt.at_ j ops[j] (by rw [Array.getElem?_toList]; exact hoj)
        rw [hkj] at hkd'; cases hkd'
        have hd := hst'.2.2.1
        obtain ⟨e, he, hb, hej⟩ : ∃ e ∈ o.after, Region.binds .any e = true ∧ e.on = j := by
          rcases R.waits k o j _ p.1 ho hoj hd (by rw [hts]; exact hpt) with ⟨_, h⟩ | ⟨h, _⟩
          · exact h
          · omega
        have hl := hr e he hb
        rw [hej] at hl
        exact ((I.wrote j _ _ hoj hkj hl).2.1 p.1 p.2 rfl).2
    have htemp : ∀ ts : List Nat, o.looksAt ops = ts → ∀ p ∈ stT [] ks k, p.1 ∈ ts → o.dst = some p.2.1 → p.2.2 (slot a p.1) w := by
      intro ts hts p hp hpt hpx
      rcases stT_mem [] ks k p hp with h1 | ⟨j, hj, hkj⟩
      · cases h1
      · have hjl : j < ops.size := by have := (Array.getElem?_eq_some_iff.1 ho).1; omega
        have hoj := Array.getElem?_eq_getElem hjl
        obtain ⟨kd', hkd', hst'⟩ := hSt.at_ j ops[j] (by rw [Array.getElem?_toList]; exact hoj)
        rw [hkj] at hkd'; cases hkd'
        have hd := hst'.2.2.1
        obtain ⟨e, he, hb, hej⟩ : ∃ e ∈ o.after, Region.binds .any e = true ∧ e.on = j := by
          rcases R.waits k o j _ p.1 ho hoj hd (by rw [hts]; exact hpt) with ⟨_, h⟩ | ⟨h, _⟩
          · exact h
          · omega
        have hl := hr e he hb
        rw [hej] at hl
        refine ((I.wrote j _ _ hoj hkj hl).2.2.2 p.1 p.2.1 p.2.2 rfl).2 fun i oi hoi hx => ?_
        have : i = k := R.once k o i oi p.2.1 ho hoi hx hpx
        rw [this]; exact h0k
    have hpsi : o.dst = some x0 → Ψ w := fun hx => I.psi fun i oi hoi hx' => by
      have : i = k := R.once k o i oi x0 ho hoi hx' hx
      rw [this]; exact h0k
    have hinb : ∀ t, o.dst = some t → t < a.tmps.size := fun d hd => by rw [I.size, hn]; exact R.inb k o d ho hd
    unfold wpOp
    simp only [ho]
    cases kd with
    | un =>
      have : Region.wanted o (yielded ops a.tmps) = false := by rw [hwn]; exact hst.1 _
      simp only [this, Bool.false_eq_true, if_false]
      exact ih _ _ _ (next undef w (hS _ o w) (by rw [slot_upd hinb]; exact hst.2 _ _ I.cls) rfl (fun d Φ h => by cases h) (fun t Φ h => by cases h) (fun d x Φ h => by cases h)) hcount
    | det c =>
      obtain ⟨hw, ts, hts, hg⟩ := hst
      have : Region.wanted o (yielded ops a.tmps) = true := by rw [hwn]; exact hw _
      simp only [this, if_true]
      refine .inl ((hg (slot a) w I.cls (hfacts ts hts) ⟨htemp ts hts, hpsi⟩).wp hev fun v w' ⟨hv, hS', hC'⟩ => ?_)
      exact ih _ _ _ (next v w' hS' (by rw [slot_upd hinb]; exact hC') hv (fun d Φ h => by cases h) (fun t Φ h => by cases h) (fun d x Φ h => by cases h)) hcount
    | nd d Φ =>
      obtain ⟨hw, ⟨ts, hts, hg⟩, hd, _⟩ := hst
      have : Region.wanted o (yielded ops a.tmps) = true := by rw [hwn]; exact hw _
      simp only [this, if_true]
      refine .inl ((hg (slot a) w I.cls (hfacts ts hts) ⟨htemp ts hts, hpsi⟩).wp hev fun v w' ⟨hv, hS', hC'⟩ => ?_)
      refine ih _ _ _ (next v w' hS' (by rw [slot_upd hinb]; exact hC') ?_ (fun d' Φ' h => by cases h; exact ⟨hd, hv⟩) (fun t Φ h => by cases h) (fun d x Φ h => by cases h)) hcount
      show v = slot (a.put o.dst v) d
      rw [hd]
      exact (slot_put_same (by rw [I.size, hn]; exact R.inb k o d ho hd)).symm
    | tp d x Φ =>
      obtain ⟨hw, ⟨ts, hts, hg⟩, hd, _⟩ := hst
      have : Region.wanted o (yielded ops a.tmps) = true := by rw [hwn]; exact hw _
      simp only [this, if_true]
      refine .inl ((hg (slot a) w I.cls (hfacts ts hts) ⟨htemp ts hts, hpsi⟩).wp hev fun v w' ⟨hv, hS', hC'⟩ => ?_)
      refine ih _ _ _ (next v w' hS' (by rw [slot_upd hinb]; exact hC') ?_ (fun d' Φ' h => by cases h) (fun t Φ h => by cases h) (fun d' x' Φ' h => by cases h; exact ⟨hd, hv⟩)) hcount
      show v = slot (a.put o.dst v) d
      rw [hd]
      exact (slot_put_same (by rw [I.size, hn]; exact R.inb k o d ho hd)).symm
    | fx t Φ =>
      obtain ⟨hw, ⟨ts, hts, ht, htd, hg⟩, hd, _⟩ := hst
      have : Region.wanted o (yielded ops a.tmps) = true := by rw [hwn]; exact hw _
      simp only [this, if_true]
      refine .inl ((hg (slot a) w I.cls (hfacts ts hts) ⟨htemp ts hts, hpsi⟩).wp hev fun v w' ⟨hv, hS', hC'⟩ => ?_)
      have e : a.put o.dst v = a := by rw [hd]; rfl
      have e2 : a.put o.dst undef = a := by rw [hd]; rfl
      rw [e]
      have ht' : t ∈ o.looksAt ops := by rw [hts]; exact ht
      have hn := next undef w' hS' (by rw [e2]; exact hC') rfl (fun d' Φ' h => by cases h) (fun t' Φ' h => by
        cases h
        rw [e2]
        refine ⟨htd, ?_⟩
        rw [hsl t ht']
        exact hv) (fun d x Φ h => by cases h)
      rw [e2] at hn
      exact ih _ _ _ hn hcount

/-- A REGION THAT DRAWS ITS ORDER, WALKED ONCE; Ψ holds till the operation that writes slot x0. -/
theorem wp_walkT {id : Nat} {Q : Exit → Act → World → Prop} {a0 : Act} {w0 : World} (n : Nat) (x0 : Nat) (Ψ : World → Prop) (hm : P.follows .mixedOrders = true) (hB : regB ops n = true) (hn : a0.tmps.size = n) (hS : ∀ σ o w, S σ o w w) (hC : C (slot a0) w0.drew)
    (hPsi : ∀ (o' : Oper) σ w w', o'.dst ≠ some x0 → Ψ w → C σ w → S σ o' w w' → Ψ w') (h0 : Ψ w0.drew)
    (h : WalkR P ops C S x0 Ψ (Q .normal) ops.toList (fun _ => a0) [] [] []) : (Code.region id ops true).wp P Q a0 w0 := by
  obtain ⟨ks, hSt⟩ := h
  refine wp_region_any hm (walk_sound (regB_ok hB) hn hS hPsi hSt ops.size (Array.replicate ops.size false) a0 _ ?_ ?_)
  · exact ⟨by simp, rfl, rfl, hC, fun _ => h0, fun j o ho hl => by simp [Array.getElem?_replicate] at hl; split at hl <;> simp at hl, fun _ _ => rfl, fun j o kd ho hk hl => by simp [Array.getElem?_replicate] at hl; split at hl <;> simp at hl⟩
  · simp [List.countP_replicate]

theorem wp_walk {id : Nat} {Q : Exit → Act → World → Prop} {a0 : Act} {w0 : World} (n : Nat) (hm : P.follows .mixedOrders = true) (hB : regB ops n = true) (hn : a0.tmps.size = n) (hS : ∀ σ o w, S σ o w w) (hC : C (slot a0) w0.drew)
    (h : WalkR P ops C S 0 (fun _ => True) (Q .normal) ops.toList (fun _ => a0) [] [] []) : (Code.region id ops true).wp P Q a0 w0 :=
  wp_walkT n 0 (fun _ => True) hm hB hn hS hC (fun _ _ _ _ _ _ _ _ => trivial) trivial h

/-! ### The moves -/
variable {fs : List (Nat × Fact)} {us : List (Nat × Nat × Fact)}
theorem WalkR.nil {A : (Nat → Value) → Act} {hs : List (Nat × Fact)} (h : ∀ ρ w, C ρ w → (∀ p ∈ hs, p.2 (ρ p.1) w) → (∀ p ∈ fs, p.2 (slot (A ρ) p.1) w) → QN (A ρ) w) : WalkR P ops C S x0 Ψ QN [] A hs us fs := ⟨[], h⟩
theorem WalkR.un {o : Oper} {l : List Oper} {A : (Nat → Value) → Act} {hs : List (Nat × Fact)} (hw : ∀ ρ, Region.wanted o (yielded ops (A ρ).tmps) = false) (hu : ∀ ρ w, C ρ w → C (upd ρ o.dst undef) w) (h : WalkR P ops C S x0 Ψ QN l (fun ρ => (A ρ).put o.dst undef) hs us fs) : WalkR P ops C S x0 Ψ QN (o :: l) A hs us fs :=
  h.elim fun ks hk => ⟨.un :: ks, ⟨hw, hu⟩, hk⟩
theorem WalkR.det {o : Oper} {l : List Oper} {A : (Nat → Value) → Act} {hs : List (Nat × Fact)} {c : Value} {ts : List Nat} (hw : ∀ ρ, Region.wanted o (yielded ops (A ρ).tmps) = true) (hts : o.looksAt ops = ts)
    (hg : ∀ ρ w, C ρ w → (∀ p ∈ hs, p.1 ∈ ts → p.2 (ρ p.1) w) → ((∀ p ∈ us, p.1 ∈ ts → o.dst = some p.2.1 → p.2.2 (ρ p.1) w) ∧ (o.dst = some x0 → Ψ w)) → gives P o (A ρ) w (fun v w' => v = c ∧ S ρ o w w' ∧ C (upd ρ o.dst v) w')) (h : WalkR P ops C S x0 Ψ QN l (fun ρ => (A ρ).put o.dst c) hs us fs) : WalkR P ops C S x0 Ψ QN (o :: l) A hs us fs :=
  h.elim fun ks hk => ⟨.det c :: ks, ⟨hw, ts, hts, hg⟩, hk⟩
theorem WalkR.nd {o : Oper} {l : List Oper} {A : (Nat → Value) → Act} {hs : List (Nat × Fact)} {d : Nat} (Φ : Fact) {ts : List Nat} (hw : ∀ ρ, Region.wanted o (yielded ops (A ρ).tmps) = true) (hts : o.looksAt ops = ts) (hd : o.dst = some d) (hst : ∀ (o' : Oper) σ w w', o'.dst ≠ some d → (∀ u ∈ depsOf ops o, o'.dst ≠ some u) → Φ (σ d) w → C σ w → S σ o' w w' → Φ (σ d) w')
    (hg : ∀ ρ w, C ρ w → (∀ p ∈ hs, p.1 ∈ ts → p.2 (ρ p.1) w) → ((∀ p ∈ us, p.1 ∈ ts → o.dst = some p.2.1 → p.2.2 (ρ p.1) w) ∧ (o.dst = some x0 → Ψ w)) → gives P o (A ρ) w (fun v w' => Φ v w' ∧ S ρ o w w' ∧ C (upd ρ o.dst v) w')) (h : WalkR P ops C S x0 Ψ QN l (fun ρ => (A ρ).put o.dst (ρ d)) ((d, Φ) :: hs) us fs) : WalkR P ops C S x0 Ψ QN (o :: l) A hs us fs :=
  h.elim fun ks hk => ⟨.nd d Φ :: ks, ⟨hw, ⟨ts, hts, hg⟩, hd, hst⟩, hk⟩
theorem WalkR.tp {o : Oper} {l : List Oper} {A : (Nat → Value) → Act} {hs : List (Nat × Fact)} {d : Nat} (x : Nat) (Φ : Fact) {ts : List Nat} (hw : ∀ ρ, Region.wanted o (yielded ops (A ρ).tmps) = true) (hts : o.looksAt ops = ts) (hd : o.dst = some d) (hst : ∀ (o' : Oper) σ w w', o'.dst ≠ some d → o'.dst ≠ some x → Φ (σ d) w → C σ w → S σ o' w w' → Φ (σ d) w')
    (hg : ∀ ρ w, C ρ w → (∀ p ∈ hs, p.1 ∈ ts → p.2 (ρ p.1) w) → ((∀ p ∈ us, p.1 ∈ ts → o.dst = some p.2.1 → p.2.2 (ρ p.1) w) ∧ (o.dst = some x0 → Ψ w)) → gives P o (A ρ) w (fun v w' => Φ v w' ∧ S ρ o w w' ∧ C (upd ρ o.dst v) w')) (h : WalkR P ops C S x0 Ψ QN l (fun ρ => (A ρ).put o.dst (ρ d)) hs ((d, x, Φ) :: us) fs) : WalkR P ops C S x0 Ψ QN (o :: l) A hs us fs :=
  h.elim fun ks hk => ⟨.tp d x Φ :: ks, ⟨hw, ⟨ts, hts, hg⟩, hd, hst⟩, hk⟩
theorem WalkR.fx {o : Oper} {l : List Oper} {A : (Nat → Value) → Act} {hs : List (Nat × Fact)} (t : Nat) (Φ : Fact) {ts : List Nat} (hw : ∀ ρ, Region.wanted o (yielded ops (A ρ).tmps) = true) (hts : o.looksAt ops = ts) (ht : t ∈ ts) (htd : t ∈ depsOf ops o) (hd : o.dst = none) (Q : Oper → Bool) (hQ : Q o = true) (hc : ops.toList.countP Q ≤ 1) (hst : ∀ (o' : Oper) σ w w', Q o' = false → Φ (σ t) w → C σ w → S σ o' w w' → Φ (σ t) w')
    (hg : ∀ ρ w, C ρ w → (∀ p ∈ hs, p.1 ∈ ts → p.2 (ρ p.1) w) → ((∀ p ∈ us, p.1 ∈ ts → o.dst = some p.2.1 → p.2.2 (ρ p.1) w) ∧ (o.dst = some x0 → Ψ w)) → gives P o (A ρ) w (fun _ w' => Φ (slot (A ρ) t) w' ∧ S ρ o w w' ∧ C ρ w')) (h : WalkR P ops C S x0 Ψ QN l A hs us ((t, Φ) :: fs)) : WalkR P ops C S x0 Ψ QN (o :: l) A hs us fs :=
  h.elim fun ks hk => ⟨.fx t Φ :: ks, ⟨hw, ⟨ts, hts, ht, htd, hg⟩, hd, Q, hQ, fun k k' o' o'' h1 h2 => count_one hc k k' o' o'' (by simpa using h1) (by simpa using h2), hst⟩, by rw [show nextA A o (.fx t Φ) = A from funext fun ρ => by simp [nextA, hd, Act.put]]; exact hk⟩

end

end R4
end Go.Proofs.Ytjjipkgconmfcaa

namespace Go.Proofs.Ytjjipkgconmfcaa
namespace R6
open R4 (upd slot_upd)

/-- Operation i waits for operation j, in so many steps. -/
def needsI (ops : Array Oper) : Nat → Nat → Nat → Bool
  | 0, _, _ => false
  | f + 1, i, j =>
    match ops[i]? with
    | none => false
    | some o => o.after.any fun e => Region.binds .any e && (e.on == j || needsI ops f e.on j)

/-- What an operation knows of the others: it isn't done, nor are those that wait for it; those that it waits for are. -/
structure Knows (ops : Array Oper) (k : Nat) (D : Nat → Bool) : Prop where
  me : D k = false
  pre : ∀ j, needsI ops ops.size k j = true → D j = true
  post : ∀ j, needsI ops ops.size j k = true → D j = false

theorem needsI_done {ops : Array Oper} {D : Nat → Bool} (hc : ∀ (j : Nat) (o : Oper), ops[j]? = some o → D j = true → ∀ e ∈ o.after, Region.binds .any e = true → D e.on = true) :
    ∀ (f i j : Nat), D i = true → needsI ops f i j = true → D j = true
  | 0, _, _, _, h => by simp [needsI] at h
  | f + 1, i, j, hi, h => by
    unfold needsI at h
    split at h
    · cases h
    · rename_i o ho
      obtain ⟨e, he, hb⟩ := Array.any_eq_true'.1 h
      simp only [Bool.and_eq_true, Bool.or_eq_true, beq_iff_eq] at hb
      have hle := hc i o ho hi e he hb.1
      rcases hb.2 with h1 | h1
      · rw [← h1]; exact hle
      · exact needsI_done hc f e.on j hle h1
theorem needsI_pre {ops : Array Oper} {D : Nat → Bool} (hc : ∀ (j : Nat) (o : Oper), ops[j]? = some o → D j = true → ∀ e ∈ o.after, Region.binds .any e = true → D e.on = true)
    {k : Nat} {o : Oper} (ho : ops[k]? = some o) (hr : ∀ e ∈ o.after, Region.binds .any e = true → D e.on = true) : ∀ (f j : Nat), needsI ops f k j = true → D j = true
  | 0, _, h => by simp [needsI] at h
  | f + 1, j, h => by
    unfold needsI at h
    rw [ho] at h
    obtain ⟨e, he, hb⟩ := Array.any_eq_true'.1 h
    simp only [Bool.and_eq_true, Bool.or_eq_true, beq_iff_eq] at hb
    have hle := hr e he hb.1
    rcases hb.2 with h1 | h1
    · rw [← h1]; exact hle
    · exact needsI_done hc f e.on j hle h1

/-- Operation k waits for one that writes slot u. -/
def ancB (ops : Array Oper) (k u : Nat) : Bool :=
  (List.range ops.size).any fun j => needsI ops ops.size k j && (match ops[j]? with | some oj => oj.dst == some u | none => false)
theorem ancB_ok {ops : Array Oper} {k u : Nat} (h : ancB ops k u = true) : ∃ (j : Nat) (oj : Oper), needsI ops ops.size k j = true ∧ ops[j]? = some oj ∧ oj.dst = some u := by
  simp only [ancB, List.any_eq_true, List.mem_range, Bool.and_eq_true] at h
  obtain ⟨j, hj, h1, h2⟩ := h
  split at h2
  · rename_i oj hoj
    exact ⟨j, oj, h1, hoj, by simpa using h2⟩
  · cases h2

/-- One more is done. -/
def done (D : Nat → Bool) (k : Nat) : Nat → Bool := fun j => D j || decide (j = k)
theorem done_ne {D : Nat → Bool} {k j : Nat} (h : j ≠ k) : done D k j = D j := by simp [done, h]
theorem done_me {D : Nat → Bool} {k : Nat} : done D k k = true := by simp [done]
theorem upd_ne {ρ : Nat → Value} {d : Option Nat} {v : Value} {t : Nat} (h : d ≠ some t) : upd ρ d v t = ρ t := by unfold upd; rw [if_neg h]
theorem upd_me {ρ : Nat → Value} {v : Value} {t : Nat} : upd ρ (some t) v t = v := by unfold upd; rw [if_pos rfl]

section
variable (P : Program) (ops : Array Oper) (C : (Nat → Bool) → (Nat → Value) → World → Prop) (QN : Act → World → Prop)

/-- How an operation is met: it isn't wanted; it yields one value; it yields some value; it yields a value that slot u tells. -/
inductive Kd where
  | un
  | det (c : Value)
  | nd (d : Nat)
  | fn (u : Nat) (F : Value → Value)
  | mb (d : Nat)

def ent : Kd → (Nat → Value) → Value
  | .un, _ => undef
  | .det c, _ => c
  | .nd d, ρ => ρ d
  | .fn u F, ρ => F (ρ u)
  | .mb d, ρ => ρ d
def nextA (A : (Nat → Value) → Act) (o : Oper) (kd : Kd) : (Nat → Value) → Act := fun ρ => (A ρ).put o.dst (ent kd ρ)

/-- What is owed for one operation. -/
def StepOk (k : Nat) (o : Oper) (kd : Kd) (A : (Nat → Value) → Act) : Prop :=
  match kd with
  | .un => (∀ ρ, Region.wanted o (yielded ops (A ρ).tmps) = false) ∧ ∀ D ρ w, Knows ops k D → C D ρ w → C (done D k) (upd ρ o.dst undef) w
  | .det c => (∀ ρ, Region.wanted o (yielded ops (A ρ).tmps) = true) ∧ ∀ D ρ w, Knows ops k D → C D ρ w → gives P o (A ρ) w (fun v w' => v = c ∧ C (done D k) (upd ρ o.dst v) w')
  | .nd d => (∀ ρ, Region.wanted o (yielded ops (A ρ).tmps) = true) ∧ (∀ D ρ w, Knows ops k D → C D ρ w → gives P o (A ρ) w (fun v w' => C (done D k) (upd ρ o.dst v) w')) ∧ o.dst = some d
  | .fn u F => (∀ ρ, Region.wanted o (yielded ops (A ρ).tmps) = true) ∧ ancB ops k u = true ∧ ∀ D ρ w, Knows ops k D → C D ρ w → gives P o (A ρ) w (fun v w' => v = F (ρ u) ∧ C (done D k) (upd ρ o.dst v) w')
  | .mb d => (∀ D ρ w, Knows ops k D → C D ρ w → (Region.wanted o (yielded ops (A ρ).tmps) = true → gives P o (A ρ) w (fun v w' => C (done D k) (upd ρ o.dst v) w')) ∧ (Region.wanted o (yielded ops (A ρ).tmps) = false → C (done D k) (upd ρ o.dst undef) w)) ∧ o.dst = some d

/-- The walk in the text's order. -/
def Steps : Nat → List Oper → List Kd → ((Nat → Value) → Act) → Prop
  | k, [], [], A => ∀ D ρ w, (∀ j, j < k → D j = true) → C D ρ w → QN (A ρ) w
  | k, o :: l, kd :: ks, A => StepOk P ops C k o kd A ∧ Steps (k + 1) l ks (nextA A o kd)
  | _, _, _, _ => False

/-- .. without its list: what a proof goes through. -/
def WalkR (k : Nat) (l : List Oper) (A : (Nat → Value) → Act) : Prop := ∃ ks, Steps P ops C QN k l ks A

def stA (A : (Nat → Value) → Act) : List Oper → List Kd → Nat → (Nat → Value) → Act
  | o :: l, kd :: ks, i + 1 => stA (nextA A o kd) l ks i
  | _, _, _ => A

variable {P ops C QN}

theorem Steps.at_ : ∀ {l : List Oper} {ks : List Kd} {A : (Nat → Value) → Act} {k : Nat}, Steps P ops C QN k l ks A → ∀ i o, l[i]? = some o → ∃ kd, ks[i]? = some kd ∧ StepOk P ops C (k + i) o kd (stA A l ks i)
  | o :: l, kd :: ks, A, k, h, 0, o', ho => by
    simp at ho; subst ho
    exact ⟨kd, rfl, h.1⟩
  | o :: l, kd :: ks, A, k, h, i + 1, o', ho => by
    have := Steps.at_ h.2 i o' (by simpa using ho)
    rwa [show k + 1 + i = k + (i + 1) by omega] at this
  | [], _, _, _, _, _, _, ho => by simp at ho
  | _ :: _, [], _, _, h, _, _, _ => h.elim

theorem Steps.end_ : ∀ {l : List Oper} {ks : List Kd} {A : (Nat → Value) → Act} {k : Nat}, Steps P ops C QN k l ks A →
    ks.length = l.length ∧ ∀ D ρ w, (∀ j, j < k + l.length → D j = true) → C D ρ w → QN (stA A l ks l.length ρ) w
  | [], [], A, k, h => ⟨rfl, h⟩
  | o :: l, kd :: ks, A, k, h => by
    obtain ⟨h1, h2⟩ := Steps.end_ h.2
    refine ⟨by simp [h1], fun D ρ w hD hC => h2 D ρ w (fun j hj => hD j ?_) hC⟩
    simp only [List.length_cons]
    omega
  | [], _ :: _, _, _, h => h.elim
  | _ :: _, [], _, _, h => h.elim

theorem stA_size : ∀ (A : (Nat → Value) → Act) (l : List Oper) (ks : List Kd) (i : Nat) (ρ : Nat → Value), (stA A l ks i ρ).tmps.size = (A ρ).tmps.size ∧ (stA A l ks i ρ).defers = (A ρ).defers
  | A, o :: l, kd :: ks, i + 1, ρ => by
    have := stA_size (nextA A o kd) l ks i ρ
    simpa [stA, nextA, size_put, defers_put] using this
  | A, [], _, _, ρ => by simp [stA]
  | A, _ :: _, [], _, ρ => by simp [stA]
  | A, _ :: _, _ :: _, 0, ρ => by simp [stA]

/-- A slot that none of the first i operations writes. -/
theorem stA_other : ∀ (A : (Nat → Value) → Act) (l : List Oper) (ks : List Kd) (i : Nat) (ρ : Nat → Value) (t : Nat), (∀ j o, j < i → l[j]? = some o → o.dst ≠ some t) → slot (stA A l ks i ρ) t = slot (A ρ) t
  | A, o :: l, kd :: ks, i + 1, ρ, t, h => by
    rw [show stA A (o :: l) (kd :: ks) (i + 1) ρ = stA (nextA A o kd) l ks i ρ from rfl,
      stA_other (nextA A o kd) l ks i ρ t (fun j o' hj ho => h (j + 1) o' (by omega) (by simpa using ho))]
    exact slot_put_ne (h 0 o (by omega) rfl)
  | A, [], _, _, ρ, t, _ => by simp [stA]
  | A, _ :: _, [], _, ρ, t, _ => by simp [stA]
  | A, _ :: _, _ :: _, 0, ρ, t, _ => by simp [stA]

/-- A slot that one of them writes, and none after it. -/
theorem stA_wrote : ∀ (A : (Nat → Value) → Act) (l : List Oper) (ks : List Kd) (i : Nat) (ρ : Nat → Value) (t j : Nat) (o : Oper) (kd : Kd), j < i → l[j]? = some o → ks[j]? = some kd → o.dst = some t → t < (A ρ).tmps.size →
    (∀ j' o', j < j' → j' < i → l[j']? = some o' → o'.dst ≠ some t) → slot (stA A l ks i ρ) t = ent kd ρ
  | A, o :: l, kd :: ks, i + 1, ρ, t, 0, o', kd', hj, ho, hk, hd, ht, h => by
    simp at ho hk; subst ho hk
    rw [show stA A (o :: l) (kd :: ks) (i + 1) ρ = stA (nextA A o kd) l ks i ρ from rfl,
      stA_other (nextA A o kd) l ks i ρ t (fun j o' hj ho => h (j + 1) o' (by omega) (by omega) (by simpa using ho))]
    show slot ((A ρ).put o.dst (ent kd ρ)) t = _
    rw [hd]; exact slot_put_same ht
  | A, o :: l, kd :: ks, i + 1, ρ, t, j + 1, o', kd', hj, ho, hk, hd, ht, h =>
    stA_wrote (nextA A o kd) l ks i ρ t j o' kd' (by omega) (by simpa using ho) (by simpa using hk) hd (by simpa [nextA, size_put] using ht) (fun j' o'' h1 h2 h3 => h (j' + 1) o'' (by omega) (by omega) (by simpa using h3))
  | A, [], _, _, ρ, t, j, o, kd, _, ho, _, _, _, _ => by simp at ho
  | A, _ :: _, [], _, ρ, t, j, o, kd, _, _, hk, _, _, _ => by simp at hk
  | A, _ :: _, _ :: _, 0, ρ, t, j, o, kd, hj, _, _, _, _, _ => by omega

/-- What holds on the way: of the operations that have come up. -/
structure InvR (C : (Nat → Bool) → (Nat → Value) → World → Prop) (ks : List Kd) (ops : Array Oper) (a0 : Act) (listed : Array Bool) (a : Act) (w : World) : Prop where
  len : listed.size = ops.size
  size : a.tmps.size = a0.tmps.size
  defers : a.defers = a0.defers
  cls : C (fun j => listed.getD j false) (slot a) w
  closed : ∀ (j : Nat) (o : Oper), ops[j]? = some o → listed.getD j false = true → ∀ e ∈ o.after, Region.binds .any e = true → listed.getD e.on false = true
  other : ∀ t, (∀ (j : Nat) (o : Oper), ops[j]? = some o → listed.getD j false = true → o.dst ≠ some t) → slot a t = slot a0 t
  wrote : ∀ (j : Nat) (o : Oper) (kd : Kd), ops[j]? = some o → ks[j]? = some kd → listed.getD j false = true → ∀ d, o.dst = some d → slot a d = ent kd (slot a)

theorem slot_at {n : Nat} {a0 : Act} {listed : Array Bool} {a : Act} {w : World} {ks : List Kd} (R : R4.RegOk n ops) (hn : a0.tmps.size = n) (hk : ks.length = ops.size) (I : InvR C ks ops a0 listed a w) {k : Nat} {o : Oper} (ho : ops[k]? = some o)
    (hr : ∀ e ∈ o.after, Region.binds .any e = true → listed.getD e.on false = true) (h0 : listed.getD k false = false) {t : Nat} (ht : t ∈ o.looksAt ops) :
    slot a t = slot (stA (fun _ => a0) ops.toList ks k (slot a)) t := by
  by_cases hw : ∃ (j : Nat) (oj : Oper), ops[j]? = some oj ∧ oj.dst = some t
  · obtain ⟨j, oj, hoj, hd⟩ := hw
    rcases R.waits k o j oj t ho hoj hd ht with ⟨hjk, e, he, hb, rfl⟩ | ⟨hjk, e, he, hb, hek⟩
    · have hl := hr e he hb
      have hjs : e.on < ks.length := by rw [hk]; exact (Array.getElem?_eq_some_iff.1 hoj).1
      have hkd : ks[e.on]? = some ks[e.on] := List.getElem?_eq_getElem hjs
      rw [stA_wrote (fun _ => a0) ops.toList ks k (slot a) t e.on oj _ hjk (by simpa using hoj) hkd hd (by rw [hn]; exact R.inb _ _ _ hoj hd)
        (fun j' o' h1 h2 h3 h4 => by
          have := R.once e.on oj j' o' t hoj (by simpa using h3) h4 hd
          omega)]
      exact I.wrote e.on oj _ hoj hkd hl t hd
    · rw [stA_other (fun _ => a0) ops.toList ks k (slot a) t (fun j' oj' hj' hoj' hd' => by
        have := R.once j oj j' oj' t hoj (by simpa using hoj') hd' hd
        omega)]
      refine I.other t (fun j' oj' hoj' hl hd' => ?_)
      have hjj := R.once j oj j' oj' t hoj hoj' hd' hd
      subst hjj
      have := I.closed j' oj hoj hl e he hb
      rw [hek, h0] at this; cases this
  · rw [stA_other (fun _ => a0) ops.toList ks k (slot a) t (fun j oj _ hoj hd => hw ⟨j, oj, by simpa using hoj, hd⟩)]
    exact I.other t (fun j oj hoj _ hd => hw ⟨j, oj, hoj, hd⟩)

theorem walk_sound {n : Nat} {a0 : Act} {ks : List Kd} {Q : Exit → Act → World → Prop} (R : R4.RegOk n ops) (hn : a0.tmps.size = n) (hSt : Steps P ops C (Q .normal) 0 ops.toList ks (fun _ => a0)) :
    ∀ (fuel : Nat) (listed : Array Bool) (a : Act) (w : World), InvR C ks ops a0 listed a w → listed.toList.countP (fun b => !b) ≤ fuel → wpAny P .any ops Q fuel listed a w := by
  obtain ⟨hk, hend⟩ := hSt.end_
  simp only [Array.length_toList] at hk hend
  -- all have come up: the state is the walk's last one
  have fin : ∀ (listed : Array Bool) (a : Act) (w : World), InvR C ks ops a0 listed a w → Region.ready .any ops listed = [] → Q .normal a w := by
    intro listed a w I hr
    have hall : ∀ k, k < ops.size → listed.getD k false = true := by
      intro k
      induction k using Nat.strongRecOn with
      | _ k ih =>
        intro hlt
        have hks : k < listed.size := by rw [I.len]; exact hlt
        cases hb : listed.getD k false with
        | true => rfl
        | false =>
          exfalso
          have hk2 : k ∈ Region.ready .any ops listed := by
            refine mem_ready.2 ⟨by simpa [hks] using hb, ops[k], Array.getElem?_eq_getElem hlt, fun e he hbi => ?_⟩
            have hlt2 := R.back k _ (Array.getElem?_eq_getElem hlt) e he hbi
            exact ih e.on hlt2 (by omega)
          rw [hr] at hk2; cases hk2
    have ha : a = stA (fun _ => a0) ops.toList ks ops.size (slot a) := by
      have hsz := stA_size (fun _ => a0) ops.toList ks ops.size (slot a)
      have hslot : ∀ t, slot a t = slot (stA (fun _ => a0) ops.toList ks ops.size (slot a)) t := by
        intro t
        by_cases hw : ∃ (j : Nat) (oj : Oper), ops[j]? = some oj ∧ oj.dst = some t
        · obtain ⟨j, oj, hoj, hd⟩ := hw
          have hj := (Array.getElem?_eq_some_iff.1 hoj).1
          have hkd : ks[j]? = some ks[j] := List.getElem?_eq_getElem (by omega)
          rw [stA_wrote (fun _ => a0) ops.toList ks ops.size (slot a) t j oj _ hj (by simpa using hoj) hkd hd (by rw [hn]; exact R.inb _ _ _ hoj hd)
            (fun j' o' h1 h2 h3 h4 => by
              have := R.once j oj j' o' t hoj (by simpa using h3) h4 hd
              omega)]
          exact I.wrote j oj _ hoj hkd (hall j hj) t hd
        · rw [stA_other (fun _ => a0) ops.toList ks ops.size (slot a) t (fun j oj _ hoj hd => hw ⟨j, oj, by simpa using hoj, hd⟩)]
          exact I.other t (fun j oj hoj _ hd => hw ⟨j, oj, hoj, hd⟩)
      obtain ⟨h1, h2⟩ := hsz
      have hd := I.defers
      have hs := I.size
      generalize stA (fun _ => a0) ops.toList ks ops.size (slot a) = b at *
      obtain ⟨ta, da⟩ := a
      obtain ⟨tb, db⟩ := b
      simp only [Act.mk.injEq] at *
      refine ⟨?_, by rw [hd, h2]⟩
      apply Array.ext
      · omega
      · intro i hi1 hi2
        have := hslot i
        simp only [slot] at this
        simpa [hi1, hi2] using this
    rw [ha]
    refine hend _ _ w (fun j hj => hall j (by omega)) I.cls
  intro fuel
  induction fuel with
  | zero =>
    intro listed a w I hc
    have hr : Region.ready .any ops listed = [] := by
      rw [List.eq_nil_iff_forall_not_mem]
      intro k hk2
      obtain ⟨h0, o, ho, _⟩ := mem_ready.1 hk2
      have hks : k < listed.size := by rw [I.len]; exact (Array.getElem?_eq_some_iff.1 ho).1
      have hm : listed[k] ∈ listed.toList := by simp
      have := List.countP_eq_zero.1 (by omega : listed.toList.countP (fun b => !b) = 0) _ hm
      simp [hks] at h0
      simp [h0] at this
    exact ⟨hr, fin listed a w I hr⟩
  | succ fuel ih =>
    intro listed a w I hc
    refine ⟨fin listed a w I, fun k hk2 => ?_⟩
    obtain ⟨h0, o, ho, hr⟩ := mem_ready.1 hk2
    have hks : k < listed.size := by rw [I.len]; exact (Array.getElem?_eq_some_iff.1 ho).1
    obtain ⟨kd, hkd, hst⟩ := hSt.at_ k o (by simpa using ho)
    rw [Nat.zero_add] at hst
    have h0k : listed.getD k false = false := by
      simp only [Array.getD_eq_getD_getElem?, Array.getElem?_eq_getElem hks, Option.getD_some] at h0 ⊢; exact h0
    have hsl : ∀ t, t ∈ o.looksAt ops → slot a t = slot (stA (fun _ => a0) ops.toList ks k (slot a)) t := fun t ht => slot_at R hn hk I ho hr h0k ht
    have hsz := stA_size (fun _ => a0) ops.toList ks k (slot a)
    have hev : execOp a.eval o = execOp (stA (fun _ => a0) ops.toList ks k (slot a)).eval o :=
      execOp_congr o (R.sel k o ho) fun x hx => by
        cases x with
        | tmp t => exact hsl t (List.mem_append_left _ (List.mem_filterMap.2 ⟨.tmp t, by simpa using hx, rfl⟩))
        | _ => rfl
    have hwn : Region.wanted o (yielded ops a.tmps) = Region.wanted o (yielded ops (stA (fun _ => a0) ops.toList ks k (slot a)).tmps) := by
      unfold Region.wanted
      cases hg : o.guard with
      | none => rfl
      | some gw =>
        obtain ⟨g, want⟩ := gw
        have : yielded ops a.tmps g = yielded ops (stA (fun _ => a0) ops.toList ks k (slot a)).tmps g := by
          unfold yielded
          cases ht : (ops[g]?).bind (·.dst) with
          | none => rfl
          | some t =>
            have hm : t ∈ o.looksAt ops := by simp [Oper.looksAt, hg, ht]
            have hs := hsl t hm
            have hsz' := I.size
            have e1 : a.tmps.size = (stA (fun _ => a0) ops.toList ks k (slot a)).tmps.size := by rw [hsz.1, hsz']
            simp only [slot] at hs
            have : a.tmps[t]? = (stA (fun _ => a0) ops.toList ks k (slot a)).tmps[t]? := by
              rcases Nat.lt_or_ge t a.tmps.size with h | h
              · have h2 : t < (stA (fun _ => a0) ops.toList ks k (slot a)).tmps.size := by rw [← e1]; exact h
                simpa [h, h2] using hs
              · rw [Array.getElem?_eq_none h, Array.getElem?_eq_none (by omega)]
            simp [this]
        simp only [this]
    have hcount : (listed.setIfInBounds k true).toList.countP (fun b => !b) ≤ fuel := by
      have hf : listed.toList[k]? = some false := by simp [hks] at h0; simp [hks, h0]
      have := countP_set hf
      rw [Array.toList_setIfInBounds]
      omega
    have hset : ∀ j, (listed.setIfInBounds k true).getD j false = true ↔ j = k ∨ listed.getD j false = true := by
      intro j
      by_cases hjk : j = k
      · subst hjk; simp [hks]
      · rw [getD_set_ne false (Ne.symm hjk)]; simp [hjk]
    have hkn : Knows ops k (fun j => listed.getD j false) := ⟨h0k, fun j hj => needsI_pre I.closed ho hr _ j hj, fun j hj => by
      cases hb : listed.getD j false with
      | false => rfl
      | true =>
        have := needsI_done (D := fun j => listed.getD j false) I.closed _ j k hb hj
        rw [h0k] at this; cases this⟩
    have hD : (fun j => (listed.setIfInBounds k true).getD j false) = done (fun j => listed.getD j false) k := by
      funext j
      unfold done
      by_cases hjk : j = k
      · subst hjk; simp [hks]
      · rw [getD_set_ne false (Ne.symm hjk)]; simp [hjk]
    -- the state behind the operation
    have next : ∀ v w', C (done (fun j => listed.getD j false) k) (slot (a.put o.dst v)) w' → (∀ d, o.dst = some d → v = ent kd (slot (a.put o.dst v))) → (∀ d, kd = .nd d → o.dst = some d) →
        InvR C ks ops a0 (listed.setIfInBounds k true) (a.put o.dst v) w' := by
      intro v w' hC' hv hnd
      have hin : ∀ d, o.dst = some d → d < a.tmps.size := fun d hd => by rw [I.size, hn]; exact R.inb k o d ho hd
      refine ⟨by simp [I.len], by rw [size_put, I.size], by rw [defers_put, I.defers], by rw [hD]; exact hC', fun j oj hoj hlj e he hb => ?_, fun t ht => ?_, fun j oj kj hoj hkj hlj d hd => ?_⟩
      · rcases (hset j).1 hlj with rfl | hlk
        · rw [ho] at hoj; cases hoj
          exact (hset _).2 (.inr (hr e he hb))
        · exact (hset _).2 (.inr (I.closed j oj hoj hlk e he hb))
      · rw [slot_put_ne (ht k o ho ((hset k).2 (.inl rfl)))]
        exact I.other t (fun j oj hoj hlj => ht j oj hoj ((hset j).2 (.inr hlj)))
      · rcases (hset j).1 hlj with rfl | hlk
        · rw [ho] at hoj; cases hoj
          rw [hkd] at hkj; cases hkj
          have : slot (a.put o.dst v) d = v := by rw [hd]; exact slot_put_same (hin d hd)
          rw [this]; exact hv d hd
        · have hjk : j ≠ k := fun e => by rw [e, h0k] at hlk; cases hlk
          have h1 := I.wrote j oj kj hoj hkj hlk
          have hne : ∀ d, oj.dst = some d → o.dst ≠ some d := fun d hd hd' => hjk (R.once k o j oj d ho hoj hd hd')
          rw [slot_put_ne (hne d hd), h1 d hd]
          cases kj with
          | un => rfl
          | det c => rfl
          | nd d' =>
            obtain ⟨kd', hkd', hst'⟩ := hSt.at_ j oj (by simpa using hoj)
            rw [hkj] at hkd'; cases hkd'
            exact (slot_put_ne (hne d' hst'.2.2)).symm
          | fn u F =>
            obtain ⟨kd', hkd', hst'⟩ := hSt.at_ j oj (by simpa using hoj)
            rw [hkj] at hkd'; cases hkd'
            obtain ⟨i, oi, hi1, hi2, hi3⟩ := ancB_ok hst'.2.1
            rw [Nat.zero_add] at hi1
            have hli := needsI_done (D := fun j => listed.getD j false) I.closed _ j i hlk hi1
            have hne2 : o.dst ≠ some u := fun hd' => by
              have := R.once k o i oi u ho hi2 hi3 hd'
              rw [this] at hli
              rw [h0k] at hli; cases hli
            show F (slot a u) = F (slot (a.put o.dst v) u)
            rw [slot_put_ne hne2]
          | mb d' =>
            obtain ⟨kd', hkd', hst'⟩ := hSt.at_ j oj (by simpa using hoj)
            rw [hkj] at hkd'; cases hkd'
            exact (slot_put_ne (hne d' hst'.2)).symm
    have hinb : ∀ t, o.dst = some t → t < a.tmps.size := fun d hd => by rw [I.size, hn]; exact R.inb k o d ho hd
    unfold wpOp
    simp only [ho]
    cases kd with
    | un =>
      have : Region.wanted o (yielded ops a.tmps) = false := by rw [hwn]; exact hst.1 _
      simp only [this, Bool.false_eq_true, if_false]
      exact ih _ _ _ (next undef w (by rw [slot_upd hinb]; exact hst.2 _ _ _ hkn I.cls) (fun _ _ => rfl) (fun d h => by cases h)) hcount
    | det c =>
      obtain ⟨hw, hg⟩ := hst
      have : Region.wanted o (yielded ops a.tmps) = true := by rw [hwn]; exact hw _
      simp only [this, if_true]
      refine .inl ((hg _ (slot a) w hkn I.cls).wp hev fun v w' ⟨hv, hC'⟩ => ?_)
      exact ih _ _ _ (next v w' (by rw [slot_upd hinb]; exact hC') (fun _ _ => hv) (fun d h => by cases h)) hcount
    | nd d =>
      obtain ⟨hw, hg, hd⟩ := hst
      have : Region.wanted o (yielded ops a.tmps) = true := by rw [hwn]; exact hw _
      simp only [this, if_true]
      refine .inl ((hg _ (slot a) w hkn I.cls).wp hev fun v w' hC' => ?_)
      refine ih _ _ _ (next v w' (by rw [slot_upd hinb]; exact hC') (fun _ _ => ?_) (fun d' h => by cases h; exact hd)) hcount
      show v = slot (a.put o.dst v) d
      rw [hd]
      exact (slot_put_same (by rw [I.size, hn]; exact R.inb k o d ho hd)).symm
    | fn u F =>
      obtain ⟨hw, hanc, hg⟩ := hst
      have : Region.wanted o (yielded ops a.tmps) = true := by rw [hwn]; exact hw _
      simp only [this, if_true]
      refine .inl ((hg _ (slot a) w hkn I.cls).wp hev fun v w' ⟨hv, hC'⟩ => ?_)
      refine ih _ _ _ (next v w' (by rw [slot_upd hinb]; exact hC') (fun _ _ => ?_) (fun d' h => by cases h)) hcount
      obtain ⟨i, oi, hi1, hi2, hi3⟩ := ancB_ok hanc
      have hli := hkn.pre i hi1
      have hne2 : o.dst ≠ some u := fun hd' => by
        have := R.once k o i oi u ho hi2 hi3 hd'
        rw [this, h0k] at hli; cases hli
      show v = F (slot (a.put o.dst v) u)
      rw [slot_put_ne hne2]
      exact hv
    | mb d =>
      obtain ⟨hg, hd⟩ := hst
      have hs0 : ∀ v, v = slot (a.put o.dst v) d := fun v => by
        rw [hd]
        exact (slot_put_same (by rw [I.size, hn]; exact R.inb k o d ho hd)).symm
      cases hwb : Region.wanted o (yielded ops a.tmps) with
      | true =>
        simp only [if_true]
        refine .inl (((hg _ (slot a) w hkn I.cls).1 (by rw [← hwn]; exact hwb)).wp hev fun v w' hC' => ?_)
        exact ih _ _ _ (next v w' (by rw [slot_upd hinb]; exact hC') (fun _ _ => hs0 v) (fun d' h => by cases h)) hcount
      | false =>
        simp only [Bool.false_eq_true, if_false]
        exact ih _ _ _ (next undef w (by rw [slot_upd hinb]; exact (hg _ (slot a) w hkn I.cls).2 (by rw [← hwn]; exact hwb)) (fun _ _ => hs0 undef) (fun d' h => by cases h)) hcount

/-- A REGION THAT DRAWS ITS ORDER, WALKED ONCE. -/
theorem wp_walk {id : Nat} {Q : Exit → Act → World → Prop} {a0 : Act} {w0 : World} (n : Nat) (hm : P.follows .mixedOrders = true) (hB : R4.regB ops n = true) (hn : a0.tmps.size = n) (hC : C (fun _ => false) (slot a0) w0.drew)
    (h : WalkR P ops C (Q .normal) 0 ops.toList (fun _ => a0)) : (Code.region id ops true).wp P Q a0 w0 := by
  obtain ⟨ks, hSt⟩ := h
  refine wp_region_any hm (walk_sound (R4.regB_ok hB) hn hSt ops.size (Array.replicate ops.size false) a0 _ ?_ ?_)
  · refine ⟨by simp, rfl, rfl, ?_, fun j o ho hl => by simp [Array.getElem?_replicate] at hl; split at hl <;> simp at hl, fun _ _ => rfl, fun j o kd ho hk hl => by simp [Array.getElem?_replicate] at hl; split at hl <;> simp at hl⟩
    have e : (fun j => (Array.replicate ops.size false).getD j false) = fun _ => false := by
      funext j
      simp [Array.getElem?_replicate]
      split <;> rfl
    rw [e]
    exact hC
  · simp [List.countP_replicate]

/-! ### The moves -/
variable {k : Nat}
theorem WalkR.nil {A : (Nat → Value) → Act} (h : ∀ D ρ w, (∀ j, j < k → D j = true) → C D ρ w → QN (A ρ) w) : WalkR P ops C QN k [] A := ⟨[], h⟩
theorem WalkR.un {o : Oper} {l : List Oper} {A : (Nat → Value) → Act} (hw : ∀ ρ, Region.wanted o (yielded ops (A ρ).tmps) = false) (hu : ∀ D ρ w, Knows ops k D → C D ρ w → C (done D k) (upd ρ o.dst undef) w)
    (h : WalkR P ops C QN (k + 1) l (fun ρ => (A ρ).put o.dst undef)) : WalkR P ops C QN k (o :: l) A :=
  h.elim fun ks hk => ⟨.un :: ks, ⟨hw, hu⟩, hk⟩
theorem WalkR.det {o : Oper} {l : List Oper} {A : (Nat → Value) → Act} {c : Value} (hw : ∀ ρ, Region.wanted o (yielded ops (A ρ).tmps) = true)
    (hg : ∀ D ρ w, Knows ops k D → C D ρ w → gives P o (A ρ) w (fun v w' => v = c ∧ C (done D k) (upd ρ o.dst v) w')) (h : WalkR P ops C QN (k + 1) l (fun ρ => (A ρ).put o.dst c)) : WalkR P ops C QN k (o :: l) A :=
  h.elim fun ks hk => ⟨.det c :: ks, ⟨hw, hg⟩, hk⟩
theorem WalkR.nd {o : Oper} {l : List Oper} {A : (Nat → Value) → Act} {d : Nat} (hw : ∀ ρ, Region.wanted o (yielded ops (A ρ).tmps) = true) (hd : o.dst = some d)
    (hg : ∀ D ρ w, Knows ops k D → C D ρ w → gives P o (A ρ) w (fun v w' => C (done D k) (upd ρ o.dst v) w')) (h : WalkR P ops C QN (k + 1) l (fun ρ => (A ρ).put o.dst (ρ d))) : WalkR P ops C QN k (o :: l) A :=
  h.elim fun ks hk => ⟨.nd d :: ks, ⟨hw, hg, hd⟩, hk⟩
theorem WalkR.mb {o : Oper} {l : List Oper} {A : (Nat → Value) → Act} {d : Nat} (b : Bool) (hw : ∀ ρ, Region.wanted o (yielded ops (A ρ).tmps) = b) (hd : o.dst = some d)
    (hu : b = false → ∀ D ρ w, Knows ops k D → C D ρ w → C (done D k) (upd ρ o.dst undef) w) (hg : b = true → ∀ D ρ w, Knows ops k D → C D ρ w → gives P o (A ρ) w (fun v w' => C (done D k) (upd ρ o.dst v) w'))
    (h : WalkR P ops C QN (k + 1) l (fun ρ => (A ρ).put o.dst (ρ d))) : WalkR P ops C QN k (o :: l) A :=
  h.elim fun ks hk => ⟨.mb d :: ks, ⟨fun D ρ w hK hC => ⟨fun e => hg (by rw [← hw ρ]; exact e) D ρ w hK hC, fun e => hu (by rw [← hw ρ]; exact e) D ρ w hK hC⟩, hd⟩, hk⟩
theorem WalkR.fn {o : Oper} {l : List Oper} {A : (Nat → Value) → Act} (u : Nat) (F : Value → Value) (hw : ∀ ρ, Region.wanted o (yielded ops (A ρ).tmps) = true) (hanc : ancB ops k u = true)
    (hg : ∀ D ρ w, Knows ops k D → C D ρ w → gives P o (A ρ) w (fun v w' => v = F (ρ u) ∧ C (done D k) (upd ρ o.dst v) w')) (h : WalkR P ops C QN (k + 1) l (fun ρ => (A ρ).put o.dst (F (ρ u)))) : WalkR P ops C QN k (o :: l) A :=
  h.elim fun ks hk => ⟨.fn u F :: ks, ⟨hw, hanc, hg⟩, hk⟩

end

end R6
end Go.Proofs.Ytjjipkgconmfcaa

namespace Go.Proofs.Ytjjipkgconmfcaa
open Go.RowKit

/-- What a round keeps: all blocks but those of X. -/
structure KeepsX (X : Nat → Prop) (W W' : World) : Prop where
  size : W.heap.size ≤ W'.heap.size
  same : ∀ k, k < W.heap.size → ¬ X k → W'.heap[k]? = W.heap[k]?

theorem KeepsX.refl (X : Nat → Prop) (W : World) : KeepsX X W W := ⟨Nat.le_refl _, fun _ _ _ => rfl⟩
theorem KeepsX.trans {X : Nat → Prop} {A B C : World} (h : KeepsX X A B) (k : KeepsX X B C) : KeepsX X A C :=
  ⟨Nat.le_trans h.size k.size, fun i hi hx => (k.same i (Nat.lt_of_lt_of_le hi h.size) hx).trans (h.same i hi hx)⟩
theorem KeepsX.more {X Y : Nat → Prop} {A B : World} (h : KeepsX X A B) (hxy : ∀ k, X k → Y k) : KeepsX Y A B :=
  ⟨h.size, fun i hi hy => h.same i hi (fun hx => hy (hxy i hx))⟩
theorem KeepsX.alloc (X : Nat → Prop) {A B : World} (h : KeepsX X A B) (o : Obj) : KeepsX X A (B.alloc o) :=
  h.trans ⟨by simp, fun k hk _ => Below.heap_alloc _ _ _ hk⟩
theorem KeepsX.setCell {X : Nat → Prop} {A B : World} (h : KeepsX X A B) {p : Addr} (hp : X p.block ∨ A.heap.size ≤ p.block) (v : Value) : KeepsX X A (B.setCell p v) :=
  ⟨Nat.le_trans h.size (by simp [World.setCell]), fun k hk hx => by
    refine (Below.heap_setCell B p v k ?_).trans (h.same k hk hx)
    rintro rfl
    rcases hp with hp | hp
    · exact hx hp
    · omega⟩
theorem KeepsX.drew {X : Nat → Prop} {A B : World} (h : KeepsX X A B) : KeepsX X A B.drew := ⟨h.size, h.same⟩
theorem KeepsX.putObj {X : Nat → Prop} {A B : World} (h : KeepsX X A B) {r : Nat} (hr : X r) (o : Obj) : KeepsX X A (B.putObj r o) :=
  ⟨by simpa using h.size, fun k hk hx => (World.putObj_heap_other (fun e => hx (by rw [e]; exact hr))).trans (h.same k hk hx)⟩
theorem below_putObj {B : Nat} {a w : World} (h : Below B a w) {r : Nat} (hr : B ≤ r) (o : Obj) : Below B a (w.putObj r o) :=
  ⟨h.os, h.tape, h.output, by simpa using h.size, fun k hk => (World.putObj_heap_other (by omega)).trans (h.block k hk)⟩

/-- The contract of an iterator that yields the rows 'all', in order; Bg: the block that it has captured; below n₀: what lay when its maker was called. -/
def SeqX (F : Fence) (n : Nat) (P : Program) (gf : Nat) (lb : Array Value) (all : List (Array Value)) (n₀ Bg : Nat) (w : World) : Prop :=
  ∀ (l : Nat) (X : Nat → Prop) (J Jx : Nat → World → Prop) (W : World), Below w.heap.size w W → (∀ k, X k → n₀ ≤ k ∧ k ≠ Bg ∧ k < W.heap.size) →
    (∀ k A B, J k A → Below W.heap.size A B → J k B) → (∀ k A B, Jx k A → Below W.heap.size A B → Jx k B) →
    (∀ k r W1, all[k]? = some r → J k W1 → W.heap.size ≤ W1.heap.size → YieldAt F (n - 1) P l r W1 fun e W' =>
      (e = .returned (.bool true) ∧ J (k + 1) W' ∧ KeepsX X W1 W') ∨ (e = .returned (.bool false) ∧ Jx k W')) →
    J 0 W →
    CallsIn F n P gf (#[.func (.yield l) #[] #[]] ++ lb) W fun e W' => (∃ v, e = .returned v) ∧ (J all.length W' ∨ ∃ k, k < all.length ∧ Jx k W')

/-- How the body of a round may be left. -/
def postX (X : Nat → Prop) (I : World → Prop) (Ix : Code → World → Prop) (W : World) : Exit → Act → World → Prop
  | .normal, _, W' => KeepsX X W W' ∧ I W'
  | .ret, _, W' => KeepsX X W W' ∧ Ix .ret W'
  | .exit id, _, W' => KeepsX X W W' ∧ Ix (.exit id) W'
  | .goto t, _, W' => KeepsX X W W' ∧ Ix (.goto t) W'
  | .panic _, _, _ => False
  | .outgrown, _, _ => False

variable {F : Fence} {n : Nat} {P : Program}

theorem wpIn_rangeX {g : Operand} {ps : Array Tmp} {assign body : Code} {Q : Exit → Act → World → Prop} {a : Act} {w : World}
    (hro : F.round = none) (h1 : 1 ≤ n) {gf : Nat} {lb : Array Value} (hg : a.eval g = .func (.func gf) #[] lb) (hFg : F.fn gf) (eg : ∀ args w, (callFunc gf args).run P w = .ok (.enter gf args) w)
    {all : List (Array Value)} {n₀ Bg : Nat} {w0 : World} (hseq : SeqX F (n - 1) P gf lb all n₀ Bg w0) (hb0 : Below w0.heap.size w0 w) (hn₀ : n₀ ≤ w.heap.size) (hBg : Bg < w.heap.size) (hps : ∀ r ∈ all, r.size = ps.size)
    (X : Nat → Prop) (hX : ∀ k, X k → n₀ ≤ k ∧ k ≠ Bg ∧ k < w.heap.size)
    (I : Nat → World → Prop) (Ix : Code → Nat → World → Prop) (hI : ∀ k A B, I k A → Below w.heap.size A B → I k B) (hIx : ∀ c k A B, Ix c k A → Below w.heap.size A B → Ix c k B) (h0 : I 0 w)
    (Ax : Nat → Nat → Act → World → Prop) (hAx : ∀ k b a' A B, Ax k b a' A → (∀ j, b ≤ j → B.heap[j]? = A.heap[j]?) → Ax k b a' B)
    (hassign : ∀ (l k : Nat) (r : Array Value) (W : World) (K : Act → World → Prop), all[k]? = some r → I k W → (∀ a' W', Below W.heap.size W W' → Ax k W.heap.size a' W' → K a' W') →
      assign.wpIn (F.inRound l) (n - 1 - 1) P (Exit.then K (fun _ _ _ => False)) { tmps := (ps.zip r).foldl (fun t (p, v) => t.setIfInBounds p v) a.tmps, defers := [] } W)
    (hbody : ∀ (l k b : Nat) (r : Array Value) (a' : Act) (W : World), all[k]? = some r → w.heap.size ≤ b → b ≤ W.heap.size → I k W → Ax k b a' W → body.wpIn (F.inRound l) (n - 1 - 1) P (postX (fun j => X j ∨ b ≤ j) (I (k + 1)) (fun c => Ix c k) W) a' W)
    (hdone : ∀ (D : Nat) (W : World), D = w.heap.size → I all.length W → W.heap[D]? = some (.deferred (some [])) → Q .normal { a with defers := { target := .collected D, args := #[] } :: a.defers } W)
    (hstop : ∀ (D : Nat) (c : Code) (k : Nat) (W : World), D = w.heap.size → k < all.length → Ix c k W → W.heap[D]? = some (.deferred (some [])) → c.wpIn F n P Q { a with defers := { target := .collected D, args := #[] } :: a.defers } W) :
    (Code.rangeFunc g ps assign body).wpIn F n P Q a w := by
  refine wpIn_rangeFunc ?_
  intro fn hfn
  rw [hro]
  obtain ⟨rec, hrec⟩ : ∃ rec : LoopState → Option Code → Loop, rec = fun st pe => { state := st, pending := pe, fn, tmps := a.tmps, params := ps, assign, body, defers := w.heap.size } := ⟨_, rfl⟩
  obtain ⟨W1, hW1⟩ : ∃ W1, (w.alloc (.deferred (some []))).alloc (.loop (rec .ready none)) = W1 := ⟨_, rfl⟩
  have hL1 : W1.heap[w.heap.size + 1]? = some (.loop (rec .ready none)) := by
    rw [← hW1]; have := World.alloc_heap_new (w.alloc (.deferred (some []))) (.loop (rec .ready none)); rwa [World.size_alloc] at this
  have hK1 : W1.heap[w.heap.size]? = some (.deferred (some [])) := by
    rw [← hW1]; exact (Below.heap_alloc _ _ _ (by simp)).trans (World.alloc_heap_new w _)
  have hsz : W1.heap.size = w.heap.size + 2 := by rw [← hW1]; simp
  have hb01 : Below w.heap.size w W1 := by rw [← hW1]; exact ((Below.refl _ w).alloc (Nat.le_refl _) _).alloc (by simp) _
  have hI1 : I 0 W1 := hI _ _ _ h0 hb01
  have hb1 : Below w0.heap.size w0 W1 := hb0.trans (hb01.mono hb0.size)
  refine ⟨w.heap.size + 1, [{ target := .collected w.heap.size, args := #[] }], W1, { target := .fn (.func gf) lb, args := #[.func (.yield (w.heap.size + 1)) #[] #[]] }, W1, gf,
    #[.func (.yield (w.heap.size + 1)) #[] #[]] ++ lb, W1, ?_, ?_, ?_, ?_, fun _ => h1, ?_⟩
  · rw [← hW1, hrec]; exact run_enterLoop_outer _ _ _ _ _
  · simp only [resolve, hg]
    simp [go_sem]
  · intro f' hf'; simp [Target.leads] at hf'; subst hf'; exact hFg
  · simp [invoke, go_sem, eg]
  · have hlow : ∀ {A B : World} {r : Nat} {o : Obj}, Below W1.heap.size A B → r < W1.heap.size → A.heap[r]? = some o → B.heap[r]? = some o := fun hb hr ho => (hb.block _ hr).trans ho
    refine (hseq (w.heap.size + 1) (fun k => X k ∨ k = w.heap.size + 1)
      (fun k W => I k W ∧ W.heap[w.heap.size + 1]? = some (.loop (rec .ready none)) ∧ W.heap[w.heap.size]? = some (.deferred (some [])))
      (fun k W => ∃ c, Ix c k W ∧ W.heap[w.heap.size + 1]? = some (.loop (rec .done (some c))) ∧ W.heap[w.heap.size]? = some (.deferred (some [])))
      W1 hb1 ?_
      (fun k A B hs hb => ⟨hI k A B hs.1 (hb.mono (by omega)), hlow hb (by omega) hs.2.1, hlow hb (by omega) hs.2.2⟩)
      (fun k A B hs hb => by
        obtain ⟨c, hc, hl, hk⟩ := hs
        exact ⟨c, hIx c k A B hc (hb.mono (by omega)), hlow hb (by omega) hl, hlow hb (by omega) hk⟩)
      ?_ ⟨hI1, hL1, hK1⟩).mono ?_
    · rintro k (hk | rfl)
      · have := hX k hk; exact ⟨this.1, this.2.1, by omega⟩
      · exact ⟨by omega, by omega, by omega⟩
    · -- ONE ROUND
      rintro k r W hr ⟨hi, hl, hk⟩ hsW
      have hlt : w.heap.size + 1 < W.heap.size := (Array.getElem?_eq_some_iff.1 hl).1
      have hy := run_yield (P := P) (args := r) hl (by rw [hrec]; exact hps r (List.mem_of_getElem? hr))
      rw [hrec] at hy
      refine ⟨fn, _, assign, body, hy, roundIn_of_wpIn hfn (hassign _ k r W _ hr hi (fun a' Wa hba hax => ?_))⟩
      have hlA : Wa.heap[w.heap.size + 1]? = some (.loop (rec .ready none)) := (hba.block _ hlt).trans hl
      have hkA : Wa.heap[w.heap.size]? = some (.deferred (some [])) := (hba.block _ (by omega)).trans hk
      have hltA : w.heap.size + 1 < Wa.heap.size := Nat.lt_of_lt_of_le hlt hba.size
      refine ⟨_, run_beginRound hlA (by rw [hrec]), ?_⟩
      have hl2 : (Wa.putObj (w.heap.size + 1) (.loop { rec .ready none with state := .busy })).heap[w.heap.size + 1]? = some (.loop { rec .ready none with state := .busy }) := World.putObj_heap_same hltA
      have hk2 : (Wa.putObj (w.heap.size + 1) (.loop { rec .ready none with state := .busy })).heap[w.heap.size]? = some (.deferred (some [])) := (World.putObj_heap_other (by omega)).trans hkA
      have hi2 : I k (Wa.putObj (w.heap.size + 1) (.loop { rec .ready none with state := .busy })) :=
        hI k _ _ hi (below_putObj (hba.mono (by omega)) (by omega) _)
      have hx2 := hAx k W.heap.size a' Wa (Wa.putObj (w.heap.size + 1) (.loop { rec .ready none with state := .busy })) hax (fun j hj => World.putObj_heap_other (by omega))
      refine wpIn_mono (hbody _ k W.heap.size r a' _ hr (by omega) (by simpa using hba.size) hi2 hx2) ?_
      have fin : ∀ (jump : Option Code) (W3 : World), KeepsX (fun j => X j ∨ W.heap.size ≤ j) (Wa.putObj (w.heap.size + 1) (.loop { rec .ready none with state := .busy })) W3 →
          (Instr.endRound (w.heap.size + 1) jump).run P W3 = .ok (.bool jump.isNone) (W3.putObj (w.heap.size + 1) (.loop (rec (if jump.isNone then .ready else .done) jump))) ∧
          W3.heap[w.heap.size + 1]? = some (.loop { rec .ready none with state := .busy }) ∧
          (W3.putObj (w.heap.size + 1) (.loop (rec (if jump.isNone then .ready else .done) jump))).heap[w.heap.size + 1]? = some (.loop (rec (if jump.isNone then .ready else .done) jump)) ∧
          (W3.putObj (w.heap.size + 1) (.loop (rec (if jump.isNone then .ready else .done) jump))).heap[w.heap.size]? = some (.deferred (some [])) := fun jump W3 hk3 => by
        have hl3 := (hk3.same _ (by simpa using hltA) (by rintro (h | h); have := hX _ h; all_goals omega)).trans hl2
        have hk3' := (hk3.same (w.heap.size) (by simp; omega) (by rintro (h | h); have := hX _ h; all_goals omega)).trans hk2
        have := run_endRound (P := P) jump hl3
        rw [hrec] at this ⊢
        exact ⟨this, by rw [hrec] at hl3; exact hl3, World.putObj_heap_same (Array.getElem?_eq_some_iff.1 hl3).1, (World.putObj_heap_other (by omega)).trans hk3'⟩
      have keep : ∀ {W3 : World} (o : Obj), KeepsX (fun j => X j ∨ W.heap.size ≤ j) (Wa.putObj (w.heap.size + 1) (.loop { rec .ready none with state := .busy })) W3 → KeepsX (fun k => X k ∨ k = w.heap.size + 1) W (W3.putObj (w.heap.size + 1) o) := fun {W3} o hk3 =>
        ⟨by have := hk3.size; simp at this ⊢; exact Nat.le_trans hba.size this, fun j hj hx => by
          have hne : j ≠ w.heap.size + 1 := fun e => hx (.inr e)
          rw [World.putObj_heap_other hne]
          exact (hk3.same j (by simp; have := hba.size; omega) (by rintro (h | h); exact hx (.inl h); omega)).trans ((World.putObj_heap_other hne).trans (hba.block j hj))⟩
      have bel : ∀ {W3 : World} (o : Obj), Below w.heap.size W3 (W3.putObj (w.heap.size + 1) o) := fun o => below_putObj (Below.refl _ _) (by omega) o
      rintro e a3 W3 hp
      cases e with
      | normal =>
        obtain ⟨hk3, hi3⟩ := hp
        obtain ⟨hr, hl3, hl4, hk4⟩ := fin none W3 hk3
        exact ⟨_, _, hr, .inl ⟨rfl, ⟨hI _ _ _ hi3 (bel _), hl4, hk4⟩, keep _ hk3⟩⟩
      | ret =>
        obtain ⟨hk3, hi3⟩ := hp
        obtain ⟨hr, hl3, hl4, hk4⟩ := fin (some .ret) W3 hk3
        exact ⟨_, _, hr, .inr ⟨rfl, .ret, hIx _ _ _ _ hi3 (bel _), hl4, hk4⟩⟩
      | exit id =>
        obtain ⟨hk3, hi3⟩ := hp
        obtain ⟨hr, hl3, hl4, hk4⟩ := fin (some (.exit id)) W3 hk3
        exact ⟨_, _, hr, .inr ⟨rfl, .exit id, hIx _ _ _ _ hi3 (bel _), hl4, hk4⟩⟩
      | goto t =>
        obtain ⟨hk3, hi3⟩ := hp
        obtain ⟨hr, hl3, hl4, hk4⟩ := fin (some (.goto t)) W3 hk3
        exact ⟨_, _, hr, .inr ⟨rfl, .goto t, hIx _ _ _ _ hi3 (bel _), hl4, hk4⟩⟩
      | panic ch => exact hp.elim
      | outgrown => exact hp.elim
    · -- BEHIND THE ITERATOR
      have bel : ∀ {W3 : World} (o : Obj), Below w.heap.size W3 (W3.putObj (w.heap.size + 1) o) := fun o => below_putObj (Below.refl _ _) (by omega) o
      rintro e W2 ⟨⟨v, rfl⟩, (⟨hi, hl, hk⟩ | ⟨k, hkl, c, hi, hl, hk⟩)⟩
      · exact ⟨none, _, by have := run_endLoop (P := P) hl (by rw [hrec]; simp); rw [hrec] at this; exact this, hdone _ _ rfl (hI _ _ _ hi (bel _)) ((World.putObj_heap_other (by omega)).trans hk)⟩
      · exact ⟨some c, _, by have := run_endLoop (P := P) hl (by rw [hrec]; simp); rw [hrec] at this; exact this, hstop _ c k _ rfl hkl (hIx _ _ _ _ hi (bel _)) ((World.putObj_heap_other (by omega)).trans hk)⟩

end Go.Proofs.Ytjjipkgconmfcaa

namespace Go.Proofs.Ytjjipkgconmfcaa
open Go.RowKit

/-- All but block b is as it was. -/
structure Put (W W' : World) (b : Nat) : Prop where
  os : W'.os = W.os
  tape : W'.tape = W.tape
  output : W'.output = W.output
  size : W'.heap.size = W.heap.size
  other : ∀ k, k ≠ b → W'.heap[k]? = W.heap[k]?

theorem Put.below {W W' : World} {b B : Nat} (h : Put W W' b) (hb : B ≤ b) : Below B W W' := ⟨h.os, h.tape, h.output, Nat.le_of_eq h.size.symm, fun k hk => h.other k (by omega)⟩
theorem Put.keepsX {W W' : World} {b : Nat} (h : Put W W' b) (X : Nat → Prop) (hb : X b) : KeepsX X W W' := ⟨Nat.le_of_eq h.size.symm, fun k _ hx => h.other k (fun e => hx (by rw [e]; exact hb))⟩
theorem put_setRow (w : World) (b : Nat) (cs : Array Value) : Put w (w.setRow b cs) b := ⟨rfl, rfl, rfl, by simp, fun k hk => setRow_other w b k cs hk⟩

/-- A type of structs or arrays, of n cells. -/
def RowTy (P : Program) (ty : TypeId) (n : Nat) : Prop := (∃ d, P.underlying ty = some d ∧ d.isRow = true) ∧ (P.info? ty).map (·.size) = some n

section
variable {F : Fence} {n : Nat} {P : Program} {ops : Array Oper} {rest : List Oper} {op : Oper} {a : Act} {w : World} {Q : Exit → Act → World → Prop}

theorem run_load_blk {P : Program} {w : World} {ty : TypeId} {b o : Nat} {C : Array Value} {t : TypeId} {fr : Nat × Nat} (hb : w.heap[b]? = some (.cells C t fr))
    {cs : List Value} (hcs : ∀ j v, cs[j]? = some v → C[o + j]? = some v) (hty : RowTy P ty cs.length) :
    (Instr.loadAt ty (.pointer (some ⟨b, o, none⟩))).run P w = .ok (.agg cs.toArray) w := by
  obtain ⟨⟨d, hu, hd⟩, hi⟩ := hty
  exact run_loadAt_mid w b o ty cs d (fun j v hv => (cell_of_row w b (o + j) C t fr hb).trans (hcs j v hv)) hu hd hi

theorem wpListIn_load_blk (ty : TypeId) (x : Operand) (hgd : op.guard = none) (ho : op.op = .load ty x) {b o : Nat} (hx : a.eval x = .pointer (some ⟨b, o, none⟩))
    {C : Array Value} {t : TypeId} {fr : Nat × Nat} (hb : w.heap[b]? = some (.cells C t fr)) (cs : List Value) (hcs : ∀ j v, cs[j]? = some v → C[o + j]? = some v) (hty : RowTy P ty cs.length)
    (h : wpListIn F n P ops Q rest (a.put op.dst (.agg cs.toArray)) w) : wpListIn F n P ops Q (op :: rest) a w := by
  refine wpListIn_plain hgd fun K hK => ?_
  unfold Oper.wpIn
  refine ⟨by simp [Oper.about, ho], ?_⟩
  rw [Oper.semAt_plain F _ _ (by rw [ho]; intro c hc'; cases hc')]
  unfold execOp
  simp only [ho, hx, Sem.run_bind, run_load_blk hb hcs hty, Result.andThen_ok]
  exact hK _ _ h

theorem wpListIn_store_blk (ty : TypeId) (x y : Operand) (hgd : op.guard = none) (ho : op.op = .store ty x y) {b : Nat} (hx : a.eval x = .pointer (some ⟨b, 0, none⟩)) {cells : Array Value} (hy : a.eval y = .agg cells)
    {C : Array Value} {t : TypeId} (hb : w.heap[b]? = some (.cells C t (0, 0))) (hC : C.size = cells.size) (h1 : cells.all (·.oneCell') = true) (hty : RowTy P ty cells.size)
    (h : ∀ w', Put w w' b → w'.heap[b]? = some (.cells cells t (0, 0)) → wpListIn F n P ops Q rest (a.put op.dst undef) w') : wpListIn F n P ops Q (op :: rest) a w := by
  refine wpListIn_plain hgd fun K hK => ?_
  unfold Oper.wpIn
  refine ⟨by simp [Oper.about, ho], ?_⟩
  rw [Oper.semAt_plain F _ _ (by rw [ho]; intro c hc'; cases hc')]
  unfold execOp
  simp only [ho, hx, hy, Instr.storeAt, Instr.sureAddr, Sem.run_bind, Sem.run_pure, Result.andThen_ok, run_storeVar_row w b t ty C cells hb hty.2 hC h1]
  exact hK _ _ (h _ (put_setRow _ _ _) (setRow_heap _ _ _ _ _ _ hb))

theorem wpListIn_yield (f : Operand) (args : Array Operand) (ats : Array TypeId) (hgd : op.guard = none) (ho : op.op = .call { callee := .value f, args := args, argTypes := ats })
    (hF : ∀ f, F.fn f) (hn : 1 ≤ n) {l : Nat} (hf : a.eval f = .func (.yield l) #[] #[]) {vs : Array Value} (hvs : args.map a.eval = vs)
    {R : Ending → World → Prop} (hY : YieldAt F (n - 1) P l vs w R) (h : ∀ e w', R e w' → ∃ v, e = .returned v ∧ wpListIn F n P ops Q rest (a.put op.dst v) w') : wpListIn F n P ops Q (op :: rest) a w := by
  obtain ⟨fn, tmps, assign, body, hy, hR⟩ := hY
  refine wpListIn_plain hgd fun K hK => ?_
  unfold Oper.wpIn
  refine ⟨fun f _ => hF f, ?_⟩
  rw [Oper.semAt_plain F _ _ (by rw [ho]; intro c hc'; cases hc')]
  have hrun : (execOp a.eval op).run P w = .ok (.round l fn tmps assign body) w := by
    unfold execOp
    simp only [ho, resolve, hf, hvs, Deferred.ofValue, Sem.run_bind, Sem.run_pure, Result.andThen_ok]
    simp [invoke, hy]
  rw [hrun, Oper.uponIn_round]
  refine ⟨fun _ => hn, hR.mono ?_⟩
  intro e w' hr
  obtain ⟨v, rfl, hw⟩ := h e w' hr
  exact hK _ _ hw
end

end Go.Proofs.Ytjjipkgconmfcaa

namespace Go.Proofs.Ytjjipkgconmfcaa
open Go.RowKit

theorem splice_set {α : Type} (L : List α) (o : Nat) (v : α) (r : List α) (h : o + (v :: r).length ≤ L.length) : splice (L.set o v) (o + 1) r = splice L o (v :: r) := by
  simp only [List.length_cons] at h
  apply List.ext_getElem?
  intro i
  simp only [splice, List.getElem?_append, List.length_take, List.length_set, List.getElem?_take, List.getElem?_drop, List.getElem?_set, List.length_cons]
  by_cases h1 : i < o
  · simp [h1, show i < min o L.length by omega, show i < min (o + 1) L.length by omega, show i < o + 1 by omega, show ¬ o = i by omega]
  · by_cases h2 : i = o
    · subst h2
      simp [show i < min (i + 1) L.length by omega, show min i L.length = i by omega, show i < L.length by omega]
    · simp only [show ¬ i < min o L.length by omega, show ¬ i < min (o + 1) L.length by omega, if_false]
      rw [show min (o + 1) L.length = o + 1 by omega, show min o L.length = o by omega]
      rw [show i - o = (i - (o + 1)) + 1 by omega, List.getElem?_cons_succ]
      by_cases h3 : i - (o + 1) < r.length
      · simp [h3]
      · simp only [h3, if_false, show ¬ i - (o + 1) + 1 < r.length + 1 by omega]
        rw [if_neg (by omega)]
        congr 1
        omega

theorem setCells_block (b : Nat) {t : TypeId} : ∀ (vs : List Value) (o : Nat) (w : World) (L : List Value), w.heap[b]? = some (.cells L.toArray t (0, 0)) → o + vs.length ≤ L.length → (w.setCells b o vs).heap[b]? = some (.cells (splice L o vs).toArray t (0, 0))
  | [], o, w, L, h, _ => by simpa [World.setCells, splice] using h
  | v :: r, o, w, L, h, hl => by
    have h1 : (w.setCell ⟨b, o, none⟩ v).heap[b]? = some (.cells (L.set o v).toArray t (0, 0)) := by
      have := heap_setCell_same w b o _ _ v h
      rwa [List.setIfInBounds_toArray] at this
    rw [World.setCells, ← splice_set L o v r hl]
    exact setCells_block b r (o + 1) _ _ h1 (by simp only [List.length_cons] at hl; simp; omega)

theorem put_setCells (b : Nat) : ∀ (vs : List Value) (o : Nat) (w : World), Put w (w.setCells b o vs) b
  | [], _, _ => ⟨rfl, rfl, rfl, rfl, fun _ _ => rfl⟩
  | v :: r, o, w => by
    have h := put_setCells b r (o + 1) (w.setCell ⟨b, o, none⟩ v)
    have h1 : Put w (w.setCell ⟨b, o, none⟩ v) b := by
      have hb : Below 0 w (w.setCell ⟨b, o, none⟩ v) := (Below.refl 0 w).setCell (Nat.zero_le _) v
      exact ⟨hb.os, hb.tape, hb.output, by simp, fun k hk => heap_setCell_other w ⟨b, o, none⟩ k v (fun e => hk e)⟩
    exact ⟨h.os.trans h1.os, h.tape.trans h1.tape, h.output.trans h1.output, h.size.trans h1.size, fun k hk => (h.other k hk).trans (h1.other k hk)⟩

section
variable {P : Program} {ops : Array Oper} {rest : List Oper} {op : Oper} {a : Act} {w : World} {Q : Exit → Act → World → Prop}

theorem run_store_mid {ty : TypeId} {b o : Nat} {cs L : List Value} {t : TypeId} (hb : w.heap[b]? = some (.cells L.toArray t (0, 0))) (hfit : o + cs.length ≤ L.length) (h1 : ∀ v ∈ cs, v.oneCell' = true) (hty : RowTy P ty cs.length) :
    (Instr.storeAt ty (.pointer (some ⟨b, o, none⟩)) (.agg cs.toArray)).run P w = .ok () (w.setCells b o cs) := by
  have := run_storeAt_mid (P := P) w b o ty cs.toArray (fun j hj => by
    simp only [List.size_toArray] at hj
    refine ⟨?_, frozen_of_row w b _ _ _ hb⟩
    rw [cell_of_row w b _ _ _ _ hb]
    simp [show o + j < L.length by omega]) (by simpa using hty.2) (all_oneCell_toArray h1)
  simpa using this

theorem wpList_load_blk (ty : TypeId) (x : Operand) (hgd : op.guard = none) (ho : op.op = .load ty x) {b o : Nat} (hx : a.eval x = .pointer (some ⟨b, o, none⟩))
    {C : Array Value} {t : TypeId} {fr : Nat × Nat} (hb : w.heap[b]? = some (.cells C t fr)) (cs : List Value) (hcs : ∀ j v, cs[j]? = some v → C[o + j]? = some v) (hty : RowTy P ty cs.length)
    (h : wpList P ops Q rest (a.put op.dst (.agg cs.toArray)) w) : wpList P ops Q (op :: rest) a w := by
  refine wpList_plain hgd fun K hK => ?_
  unfold Oper.wp execOp
  simp only [ho, hx, Sem.run_bind, run_load_blk hb hcs hty, Result.andThen_ok]
  exact hK _ _ h

theorem wpList_store_blk (ty : TypeId) (x y : Operand) (hgd : op.guard = none) (ho : op.op = .store ty x y) (hd : op.dst = none) {b o : Nat} (hx : a.eval x = .pointer (some ⟨b, o, none⟩)) {cs L : List Value} (hy : a.eval y = .agg cs.toArray)
    {t : TypeId} (hb : w.heap[b]? = some (.cells L.toArray t (0, 0))) (hfit : o + cs.length ≤ L.length) (h1 : ∀ v ∈ cs, v.oneCell' = true) (hty : RowTy P ty cs.length)
    (h : ∀ w', Put w w' b → w'.heap[b]? = some (.cells (splice L o cs).toArray t (0, 0)) → wpList P ops Q rest a w') : wpList P ops Q (op :: rest) a w := by
  refine wpList_plain hgd fun K hK => ?_
  unfold Oper.wp execOp
  simp only [ho, hx, hy, Sem.run_bind, Sem.run_pure, run_store_mid hb hfit h1 hty, Result.andThen_ok]
  refine hK _ _ ?_
  rw [show a.put op.dst undef = a from by rw [hd]; rfl]
  exact h _ (put_setCells b cs o w) (setCells_block b cs o w L hb hfit)

theorem run_store_one {ty : TypeId} {b o : Nat} {v : Value} {L : List Value} {t : TypeId} (hb : w.heap[b]? = some (.cells L.toArray t (0, 0))) (hfit : o < L.length) (hv : v.cells = #[v]) (h1 : v.oneCell' = true) (hty : (P.info? ty).map (·.size) = some 1) :
    (Instr.storeAt ty (.pointer (some ⟨b, o, none⟩)) v).run P w = .ok () (w.setCell ⟨b, o, none⟩ v) := by
  have hc : (w.cell? ⟨b, o, none⟩).isSome = true := by rw [cell_of_row w b _ _ _ _ hb]; simp [hfit]
  have hf : w.frozen? ⟨b, o, none⟩ = false := frozen_of_row w b _ _ _ hb
  have := run_storeCells_cells (P := P) b o [v] 0 w (fun j hj => by
    have : j = 0 := by simpa using hj
    subst this; simpa using hc) (fun j hj => by
    have : j = 0 := by simpa using hj
    subst this; simpa using hf) (fun u hu => by
    have : u = v := by simpa using hu
    subst this; exact h1)
  cases hq : P.info? ty with
  | none => simp [hq] at hty
  | some i =>
    have hs : i.size = 1 := by simpa [hq] using hty
    simp only [Nat.add_zero] at this
    simp [Instr.storeAt, Instr.sureAddr, storeVar, sizeOf, typeInfo, hq, hv, hs, this, World.setCells]

variable {R : Value → World → Prop}
theorem gives_store_one (ty : TypeId) (x y : Operand) (ho : op.op = .store ty x y) {b o : Nat} (hx : a.eval x = .pointer (some ⟨b, o, none⟩)) {z : Int} (hy : a.eval y = .int .i64 z) {L : List Value}
    {t : TypeId} (hb : w.heap[b]? = some (.cells L.toArray t (0, 0))) (hfit : o < L.length) (hty : (P.info? ty).map (·.size) = some 1)
    (h : ∀ w', Put w w' b → w'.heap[b]? = some (.cells (L.set o (.int .i64 z)).toArray t (0, 0)) → R undef w') : gives P op a w R := by
  have hrun := run_store_one (P := P) (v := .int .i64 z) hb hfit rfl rfl hty
  unfold gives execOp
  simp only [ho, hx, hy, Sem.run_bind, Sem.run_pure, hrun, Result.andThen_ok]
  refine h _ (put_setCells b [.int .i64 z] o w) ?_
  have := heap_setCell_same w b o _ _ (.int .i64 z) hb
  rwa [List.setIfInBounds_toArray] at this

theorem gives_load_blk (ty : TypeId) (x : Operand) (ho : op.op = .load ty x) {b o : Nat} (hx : a.eval x = .pointer (some ⟨b, o, none⟩))
    {C : Array Value} {t : TypeId} {fr : Nat × Nat} (hb : w.heap[b]? = some (.cells C t fr)) (cs : List Value) (hcs : ∀ j v, cs[j]? = some v → C[o + j]? = some v) (hty : RowTy P ty cs.length)
    (h : R (.agg cs.toArray) w) : gives P op a w R := by
  unfold gives execOp
  simp only [ho, hx, Sem.run_bind, run_load_blk hb hcs hty, Result.andThen_ok]
  exact h

theorem gives_store_blk (ty : TypeId) (x y : Operand) (ho : op.op = .store ty x y) {b o : Nat} (hx : a.eval x = .pointer (some ⟨b, o, none⟩)) {cs L : List Value} (hy : a.eval y = .agg cs.toArray)
    {t : TypeId} (hb : w.heap[b]? = some (.cells L.toArray t (0, 0))) (hfit : o + cs.length ≤ L.length) (h1 : ∀ v ∈ cs, v.oneCell' = true) (hty : RowTy P ty cs.length)
    (h : ∀ w', Put w w' b → w'.heap[b]? = some (.cells (splice L o cs).toArray t (0, 0)) → R undef w') : gives P op a w R := by
  unfold gives execOp
  simp only [ho, hx, hy, Sem.run_bind, Sem.run_pure, run_store_mid hb hfit h1 hty, Result.andThen_ok]
  exact h _ (put_setCells b cs o w) (setCells_block b cs o w L hb hfit)

end

/-- A grove's cells as a list. -/
def gl (h : Hab) (c : List Int) : List Value := hcells h ++ ints c
theorem gl_len {h : Hab} {c : List Int} (hc : c.length = 7) : (gl h c).length = 13 := by simp [gl, hcells, ints, hc]
theorem gl_one (h : Hab) (c : List Int) : ∀ v ∈ gl h c, v.oneCell' = true := by
  intro v hv
  simp only [gl, List.mem_append] at hv
  rcases hv with hv | hv
  · simp only [hcells, List.mem_cons, List.not_mem_nil, or_false] at hv
    rcases hv with rfl | rfl | rfl | rfl | rfl | rfl <;> rfl
  · exact oneCells_ints _ v hv
theorem gv_eq (h : Hab) (c : List Int) : gv h c = .agg (gl h c).toArray := rfl
theorem at0 {L : List Value} : ∀ (j : Nat) (v : Value), L[j]? = some v → L.toArray[0 + j]? = some v := fun j v h => by rw [Nat.zero_add, List.getElem?_toArray]; exact h

end Go.Proofs.Ytjjipkgconmfcaa

namespace Go.Proofs.Ytjjipkgconmfcaa
open Go.RowKit

theorem box_cells {w w' : World} {A : Obj} {cs : Array Value} {t : TypeId} (hA : A = .cells cs t) (hB : Below (w.alloc A).heap.size (w.alloc A) w') : ∀ i, w'.cell? ⟨w.heap.size, i, none⟩ = cs[i]? := fun i => by
  subst hA
  exact (hB.cell (p := ⟨w.heap.size, i, none⟩) (by simp)).trans (cell_of_row _ w.heap.size i _ _ _ (alloc_at0 w _))

theorem info3s : (Try.prog.info? 3).map (·.size) = some 1 := by kernel_rfl

theorem own_keeps {w w' : World} {base : Nat} {e : TypeId} {size n : Nat} {v : Value} {xs : List Value} {X : Nat → Prop} (h : w.ownsRow base e size v n xs) (hk : KeepsX X w w') (hx : ∀ k, base ≤ k → k < w.heap.size → ¬ X k) : w'.ownsRow base e size v n xs := by
  refine ⟨h.1, ?_⟩
  rcases h.2 with h2 | ⟨g, cap, cur, hv, hb, hh, h3⟩
  · exact .inl h2
  · exact .inr ⟨g, cap, cur, hv, hb, (hk.same g (lt_of_heap hh) (hx g hb (lt_of_heap hh))).trans hh, h3⟩

/-- A step of its region: the operation that writes slot x may grow the row ob. -/
def SApp (x : Nat) (ob : Option Nat) (o : Oper) (W W' : World) : Prop := (o.dst ≠ some x → Grows W W') ∧ W.grownBy W' ob

theorem SApp.of {x : Nat} {ob : Option Nat} {o : Oper} {W W' : World} (h : Grows W W') : SApp x ob o W W' := ⟨fun _ => h, ⟨h.os, h.tape, h.output, h.size, fun k hk _ => h.block k hk⟩⟩

theorem SApp.refl (x : Nat) (ob : Option Nat) (o : Oper) (W : World) : SApp x ob o W W := .of (Grows.refl W)

theorem own_grows {W W' : World} {base : Nat} {e : TypeId} {size n : Nat} {v : Value} {xs : List Value} (h : W.ownsRow base e size v n xs) (hg : Grows W W') : W'.ownsRow base e size v n xs :=
  own_keeps (X := fun _ => False) h ⟨hg.size, fun k hk _ => hg.block k hk⟩ (fun _ _ _ h => h)

def RowIs (base : Nat) (e : TypeId) (size n : Nat) (xs : List Value) : Fact := fun v W => ∃ A c, v = .slice A n c ∧ W.ownsRow base e size v n xs

theorem gives_app {P : Program} {a : Act} {w : World} {o : Oper} {R : Value → World → Prop} (s x : Operand) (t : TypeId)
    (ho : o.op = .call { callee := .builtin .append, args := #[s, x], argTypes := #[t, t] })
    (base : Nat) (e : TypeId) (i : TypeInfo) (z : Value) (size bytes : Nat) (ht : P.underlying t = some (.slice e)) (hi : P.info? e = some i) (hz : i.zero = some z)
    (hsize : i.size = size) (hby : i.bytes = bytes) (hzs : z.cells.size = size) (hsz : 0 < size)
    {v : Value} {n : Nat} {xs : List Value} (hs : a.eval s = v) (hown : w.ownsRow base e size v n xs)
    {B : Nat} {A : Option Addr} {m c : Nat} {vs : List Value} (hx : a.eval x = .slice A m c) (hr : Vals w B A vs) (hl : vs.length = m * size) (h1 : ∀ u ∈ vs, u.oneCell' = true)
    (h63 : n + m ≤ maxLen) (hbytes : (n + m) * bytes ≤ 140737488355328) (hbase : base ≤ w.heap.size)
    (h : ∀ v' w', w'.ownsRow base e size v' (n + m) (xs ++ vs) → w.grownBy w' v.ownBlock → R v' w') : gives P o a w R := by
  obtain ⟨v', w', hrun, h2, h3, h4⟩ := run_app (P := P) w base t o.type e i z size bytes ht hi hz hsize hby hzs hsz v n xs hown B A m c vs hr hl h1 h63 hbytes hbase
  unfold gives execOp
  simp only [ho, resolve, invoke, builtin, Sem.run_bind, Sem.run_pure, Result.andThen_ok, List.map_toArray, List.map_cons, List.map_nil, hs, hx, hrun]
  exact h v' w' h2 h3

theorem own_slice {w : World} {base : Nat} {e : TypeId} {size n : Nat} {v : Value} {xs : List Value} (h : w.ownsRow base e size v n xs) : ∃ A c, v = .slice A n c := by
  have h0 := h.1
  rcases h.2 with ⟨rfl, h2⟩ | ⟨g, cap, cur, hv, _⟩
  · subst h2
    exact ⟨none, 0, by simp at h0; rcases h0 with h0 | h0 <;> simp_all⟩
  · exact ⟨_, _, hv⟩

theorem splice_all {α : Type} {L M : List α} (h : L.length = M.length) : splice L 0 M = M := by simp [splice, ← h]

theorem below_grown {n : Nat} {W W' : World} (h : Below n W W') (hn : W.heap.size ≤ n) (row : Option Nat) : W.grownBy W' row := ⟨h.os, h.tape, h.output, h.size, fun j hj _ => h.block j (by omega)⟩

theorem grown_trans {W W' W'' : World} {row : Option Nat} (h : W.grownBy W' row) (h' : W'.grownBy W'' row) : W.grownBy W'' row :=
  ⟨h'.os.trans h.os, h'.tape.trans h.tape, h'.output.trans h.output, Nat.le_trans h.size h'.size, fun j hj hr => (h'.block j (Nat.lt_of_lt_of_le hj h.size) hr).trans (h.block j hj hr)⟩

theorem Put.grown {W W' : World} {g : Nat} (h : Put W W' g) : W.grownBy W' (some g) := ⟨h.os, h.tape, h.output, Nat.le_of_eq h.size.symm, fun j _ hr => h.other j (fun e => hr (by rw [e]))⟩

theorem vals_in {w : World} {g B o : Nat} {L vs : List Value} {t : TypeId} {fr : Nat × Nat} (h : w.heap[g]? = some (.cells L.toArray t fr)) (hB : g < B) (hv : ∀ j v, vs[j]? = some v → L.toArray[o + j]? = some v) : Vals w B (some ⟨g, o, none⟩) vs := fun _ =>
  ⟨g, o, rfl, hB, fun j v hj => (cell_of_row w g (o + j) _ _ _ h).trans (hv j v hj)⟩

section
variable {w5 W W' : World} {g : Nat} {X Y : Obj} {o : Oper}
/-- Where a region that ends with a store into block g is: g holds X, or Y already. -/
structure CG (w5 : World) (g : Nat) (X Y : Obj) (W : World) : Prop where
  gb : w5.grownBy W (some g)
  hg : W.heap[g]? = some X ∨ W.heap[g]? = some Y
  lt : g < W.heap.size

/-- A step of it. -/
structure SG (g : Nat) (Y : Obj) (o : Oper) (W W' : World) : Prop where
  grows : o.dst ≠ none → Grows W W'
  keep : W.heap[g]? = some Y → W'.heap[g]? = some Y

theorem SG.refl (o : Oper) (W : World) : SG g Y o W W := ⟨fun _ => Grows.refl _, id⟩

theorem SG.of (h : Grows W W') (hC : CG w5 g X Y W) : SG g Y o W W' := ⟨fun _ => h, fun e => (h.block g hC.lt).trans e⟩

theorem CG.next (hC : CG w5 g X Y W) (h : Grows W W') : CG w5 g X Y W' :=
  ⟨grown_trans hC.gb (below_grown h (Nat.le_refl _) _), by rw [h.block g hC.lt]; exact hC.hg, Nat.lt_of_lt_of_le hC.lt h.size⟩

theorem CG.put (hC : CG w5 g X Y W) (hP : Put W W' g) (hM : W'.heap[g]? = some Y) (ho : o.dst = none) : SG g Y o W W' ∧ CG w5 g X Y W' :=
  ⟨⟨fun e => absurd ho e, fun _ => hM⟩, grown_trans hC.gb hP.grown, .inr hM, by rw [hP.size]; exact hC.lt⟩

theorem CG.drew {w5 W : World} {g : Nat} {X Y : Obj} (hC : CG w5 g X Y W) : CG w5 g X Y W.drew := ⟨⟨hC.gb.os, hC.gb.tape, hC.gb.output, hC.gb.size, hC.gb.block⟩, hC.hg, hC.lt⟩

theorem CG.start {w5 : World} {g : Nat} {X Y : Obj} (h : w5.heap[g]? = some X) : CG w5 g X Y w5 := ⟨World.grownBy.refl _ _, .inl h, lt_of_heap h⟩
end

theorem grow1 (W : World) (o : Obj) : Grows W (W.alloc o) := (Below.refl _ _).alloc (Nat.le_refl _) _

theorem grow2 (W : World) (o o' : Obj) : Grows W ((W.alloc o).alloc o') := (grow1 W o).alloc (by simp) _

theorem ints_nil (W : World) (A : Option Addr) : Ints W W.heap.size A [] := fun h => by simp at h

theorem vals_nil (W : World) (A : Option Addr) : Vals W W.heap.size A [] := fun h => by simp at h

section
variable {W W' : World}
theorem own_same {base : Nat} {e : TypeId} {size n : Nat} {v : Value} {xs : List Value} (h : W.ownsRow base e size v n xs) (hk : ∀ (k : Nat) (cur : Array Value) (fr : Nat × Nat), W.heap[k]? = some (Obj.cells cur e fr) → W'.heap[k]? = W.heap[k]?) : W'.ownsRow base e size v n xs := by
  refine ⟨h.1, ?_⟩
  rcases h.2 with h2 | ⟨g, cap, cur, hv, hb, hh, h3⟩
  · exact .inl h2
  · exact .inr ⟨g, cap, cur, hv, hb, (hk _ _ _ hh).trans hh, h3⟩

theorem splice_whole {L cs : List Value} (h : L.length = cs.length) : splice L 0 cs = cs := by simp [splice, h]
end

theorem own_cap2 {W : World} {base : Nat} {e : TypeId} {size n c : Nat} {A : Option Addr} {xs : List Value} (h : W.ownsRow base e size (.slice A n c) n xs) : n ≤ c := by
  rcases h.2 with ⟨h0, hn⟩ | ⟨g', cap', cur, hv, hb, hh, h3, _⟩
  · omega
  · simp only [Value.slice.injEq] at hv
    obtain ⟨_, _, rfl⟩ := hv
    exact h3

theorem upd_none (ρ : Nat → Value) (v : Value) : R4.upd ρ none v = ρ := by
  funext t
  exact R6.upd_ne (by simp)

def tupAt (v : Value) (i : Nat) : Value := match v with
  | .tuple a => a.getD i undef
  | _ => undef

section
variable {P : Program} {op : Oper} {a : Act} {w : World} {R : Value → World → Prop}
theorem gives_store_val (ty : TypeId) (x y : Operand) (ho : op.op = .store ty x y) {b o : Nat} (hx : a.eval x = .pointer (some ⟨b, o, none⟩)) {v : Value} (hy : a.eval y = v) (hv : v.cells = #[v]) (hv1 : v.oneCell' = true) {L : List Value}
    {t : TypeId} (hb : w.heap[b]? = some (.cells L.toArray t (0, 0))) (hfit : o < L.length) (hty : (P.info? ty).map (·.size) = some 1)
    (h : ∀ w', Put w w' b → w'.heap[b]? = some (.cells (L.set o v).toArray t (0, 0)) → R undef w') : gives P op a w R := by
  have hrun := run_store_one (P := P) (v := v) hb hfit hv hv1 hty
  unfold gives execOp
  simp only [ho, hx, hy, Sem.run_bind, Sem.run_pure, hrun, Result.andThen_ok]
  refine h _ (put_setCells b [v] o w) ?_
  have := heap_setCell_same w b o _ _ v hb
  rwa [List.setIfInBounds_toArray] at this
end

/-- A list of numbers of 32 bits, as cells. -/
def u32s (l : List Int) : List Value := l.map fun x => .int .u32 x

/-- Which number stands at an index that goes round. -/
def atL (l : List Int) (i : Int) : Int := if l.length = 0 then 0 else l[(i % l.length).toNat]?.getD 0

/-- A number of a span. -/
def pickL (lo hi n : Int) : Int := lo + n % (hi - lo + 1)

theorem pickL_bnd {lo hi n : Int} (h : lo ≤ hi) : lo ≤ pickL lo hi n ∧ pickL lo hi n ≤ hi := by
  have h0 := Int.emod_nonneg n (show hi - lo + 1 ≠ 0 by omega)
  have h1 := Int.emod_lt_of_pos n (show 0 < hi - lo + 1 by omega)
  unfold pickL
  omega

/-- Numbers of 32 bits lie in memory. -/
structure ByAt (w : World) (B : Nat) (A : Option Addr) (l : List Int) : Prop where
  va : Vals w B A (u32s l)
  rg : ∀ k, k < l.length → 0 ≤ l[k]?.getD 0 ∧ l[k]?.getD 0 < 4294967296
  ln : l.length ≤ 9223372036854775807

theorem ByAt.below {w w' : World} {B : Nat} {A : Option Addr} {l : List Int} (h : ByAt w B A l) (hb : Below B w w') : ByAt w' B A l := ⟨h.va.below hb, h.rg, h.ln⟩

theorem atL_bnd {w : World} {B : Nat} {A : Option Addr} {l : List Int} (h : ByAt w B A l) {i : Int} : 0 ≤ atL l i ∧ atL l i < 4294967296 := by
  unfold atL
  split
  · omega
  · have hm0 := Int.emod_nonneg i (show (l.length : Int) ≠ 0 by omega)
    have hm1 := Int.emod_lt_of_pos i (show (0 : Int) < l.length by omega)
    exact h.rg _ (by omega)

end Go.Proofs.Ytjjipkgconmfcaa
