/-
  append([]T{}, xs...): a new slice of its own, whatever xs is.
-/
import Derived.Test.YtkjdapgkojfbmaaBasics2
namespace Go.Proofs.Ytkjdapgkojfbmaa
open Go.RowKit

theorem own_empty {w : World} {base g : Nat} {e : TypeId} {size : Nat} (h : w.heap[g]? = some (.cells #[] e (0, 0))) (hb : base ≤ g) : w.ownsRow base e size (.slice (some ⟨g, 0, none⟩) 0 0) 0 [] :=
  ⟨by simp, .inr ⟨g, 0, #[], rfl, hb, h, Nat.le_refl _, by simp, by simp, by simp⟩⟩

theorem own_form {w : World} {base : Nat} {e : TypeId} {size n : Nat} {v : Value} {xs : List Value} (h : w.ownsRow base e size v n xs) (hn : v ≠ .slice none 0 0) : ∃ g cap, v = .slice (some ⟨g, 0, none⟩) n cap ∧ base ≤ g ∧ g < w.heap.size := by
  rcases h.2 with ⟨h0, _⟩ | ⟨g, cap, cur, hv, hb, hg, _⟩
  · exact absurd h0 hn
  · exact ⟨g, cap, hv, hb, (Array.getElem?_eq_some_iff.1 hg).1⟩

theorem run_clone {P : Program} (w : World) (base : Nat) (t ty e : TypeId) (i : TypeInfo) (z : Value) (size bytes : Nat) (ht : P.underlying t = some (.slice e)) (hi : P.info? e = some i) (hz : i.zero = some z)
    (hsize : i.size = size) (hby : i.bytes = bytes) (hzs : z.cells.size = size) (hsz : 0 < size)
    (g0 : Nat) (h0 : w.heap[g0]? = some (.cells #[] e (0, 0))) (hb0 : base ≤ g0)
    (B : Nat) (A : Option Addr) (m c : Nat) (vs : List Value) (hr : Vals w B A vs) (hl : vs.length = m * size) (h1 : ∀ u ∈ vs, u.oneCell' = true)
    (h63 : m ≤ maxLen) (hbytes : m * bytes ≤ 140737488355328) :
    ∃ g1 c1 w', (Builtin.append_ #[t, t] ty #[.slice (some ⟨g0, 0, none⟩) 0 0, .slice A m c]).run P w = .ok (.slice (some ⟨g1, 0, none⟩) m c1) w' ∧ w'.ownsRow base e size (.slice (some ⟨g1, 0, none⟩) m c1) m vs ∧ w.grownBy w' (some g0) ∧
      (g1 = g0 ∨ g1 = w.heap.size) ∧ base ≤ g1 ∧ g1 < w'.heap.size := by
  have hlt := (Array.getElem?_eq_some_iff.1 h0).1
  obtain ⟨v', w', hrun, hown, hg, hat⟩ := run_app (P := P) w base t ty e i z size bytes ht hi hz hsize hby hzs hsz _ 0 [] (own_empty h0 hb0) B A m c vs hr hl h1 (by omega) (by rw [Nat.zero_add]; exact hbytes) (by omega)
  simp only [Nat.zero_add, List.nil_append] at hown
  have hne : v' ≠ .slice none 0 0 := by
    rintro rfl
    rcases hat with h | h <;> simp [Value.ownBlock] at h
  obtain ⟨g1, c1, rfl, hb1, hl1⟩ := own_form hown hne
  refine ⟨g1, c1, w', hrun, hown, hg, ?_, hb1, hl1⟩
  simpa [Value.ownBlock] using hat

theorem wpl_clone {P : Program} {w : World} {ops : Array Oper} {rest : List Oper} {o : Oper} {a : Act} {Q : Exit → Act → World → Prop} (hgd : o.guard = none) (s x : Operand) (t : TypeId)
    (ho : o.op = .call { callee := .builtin .append, args := #[s, x], argTypes := #[t, t] })
    (base : Nat) (e : TypeId) (i : TypeInfo) (z : Value) (size bytes : Nat) (ht : P.underlying t = some (.slice e)) (hi : P.info? e = some i) (hz : i.zero = some z)
    (hsize : i.size = size) (hby : i.bytes = bytes) (hzs : z.cells.size = size) (hsz : 0 < size)
    (g0 : Nat) (hs : a.eval s = .slice (some ⟨g0, 0, none⟩) 0 0) (h0 : w.heap[g0]? = some (.cells #[] e (0, 0))) (hb0 : base ≤ g0)
    (B : Nat) (A : Option Addr) (m c : Nat) (vs : List Value) (hx : a.eval x = .slice A m c) (hr : Vals w B A vs) (hl : vs.length = m * size) (h1 : ∀ u ∈ vs, u.oneCell' = true)
    (h63 : m ≤ maxLen) (hbytes : m * bytes ≤ 140737488355328)
    (h : ∀ g1 c1 w', w'.ownsRow base e size (.slice (some ⟨g1, 0, none⟩) m c1) m vs → w.grownBy w' (some g0) → (g1 = g0 ∨ g1 = w.heap.size) → base ≤ g1 → g1 < w'.heap.size → wpList P ops Q rest (a.put o.dst (.slice (some ⟨g1, 0, none⟩) m c1)) w') :
    wpList P ops Q (o :: rest) a w :=
  wpList_plain hgd fun _ hK => by
    obtain ⟨g1, c1, w', hrun, h2, h3, h4, h5, h6⟩ := run_clone (P := P) w base t o.type e i z size bytes ht hi hz hsize hby hzs hsz g0 h0 hb0 B A m c vs hr hl h1 h63 hbytes
    unfold Oper.wp execOp
    simp only [ho, resolve, invoke, builtin, Sem.run_bind, Sem.run_pure, Result.andThen_ok, List.map_toArray, List.map_cons, List.map_nil, hs, hx, hrun]
    exact hK _ _ (h g1 c1 w' h2 h3 h4 h5 h6)

theorem step_clone {P : Program} {ops : Array Oper} {o : Oper} {a : Act} {w : World} {K : Act → World → Prop} {Q : Exit → Act → World → Prop} {E : Prop} (hgd : o.guard = none) (s x : Operand) (t : TypeId)
    (ho : o.op = .call { callee := .builtin .append, args := #[s, x], argTypes := #[t, t] })
    (base : Nat) (e : TypeId) (i : TypeInfo) (z : Value) (size bytes : Nat) (ht : P.underlying t = some (.slice e)) (hi : P.info? e = some i) (hz : i.zero = some z)
    (hsize : i.size = size) (hby : i.bytes = bytes) (hzs : z.cells.size = size) (hsz : 0 < size)
    (g0 : Nat) (hs : a.eval s = .slice (some ⟨g0, 0, none⟩) 0 0) (h0 : w.heap[g0]? = some (.cells #[] e (0, 0))) (hb0 : base ≤ g0)
    (B : Nat) (A : Option Addr) (m c : Nat) (vs : List Value) (hx : a.eval x = .slice A m c) (hr : Vals w B A vs) (hl : vs.length = m * size) (h1 : ∀ u ∈ vs, u.oneCell' = true)
    (h63 : m ≤ maxLen) (hbytes : m * bytes ≤ 140737488355328)
    (h : ∀ g1 c1 w', w'.ownsRow base e size (.slice (some ⟨g1, 0, none⟩) m c1) m vs → w.grownBy w' (some g0) → (g1 = g0 ∨ g1 = w.heap.size) → base ≤ g1 → g1 < w'.heap.size → K (a.put o.dst (.slice (some ⟨g1, 0, none⟩) m c1)) w') :
    if Region.wanted o (yielded ops a.tmps) = true then Oper.wp P o a w K Q else E := by
  have hw : Region.wanted o (yielded ops a.tmps) = true := by simp [Region.wanted, hgd]
  rw [if_pos hw]
  obtain ⟨g1, c1, w', hrun, h2, h3, h4, h5, h6⟩ := run_clone (P := P) w base t o.type e i z size bytes ht hi hz hsize hby hzs hsz g0 h0 hb0 B A m c vs hr hl h1 h63 hbytes
  unfold Oper.wp execOp
  simp only [ho, resolve, invoke, builtin, Sem.run_bind, Sem.run_pure, Result.andThen_ok, List.map_toArray, List.map_cons, List.map_nil, hs, hx, hrun]
  exact h g1 c1 w' h2 h3 h4 h5 h6

/-- One limb of 'grownBy', where the row that may be written is a new one. -/
theorem Below.ofGrown {B : Nat} {a w w' : World} {g : Nat} (h : Below B a w) (hg : w.grownBy w' (some g)) (hB : B ≤ w.heap.size) (hr : B ≤ g) : Below B a w' :=
  h.grown hg hB (fun k e => by injection e with e; omega)

theorem ints_atL (c : List Int) (k : Nat) (hk : k < c.length) : (ints c)[k]? = some (.int .i64 (c[k]?.getD 0)) := by simp [ints, hk]

theorem own_far {w : World} {base : Nat} {e : TypeId} {size n g cap : Nat} {xs : List Value} (h : w.ownsRow base e size (.slice (some ⟨g, 0, none⟩) n cap) n xs) {p : Addr} (hp : g ≠ p.block) (u : Value) :
    (w.setCell p u).ownsRow base e size (.slice (some ⟨g, 0, none⟩) n cap) n xs := by
  rcases h.2 with ⟨h0, _⟩ | ⟨g', cap', cur, hv, hb, hh, h3⟩
  · cases h0
  · simp only [Value.slice.injEq, Option.some.injEq, Addr.mk.injEq, and_true, true_and] at hv
    obtain ⟨rfl, rfl⟩ := hv
    exact ⟨h.1, .inr ⟨g, cap, cur, rfl, hb, (heap_setCell_other w p g u hp).trans hh, h3⟩⟩

theorem ints_new {w : World} {g B : Nat} {zs : List Int} {fr : Nat × Nat} (h : w.heap[g]? = some (.cells (ints zs).toArray 3 fr)) (hB : g < B) : Ints w B (some ⟨g, 0, none⟩) zs := fun _ =>
  ⟨g, 0, rfl, hB, fun k hk => by rw [Nat.zero_add]; exact (cell_of_row w g k _ _ _ h).trans (ints_at zs k hk)⟩
theorem lt_of_heap {w : World} {g : Nat} {o : Obj} (h : w.heap[g]? = some o) : g < w.heap.size := (Array.getElem?_eq_some_iff.1 h).1
theorem own_cap {w : World} {base : Nat} {e : TypeId} {size n g cap : Nat} {xs : List Value} (h : w.ownsRow base e size (.slice (some ⟨g, 0, none⟩) n cap) n xs) : n ≤ cap := by
  rcases h.2 with ⟨h0, _⟩ | ⟨g', cap', cur, hv, hb, hh, h3, _⟩
  · cases h0
  · simp only [Value.slice.injEq, Option.some.injEq, Addr.mk.injEq, and_true, true_and] at hv
    omega

end Go.Proofs.Ytkjdapgkojfbmaa
