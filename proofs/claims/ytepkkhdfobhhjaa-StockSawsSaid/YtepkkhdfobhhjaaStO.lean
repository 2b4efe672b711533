/-
  Trunks that come in, opened.
-/
import Derived.Test.YtepkkhdfobhhjaaStG
import Derived.Test.YtepkkhdfobhhjaaG2
import Derived.Deep.Slices
namespace Go.Proofs.Ytepkkhdfobhhjaa
open Go.ChangeShapes Go.WideShapes Go.ChangeAt Go.RowKit Go.Deep

theorem Try.ownS : ownKnob Try.prog.godebug = none := by kernel_rfl
theorem Try.laidOutS : laidOutB Try.prog = true := by kernel_rfl
theorem cellsTrunk : Try.prog.cellsOf 59 = 3 := by kernel_rfl

section
variable {H : Type} {enc : TypeId × Value → H} {P : Program} {w : World} {base : Nat} {spare : Nat → Bool} {held : Bool}
/-- A slice of things of n cells. -/
theorem open_sliceST {α : Type} [Inhabited α] {f : α → List Value} {n : Nat} (hf : ∀ x, (f x).length = n) (hn : 0 < n) {t e : TypeId} (ht : P.underlying t = some (.slice e)) (hc : P.cellsOf e = n)
    {Q : α → Prop} (HO : ∀ fuel cs x, cs.length = n → DataW.trod enc P w base spare held fuel e cs = some x → ∃ y : α, cs = f y ∧ Q y) {fuel : Nat} {c : Value} {x : DataW H × List MemPlace} (h : DataW.trod enc P w base spare held fuel t [c] = some x) :
    ∃ (A : Option Addr) (l : List α) (cap : Nat), c = .slice A l.length cap ∧ l.length ≤ maxLen ∧ l.length ≤ cap ∧ Vals w w.heap.size A (l.flatMap f) ∧ ∀ y ∈ l, Q y := by
  rcases open_slice ht h with ⟨hc, _⟩ | ⟨a, len, cap, m, k, D, Pl, hcs, _, hl, hm, hmm, _, hx⟩
  · simp only [List.cons.injEq, and_true] at hc
    exact ⟨none, [], 0, hc, by simp, by simp, fun h => by simp at h, fun y hy => by cases hy⟩
  simp only [List.cons.injEq, and_true] at hcs
  have hle : len ≤ m := by rw [hmm]; split <;> omega
  rw [hc] at hx
  obtain ⟨g, hg⟩ : ∃ g : Nat → α, ∀ i, i < len → (∀ j v, (f (g i))[j]? = some v → w.cell? (a.add (i * n + j)) = some v) ∧ Q (g i) := by
    have key : ∀ i, i < len → ∃ y : α, (∀ j v, (f y)[j]? = some v → w.cell? (a.add (i * n + j)) = some v) ∧ Q y := fun i hi => by
      obtain ⟨cs', h1, h2⟩ := hx i (by omega)
      obtain ⟨_, hlen, hcell⟩ := World.cells?_some h1
      obtain ⟨y, rfl, hQ⟩ := HO _ _ _ hlen h2
      refine ⟨y, fun j v hv => ?_, hQ⟩
      have hj : j < n := by rw [← hlen]; exact (List.getElem?_eq_some_iff.1 hv).1
      have := hcell j hj
      rw [add_add] at this
      rw [this, hv]
    exact ⟨fun i => if h : i < len then (key i h).choose else default, fun i h => by simp only [h, dif_pos]; exact (key i h).choose_spec⟩
  have hl2 : ((List.range len).map g).length = len := by simp
  refine ⟨some a, (List.range len).map g, cap, by rw [hl2]; exact hcs, by rw [hl2]; omega, by rw [hl2]; exact hl, fun h0 => ?_, fun y hy => ?_⟩
  rotate_left
  · simp only [List.mem_map, List.mem_range] at hy
    obtain ⟨i, hi', rfl⟩ := hy
    exact (hg i hi').2
  have hfl := flat_len hf ((List.range len).map g)
  rw [hl2] at hfl
  rw [hfl] at h0
  have hlen0 : 0 < len := Nat.pos_of_mul_pos_right h0
  have hj0 : 0 < (f (g 0)).length := by rw [hf]; exact hn
  have h1 := (hg 0 hlen0).1 0 _ (List.getElem?_eq_getElem hj0)
  obtain ⟨b, off, spot⟩ := a
  have hs1 : spot = none := by
    have e0 : (⟨b, off, spot⟩ : Addr).add (0 * n + 0) = ⟨b, off, spot⟩ := by simp [Addr.add]
    rw [e0] at h1
    exact World.cell?_spot h1
  subst hs1
  rw [Addr.add_mid] at h1
  refine ⟨b, off, rfl, lt_of_cell h1, fun k v hv => ?_⟩
  have hk : k < len * n := by rw [← hfl]; exact (List.getElem?_eq_some_iff.1 hv).1
  have hq : k / n < len := Nat.div_lt_of_lt_mul (by rw [Nat.mul_comm]; exact hk)
  have hr : k % n < n := Nat.mod_lt _ hn
  have hke : k = k / n * n + k % n := by rw [Nat.mul_comm]; exact (Nat.div_add_mod k n).symm
  have hat := flat_at hf ((List.range len).map g) (k / n) (by rw [hl2]; exact hq) (k % n) hr
  rw [← hke, hv] at hat
  simp only [List.getElem_map, List.getElem_range] at hat
  have := (hg (k / n) hq).1 (k % n) v hat.symm
  rw [Addr.add_mid, ← hke] at this
  exact this
end

section
variable {H : Type} {enc : TypeId × Value → H} {w : World} {base : Nat} {spare : Nat → Bool} {held : Bool}
instance : Inhabited Tk := ⟨⟨0, 0, none, 0, []⟩⟩
set_option maxRecDepth 100000 in
theorem open_trunkS (fuel : Nat) (cs : List Value) (x : DataW H × List MemPlace) (hl : cs.length = 3) (h : DataW.trod enc Try.prog w base spare held fuel 59 cs = some x) :
    ∃ p : Tk, cs = tkc p ∧ Ints w w.heap.size p.A p.zs := by
  match cs, hl with
  | [c0, c1, c2], _ =>
    obtain ⟨xs, n, _, _, _, hlen, hg⟩ := DataW.trod_struct Try.underlying59 h
    have hlen3 : xs.length = 3 := hlen
    have at_ : ∀ i, i < xs.length → ∃ y, xs[i]? = some y := fun i hi => ⟨_, List.getElem?_eq_getElem hi⟩
    obtain ⟨y0, hy0⟩ := at_ 0 (by omega)
    obtain ⟨y1, hy1⟩ := at_ 1 (by omega)
    obtain ⟨y2, hy2⟩ := at_ 2 (by omega)
    have g0 : DataW.trod enc Try.prog w base spare held n 3 ((List.drop 0 [c0, c1, c2]).take (Try.prog.cellsOf 3)) = some y0 := (hg 0 _ rfl).trans hy0
    have g1 : DataW.trod enc Try.prog w base spare held n 3 ((List.drop 1 [c0, c1, c2]).take (Try.prog.cellsOf 3)) = some y1 := (hg 1 _ rfl).trans hy1
    have g2 : DataW.trod enc Try.prog w base spare held n 35 ((List.drop 2 [c0, c1, c2]).take (Try.prog.cellsOf 35)) = some y2 := (hg 2 _ rfl).trans hy2
    simp only [cellsI, cellsSl, List.drop_zero, List.drop_succ_cons, List.take_succ_cons, List.take_zero] at g0 g1 g2
    obtain ⟨a, rfl⟩ := open_int_raw g0
    obtain ⟨b, rfl⟩ := open_int_raw g1
    obtain ⟨A, zs, c, e, _, _, hI⟩ := open_ints_raw g2
    subst e
    exact ⟨⟨a, b, A, c, zs⟩, rfl, hI⟩
set_option maxRecDepth 100000 in
theorem open_trunks {r : Reach} {b0 : Nat} {v : Value} {d : DataW H} {p : List MemPlace} (hv : Value.okWide Try.prog w r b0 22 v) (h : DataW.Trod enc Try.prog w base spare held 22 v d p) :
    ∃ (A : Option Addr) (l : List Tk) (cap : Nat), v = .slice A l.length cap ∧ TksAt w w.heap.size l A := by
  obtain ⟨a0, len0, cap0, rfl⟩ := okWide_slice Try.underlying22 hv
  obtain ⟨fuel, hf⟩ := h
  obtain ⟨A, l, cap, he, hl, -, hV, hQ⟩ := open_sliceST tkc_len (by decide) Try.underlying22 cellsTrunk (Q := fun p => Ints w w.heap.size p.A p.zs) (fun fuel cs x hl h => open_trunkS fuel cs x hl h) hf
  exact ⟨A, l, cap, he, ⟨hV, hQ⟩⟩
end

end Go.Proofs.Ytepkkhdfobhhjaa
