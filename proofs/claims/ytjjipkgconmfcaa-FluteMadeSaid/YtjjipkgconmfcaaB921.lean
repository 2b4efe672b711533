/-
  Texts laid together: FuO.
-/
import Derived.Deep.Slices
import Derived.Test.YtjjipkgconmfcaaB96
import Derived.Test.YtjjipkgconmfcaaB920
set_option linter.all false
namespace Go.Proofs.Ytjjipkgconmfcaa
open Go.ChangeShapes Go.WideShapes Go.ChangeAt Go.RowKit Go.Deep

theorem Try.ownF : ownKnob Try.prog.godebug = none := by kernel_rfl
theorem Try.laidOutF : laidOutB Try.prog = true := by kernel_rfl
theorem cellsHole : Try.prog.cellsOf 38 = 3 := by kernel_rfl
theorem cellsHoles : Try.prog.cellsOf 26 = 1 := by kernel_rfl
theorem cellsFlute : Try.prog.cellsOf 28 = 8 := by kernel_rfl
theorem cellsBlank : Try.prog.cellsOf 34 = 10 := by kernel_rfl

section
variable {H : Type} {enc : TypeId × Value → H} {P : Program} {w : World} {base : Nat} {spare : Nat → Bool} {held : Bool}
/-- A slice of things of n cells. -/
theorem open_sliceF {α : Type} [Inhabited α] {f : α → List Value} {n : Nat} (hf : ∀ x, (f x).length = n) (hn : 0 < n) {t e : TypeId} (ht : P.underlying t = some (.slice e)) (hc : P.cellsOf e = n)
    {Q : α → Prop} (HO : ∀ fuel cs x, cs.length = n → DataW.trod enc P w base spare held fuel e cs = some x → ∃ y : α, cs = f y ∧ Q y) {fuel : Nat} {c : Value} {x : DataW H × List MemPlace} (h : DataW.trod enc P w base spare held fuel t [c] = some x) :
    ∃ (A : Option Addr) (l : List α) (cap : Nat), c = .slice A l.length cap ∧ l.length ≤ maxLen ∧ l.length ≤ cap ∧ Vals w w.heap.size A (l.flatMap f) ∧ ∀ y ∈ l, Q y := by
  rcases open_slice ht h with ⟨hc, _⟩ | ⟨a, len, cap, m, k, D, Pl, hcs, _, hl, hm, hmm, _, hx⟩
  · simp only [List.cons.injEq, and_true] at hc
    exact ⟨none, [], 0, hc, by simp, by simp, fun h => by simp at h, fun y hy => by cases hy⟩
  simp only [List.cons.injEq, and_true] at hcs
  have hle : len ≤ m := by rw [hmm]; split <;> omega
  rw [hc] at hx
  obtain ⟨g, hg⟩ : ∃ g : Nat → α, ∀ i, i < len → (∀ j v, (f (g i))[j]? = some v → w.cell? (a.add (i * n + j)) = some v) ∧ Q (g i) := by
    have key : ∀ i, i < len → ∃ y : α, (∀ j v, (f y)[j]? = some v → w.cell? (a.add (i * n + j)) = some v) ∧ Q y := fun i hi => by
      obtain ⟨cs', h1, h2⟩ := hx i (by omega)
      obtain ⟨_, hlen, hcell⟩ := World.cells?_some h1
      obtain ⟨y, rfl, hQ⟩ := HO _ _ _ hlen h2
      refine ⟨y, fun j v hv => ?_, hQ⟩
      have hj : j < n := by rw [← hlen]; exact (List.getElem?_eq_some_iff.1 hv).1
      have := hcell j hj
      rw [add_add] at this
      rw [this, hv]
    exact ⟨fun i => if h : i < len then (key i h).choose else default, fun i h => by simp only [h, dif_pos]; exact (key i h).choose_spec⟩
  have hl2 : ((List.range len).map g).length = len := by simp
  refine ⟨some a, (List.range len).map g, cap, by rw [hl2]; exact hcs, by rw [hl2]; omega, by rw [hl2]; exact hl, fun h0 => ?_, fun y hy => ?_⟩
  rotate_left
  · simp only [List.mem_map, List.mem_range] at hy
    obtain ⟨i, hi', rfl⟩ := hy
    exact (hg i hi').2
  have hfl := flat_len hf ((List.range len).map g)
  rw [hl2] at hfl
  rw [hfl] at h0
  have hlen0 : 0 < len := Nat.pos_of_mul_pos_right h0
  have hj0 : 0 < (f (g 0)).length := by rw [hf]; exact hn
  have h1 := (hg 0 hlen0).1 0 _ (List.getElem?_eq_getElem hj0)
  obtain ⟨b, off, spot⟩ := a
  have hs1 : spot = none := by
    have e0 : (⟨b, off, spot⟩ : Addr).add (0 * n + 0) = ⟨b, off, spot⟩ := by simp [Addr.add]
    rw [e0] at h1
    exact World.cell?_spot h1
  subst hs1
  rw [Addr.add_mid] at h1
  refine ⟨b, off, rfl, lt_of_cell h1, fun k v hv => ?_⟩
  have hk : k < len * n := by rw [← hfl]; exact (List.getElem?_eq_some_iff.1 hv).1
  have hq : k / n < len := Nat.div_lt_of_lt_mul (by rw [Nat.mul_comm]; exact hk)
  have hr : k % n < n := Nat.mod_lt _ hn
  have hke : k = k / n * n + k % n := by rw [Nat.mul_comm]; exact (Nat.div_add_mod k n).symm
  have hat := flat_at hf ((List.range len).map g) (k / n) (by rw [hl2]; exact hq) (k % n) hr
  rw [← hke, hv] at hat
  simp only [List.getElem_map, List.getElem_range] at hat
  have := (hg (k / n) hq).1 (k % n) v hat.symm
  rw [Addr.add_mid, ← hke] at this
  exact this
end

section
variable {H : Type} {enc : TypeId × Value → H} {w : World} {base : Nat} {spare : Nat → Bool} {held : Bool}
instance : Inhabited Ho := ⟨⟨0, 0, 0⟩⟩
set_option maxRecDepth 100000 in
theorem open_hole (fuel : Nat) (cs : List Value) (x : DataW H × List MemPlace) (hl : cs.length = 3) (h : DataW.trod enc Try.prog w base spare held fuel 38 cs = some x) :
    ∃ p : Ho, cs = hoc p ∧ True := by
  match cs, hl with
  | [c0, c1, c2], _ =>
    obtain ⟨xs, n, _, _, _, hlen, hg⟩ := DataW.trod_struct Try.underlying38 h
    have hln : xs.length = 2 := hlen
    have at_ : ∀ i, i < xs.length → ∃ y, xs[i]? = some y := fun i hi => ⟨_, List.getElem?_eq_getElem hi⟩
    obtain ⟨y0, hy0⟩ := at_ 0 (by omega)
    have g0 : DataW.trod enc Try.prog w base spare held n 3 ((List.drop 0 [c0, c1, c2]).take (Try.prog.cellsOf 3)) = some y0 := (hg 0 _ rfl).trans hy0
    obtain ⟨y1, hy1⟩ := at_ 1 (by omega)
    have g1 : DataW.trod enc Try.prog w base spare held n 25 ((List.drop 1 [c0, c1, c2]).take (Try.prog.cellsOf 25)) = some y1 := (hg 1 _ rfl).trans hy1
    simp only [cellsI, cellsSp, cellsSl, cellsHoles, List.drop_zero, List.drop_succ_cons, List.take_succ_cons, List.take_zero] at g0 g1
    obtain ⟨a, rfl⟩ := open_int_raw g0
    obtain ⟨b, c, rfl, rfl⟩ := open_span_raw g1
    exact ⟨⟨a, b, c⟩, rfl, trivial⟩

set_option maxRecDepth 100000 in
theorem open_flute {r : Reach} {b0 : Nat} {v : Value} {d : DataW H} {p : List MemPlace} (hv : Value.okWide Try.prog w r b0 28 v) (h : DataW.Trod enc Try.prog w base spare held 28 v d p) :
    ∃ f : Fu, v = .agg (fuc f).toArray ∧ f.hs.length ≤ maxLen ∧ FuAt w w.heap.size f := by
  obtain ⟨cs, rfl, hsz⟩ := okWide_struct Try.underlying28 hv
  obtain ⟨l⟩ := cs
  match l, hsz.trans cellsFlute with
  | [c0, c1, c2, c3, c4, c5, c6, c7], _ =>
    obtain ⟨fuel, h⟩ := h
    obtain ⟨xs, n, _, _, _, hlen, hg⟩ := DataW.trod_struct Try.underlying28 h
    have hln : xs.length = 5 := hlen
    have at_ : ∀ i, i < xs.length → ∃ y, xs[i]? = some y := fun i hi => ⟨_, List.getElem?_eq_getElem hi⟩
    obtain ⟨y0, hy0⟩ := at_ 0 (by omega)
    have g0 : DataW.trod enc Try.prog w base spare held n 3 ((List.drop 0 [c0, c1, c2, c3, c4, c5, c6, c7]).take (Try.prog.cellsOf 3)) = some y0 := (hg 0 _ rfl).trans hy0
    obtain ⟨y1, hy1⟩ := at_ 1 (by omega)
    have g1 : DataW.trod enc Try.prog w base spare held n 25 ((List.drop 1 [c0, c1, c2, c3, c4, c5, c6, c7]).take (Try.prog.cellsOf 25)) = some y1 := (hg 1 _ rfl).trans hy1
    obtain ⟨y2, hy2⟩ := at_ 2 (by omega)
    have g2 : DataW.trod enc Try.prog w base spare held n 25 ((List.drop 3 [c0, c1, c2, c3, c4, c5, c6, c7]).take (Try.prog.cellsOf 25)) = some y2 := (hg 2 _ rfl).trans hy2
    obtain ⟨y3, hy3⟩ := at_ 3 (by omega)
    have g3 : DataW.trod enc Try.prog w base spare held n 25 ((List.drop 5 [c0, c1, c2, c3, c4, c5, c6, c7]).take (Try.prog.cellsOf 25)) = some y3 := (hg 3 _ rfl).trans hy3
    obtain ⟨y4, hy4⟩ := at_ 4 (by omega)
    have g4 : DataW.trod enc Try.prog w base spare held n 26 ((List.drop 7 [c0, c1, c2, c3, c4, c5, c6, c7]).take (Try.prog.cellsOf 26)) = some y4 := (hg 4 _ rfl).trans hy4
    simp only [cellsI, cellsSp, cellsSl, cellsHoles, List.drop_zero, List.drop_succ_cons, List.take_succ_cons, List.take_zero] at g0 g1 g2 g3 g4
    obtain ⟨a, rfl⟩ := open_int_raw g0
    obtain ⟨b0, b1, rfl, rfl⟩ := open_span_raw g1
    obtain ⟨d0, d1, rfl, rfl⟩ := open_span_raw g2
    obtain ⟨s0, s1, rfl, rfl⟩ := open_span_raw g3
    obtain ⟨A, l, cp, e, hm, _, hI, _⟩ := open_sliceF hoc_len (by decide) Try.underlying26 cellsHole (Q := fun _ => True) (fun fuel cs x hl h => open_hole fuel cs x hl h) g4
    subst e
    exact ⟨⟨a, b0, b1, d0, d1, s0, s1, A, cp, l⟩, rfl, hm, hI⟩

set_option maxRecDepth 100000 in
theorem open_note {r : Reach} {b0 : Nat} {v : Value} {d : DataW H} {p : List MemPlace} (hv : Value.okWide Try.prog w r b0 25 v) (h : DataW.Trod enc Try.prog w base spare held 25 v d p) :
    ∃ a b : Int, v = .agg #[.int .i64 a, .int .i64 b] := by
  obtain ⟨cs, rfl, hsz⟩ := okWide_struct Try.underlying25 hv
  obtain ⟨l⟩ := cs
  match l, hsz.trans cellsSp with
  | [c0, c1], _ =>
    obtain ⟨fuel, h⟩ := h
    obtain ⟨a, b, rfl, rfl⟩ := open_span_raw h
    exact ⟨a, b, rfl⟩
end

end Go.Proofs.Ytjjipkgconmfcaa
