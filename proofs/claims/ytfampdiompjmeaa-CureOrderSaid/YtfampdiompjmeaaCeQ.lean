/-
  A batch that comes in, opened.
-/
import Derived.Test.YtfampdiompjmeaaCeB
import Derived.Test.YtfampdiompjmeaaG2
import Derived.Deep.Slices
namespace Go.Proofs.Ytfampdiompjmeaa
open Go.ChangeShapes Go.WideShapes Go.ChangeAt Go.RowKit Go.Deep

theorem Try.own : ownKnob Try.prog.godebug = none := by kernel_rfl
theorem Try.laidOut : laidOutB Try.prog = true := by kernel_rfl
theorem cellsRows : Try.prog.cellsOf 24 = 1 := by kernel_rfl
theorem cellsBatch : Try.prog.cellsOf 28 = 6 := by kernel_rfl

section
variable {H : Type} {enc : TypeId × Value → H} {w : World} {base : Nat} {spare : Nat → Bool} {held : Bool}

theorem open_rows_raw {fuel : Nat} {c : Value} {x : DataW H × List MemPlace} (h : DataW.trod enc Try.prog w base spare held fuel 24 [c] = some x) :
    ∃ (A : Option Addr) (l : List Sl) (cap : Nat), c = .slice A l.length cap ∧ l.length ≤ maxLen ∧ Rows w w.heap.size A l ∧ ∀ s ∈ l, s.zs.length ≤ maxLen := by
  rcases open_slice1 Try.underlying24 cellsSl h with ⟨hc, _⟩ | ⟨a, len, cap, m, n, V, D, Pl, hc, _, hl, hm, hmm, _, hi⟩
  · simp only [List.cons.injEq, and_true] at hc
    exact ⟨none, [], 0, hc, by simp, ⟨fun h => by simp [slvs] at h, fun s hs => by cases hs⟩, fun s hs => by cases hs⟩
  · simp only [List.cons.injEq, and_true] at hc
    have hle : len ≤ m := by rw [hmm]; split <;> omega
    have hv : ∀ i, i < len → ∃ s : Sl, w.cell? (a.add i) = some (slv s) ∧ Ints w w.heap.size s.A s.zs ∧ s.zs.length ≤ maxLen := fun i h => by
      obtain ⟨h1, h2⟩ := hi i (by omega)
      obtain ⟨A, zs, c, e, _, e2, e3⟩ := open_ints_raw h2
      exact ⟨⟨A, c, zs⟩, by rw [h1, e]; rfl, e3, e2⟩
    obtain ⟨f, hf⟩ : ∃ f : Nat → Sl, ∀ i, i < len → w.cell? (a.add i) = some (slv (f i)) ∧ Ints w w.heap.size (f i).A (f i).zs ∧ (f i).zs.length ≤ maxLen :=
      ⟨fun i => if h : i < len then (hv i h).choose else ⟨none, 0, []⟩, fun i h => by simp only [h, dif_pos]; exact (hv i h).choose_spec⟩
    have hl2 : ((List.range len).map f).length = len := by simp
    refine ⟨some a, (List.range len).map f, cap, by rw [hl2]; exact hc, by rw [hl2]; omega, ⟨fun h0 => ?_, fun s hs => ?_⟩, fun s hs => ?_⟩
    · rw [slvs_len, hl2] at h0
      have h1 := (hf 0 (by omega)).1
      obtain ⟨b, off, spot⟩ := a
      have hs1 : spot = none := by
        have e0 : (⟨b, off, spot⟩ : Addr).add 0 = ⟨b, off, spot⟩ := by simp [Addr.add]
        rw [e0] at h1
        exact World.cell?_spot h1
      subst hs1
      rw [Addr.add_mid] at h1
      refine ⟨b, off, rfl, lt_of_cell h1, fun k v hk => ?_⟩
      have hkl : k < len := by
        have := (List.getElem?_eq_some_iff.1 hk).1
        rw [slvs_len, hl2] at this
        exact this
      have h2 := (hf k hkl).1
      rw [Addr.add_mid] at h2
      rw [h2, ← hk]
      simp [slvs, hkl]
    · simp only [List.mem_map, List.mem_range] at hs
      obtain ⟨i, hi', rfl⟩ := hs
      exact (hf i hi').2.1
    · simp only [List.mem_map, List.mem_range] at hs
      obtain ⟨i, hi', rfl⟩ := hs
      exact (hf i hi').2.2

set_option maxRecDepth 100000 in
theorem open_batch {r : Reach} {b0 : Nat} {v : Value} {d : DataW H} {p : List MemPlace} (hv : Value.okWide Try.prog w r b0 28 v) (h : DataW.Trod enc Try.prog w base spare held 28 v d p) :
    ∃ (t : Bt) (A : Option Addr) (l : List Sl) (cap : Nat), v = .agg (btcells t (.slice A l.length cap)) ∧ l.length ≤ maxLen ∧ Rows w w.heap.size A l ∧ ∀ s ∈ l, s.zs.length ≤ maxLen := by
  obtain ⟨cs, rfl, hsz⟩ := okWide_struct Try.underlying28 hv
  obtain ⟨l⟩ := cs
  match l, hsz.trans cellsBatch with
  | [c0, c1, c2, c3, c4, c5], _ =>
    obtain ⟨fuel, hf⟩ := h
    obtain ⟨xs, n, _, _, _, hlen, hg⟩ := DataW.trod_struct Try.underlying28 hf
    have at_ : ∀ i, i < xs.length → ∃ y, xs[i]? = some y := fun i hi => ⟨_, List.getElem?_eq_getElem hi⟩
    have hlen5 : xs.length = 5 := hlen
    obtain ⟨y0, hy0⟩ := at_ 0 (by omega)
    obtain ⟨y1, hy1⟩ := at_ 1 (by omega)
    obtain ⟨y2, hy2⟩ := at_ 2 (by omega)
    obtain ⟨y3, hy3⟩ := at_ 3 (by omega)
    obtain ⟨y4, hy4⟩ := at_ 4 (by omega)
    have g0 : DataW.trod enc Try.prog w base spare held n 3 ((List.drop 0 [c0, c1, c2, c3, c4, c5]).take (Try.prog.cellsOf 3)) = some y0 := (hg 0 _ rfl).trans hy0
    have g1 : DataW.trod enc Try.prog w base spare held n 3 ((List.drop 1 [c0, c1, c2, c3, c4, c5]).take (Try.prog.cellsOf 3)) = some y1 := (hg 1 _ rfl).trans hy1
    have g2 : DataW.trod enc Try.prog w base spare held n 24 ((List.drop 2 [c0, c1, c2, c3, c4, c5]).take (Try.prog.cellsOf 24)) = some y2 := (hg 2 _ rfl).trans hy2
    have g3 : DataW.trod enc Try.prog w base spare held n 26 ((List.drop 3 [c0, c1, c2, c3, c4, c5]).take (Try.prog.cellsOf 26)) = some y3 := (hg 3 _ rfl).trans hy3
    have g4 : DataW.trod enc Try.prog w base spare held n 3 ((List.drop 5 [c0, c1, c2, c3, c4, c5]).take (Try.prog.cellsOf 3)) = some y4 := (hg 4 _ rfl).trans hy4
    simp only [cellsI, cellsSp, cellsRows, List.drop_zero, List.drop_succ_cons, List.take_succ_cons, List.take_zero] at g0 g1 g2 g3 g4
    obtain ⟨a, rfl⟩ := open_int_raw g0
    obtain ⟨b, rfl⟩ := open_int_raw g1
    obtain ⟨A, l, cap, rfl, hl, hR, hZ⟩ := open_rows_raw g2
    obtain ⟨lo, hi, rfl, rfl⟩ := open_span_raw g3
    obtain ⟨m, rfl⟩ := open_int_raw g4
    exact ⟨⟨a, b, lo, hi, m⟩, A, l, cap, rfl, hl, hR, hZ⟩
end

end Go.Proofs.Ytfampdiompjmeaa
