/-
  A drying and a pond as they come in, opened.
-/
import Derived.Test.YtfampdiompjmeaaCeQ
import Derived.Test.YtfampdiompjmeaaCdL
namespace Go.Proofs.Ytfampdiompjmeaa
open Go.ChangeShapes Go.WideShapes Go.ChangeAt Go.RowKit Go.Deep

theorem cellsDr : Try.prog.cellsOf 41 = 5 := by kernel_rfl
theorem cellsPo : Try.prog.cellsOf 46 = 3 := by kernel_rfl

section
variable {H : Type} {enc : TypeId × Value → H} {w : World} {base : Nat} {spare : Nat → Bool} {held : Bool}

set_option maxRecDepth 100000 in
theorem open_drying {r : Reach} {b0 : Nat} {v : Value} {d : DataW H} {p : List MemPlace} (hv : Value.okWide Try.prog w r b0 41 v) (h : DataW.Trod enc Try.prog w base spare held 41 v d p) :
    ∃ d : Dr, v = .agg (dcells d) := by
  obtain ⟨cs, rfl, hsz⟩ := okWide_struct Try.underlying41 hv
  obtain ⟨l⟩ := cs
  match l, hsz.trans cellsDr with
  | [c0, c1, c2, c3, c4], _ =>
    obtain ⟨fuel, hf⟩ := h
    obtain ⟨xs, n, _, _, _, hlen, hg⟩ := DataW.trod_struct Try.underlying41 hf
    have at_ : ∀ i, i < xs.length → ∃ y, xs[i]? = some y := fun i hi => ⟨_, List.getElem?_eq_getElem hi⟩
    have hlen3 : xs.length = 3 := hlen
    obtain ⟨y0, hy0⟩ := at_ 0 (by omega)
    obtain ⟨y1, hy1⟩ := at_ 1 (by omega)
    obtain ⟨y2, hy2⟩ := at_ 2 (by omega)
    have g0 : DataW.trod enc Try.prog w base spare held n 26 ((List.drop 0 [c0, c1, c2, c3, c4]).take (Try.prog.cellsOf 26)) = some y0 := (hg 0 _ rfl).trans hy0
    have g1 : DataW.trod enc Try.prog w base spare held n 26 ((List.drop 2 [c0, c1, c2, c3, c4]).take (Try.prog.cellsOf 26)) = some y1 := (hg 1 _ rfl).trans hy1
    have g2 : DataW.trod enc Try.prog w base spare held n 3 ((List.drop 4 [c0, c1, c2, c3, c4]).take (Try.prog.cellsOf 3)) = some y2 := (hg 2 _ rfl).trans hy2
    simp only [cellsI, cellsSp, List.drop_zero, List.drop_succ_cons, List.take_succ_cons, List.take_zero] at g0 g1 g2
    obtain ⟨wl, wh, rfl, rfl⟩ := open_span_raw g0
    obtain ⟨ll, lh, rfl, rfl⟩ := open_span_raw g1
    obtain ⟨m, rfl⟩ := open_int_raw g2
    exact ⟨⟨wl, wh, ll, lh, m⟩, rfl⟩

set_option maxRecDepth 100000 in
theorem open_pond {r : Reach} {b0 : Nat} {v : Value} {d : DataW H} {p : List MemPlace} (hv : Value.okWide Try.prog w r b0 46 v) (h : DataW.Trod enc Try.prog w base spare held 46 v d p) :
    ∃ p : Po, v = .agg (pcells p) := by
  obtain ⟨cs, rfl, hsz⟩ := okWide_struct Try.underlying46 hv
  obtain ⟨l⟩ := cs
  match l, hsz.trans cellsPo with
  | [c0, c1, c2], _ =>
    obtain ⟨fuel, hf⟩ := h
    obtain ⟨xs, n, _, _, _, hlen, hg⟩ := DataW.trod_struct Try.underlying46 hf
    have at_ : ∀ i, i < xs.length → ∃ y, xs[i]? = some y := fun i hi => ⟨_, List.getElem?_eq_getElem hi⟩
    have hlen2 : xs.length = 2 := hlen
    obtain ⟨y0, hy0⟩ := at_ 0 (by omega)
    obtain ⟨y1, hy1⟩ := at_ 1 (by omega)
    have g0 : DataW.trod enc Try.prog w base spare held n 26 ((List.drop 0 [c0, c1, c2]).take (Try.prog.cellsOf 26)) = some y0 := (hg 0 _ rfl).trans hy0
    have g1 : DataW.trod enc Try.prog w base spare held n 3 ((List.drop 2 [c0, c1, c2]).take (Try.prog.cellsOf 3)) = some y1 := (hg 1 _ rfl).trans hy1
    simp only [cellsI, cellsSp, List.drop_zero, List.drop_succ_cons, List.take_succ_cons, List.take_zero] at g0 g1
    obtain ⟨ol, oh, rfl, rfl⟩ := open_span_raw g0
    obtain ⟨m, rfl⟩ := open_int_raw g1
    exact ⟨⟨ol, oh, m⟩, rfl⟩
end


end Go.Proofs.Ytfampdiompjmeaa
