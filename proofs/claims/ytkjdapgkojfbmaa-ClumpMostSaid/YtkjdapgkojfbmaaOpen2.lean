/-
  A grove as it comes in, opened whole.
-/
import Derived.Test.YtkjdapgkojfbmaaOpen
namespace Go.Proofs.Ytkjdapgkojfbmaa
open Go.ChangeShapes Go.WideShapes Go.ChangeAt Go.RowKit Go.Deep

section
variable {H : Type} {enc : TypeId × Value → H} {w : World} {base : Nat} {spare : Nat → Bool} {held : Bool}

theorem cellsI : Try.prog.cellsOf 3 = 1 := by kernel_rfl
theorem cellsH : Try.prog.cellsOf 25 = 6 := by kernel_rfl
theorem cellsSp : Try.prog.cellsOf 23 = 2 := by kernel_rfl
theorem cellsSl : Try.prog.cellsOf 26 = 1 := by kernel_rfl
theorem cellsSe : Try.prog.cellsOf 27 = 1 := by kernel_rfl
theorem cellsG : Try.prog.cellsOf 29 = 10 := by kernel_rfl

theorem open_habit {fuel : Nat} {cs : List Value} {x : DataW H × List MemPlace} (hl : cs.length = 6) (h : DataW.trod enc Try.prog w base spare held fuel 25 cs = some x) :
    ∃ hb : Hab, cs = hcells hb := by
  match cs, hl with
  | [c0, c1, c2, c3, c4, c5], _ =>
    obtain ⟨xs, n, _, _, _, hlen, hg⟩ := DataW.trod_struct Try.underlying25 h
    have at_ : ∀ i, i < xs.length → ∃ y, xs[i]? = some y := fun i hi => ⟨_, List.getElem?_eq_getElem hi⟩
    have hlen5 : xs.length = 5 := hlen
    obtain ⟨y0, hy0⟩ := at_ 0 (by omega)
    obtain ⟨y1, hy1⟩ := at_ 1 (by omega)
    obtain ⟨y2, hy2⟩ := at_ 2 (by omega)
    obtain ⟨y3, hy3⟩ := at_ 3 (by omega)
    obtain ⟨y4, hy4⟩ := at_ 4 (by omega)
    have g0 : DataW.trod enc Try.prog w base spare held n 23 ((List.drop 0 [c0, c1, c2, c3, c4, c5]).take (Try.prog.cellsOf 23)) = some y0 := (hg 0 _ rfl).trans hy0
    have g1 : DataW.trod enc Try.prog w base spare held n 3 ((List.drop 2 [c0, c1, c2, c3, c4, c5]).take (Try.prog.cellsOf 3)) = some y1 := (hg 1 _ rfl).trans hy1
    have g2 : DataW.trod enc Try.prog w base spare held n 3 ((List.drop 3 [c0, c1, c2, c3, c4, c5]).take (Try.prog.cellsOf 3)) = some y2 := (hg 2 _ rfl).trans hy2
    have g3 : DataW.trod enc Try.prog w base spare held n 3 ((List.drop 4 [c0, c1, c2, c3, c4, c5]).take (Try.prog.cellsOf 3)) = some y3 := (hg 3 _ rfl).trans hy3
    have g4 : DataW.trod enc Try.prog w base spare held n 3 ((List.drop 5 [c0, c1, c2, c3, c4, c5]).take (Try.prog.cellsOf 3)) = some y4 := (hg 4 _ rfl).trans hy4
    simp only [cellsI, cellsSp, List.drop_zero, List.drop_succ_cons, List.take_succ_cons, List.take_zero] at g0 g1 g2 g3 g4
    obtain ⟨be, rfl⟩ := open_int_raw g1
    obtain ⟨ri, rfl⟩ := open_int_raw g2
    obtain ⟨di, rfl⟩ := open_int_raw g3
    obtain ⟨ke, rfl⟩ := open_int_raw g4
    obtain ⟨zs, n', _, _, _, hlen', hg'⟩ := DataW.trod_struct Try.underlying23 g0
    have at2 : ∀ i, i < zs.length → ∃ y, zs[i]? = some y := fun i hi => ⟨_, List.getElem?_eq_getElem hi⟩
    have hlen2 : zs.length = 2 := hlen'
    obtain ⟨z0, hz0⟩ := at2 0 (by omega)
    obtain ⟨z1, hz1⟩ := at2 1 (by omega)
    have k0 : DataW.trod enc Try.prog w base spare held n' 3 ((List.drop 0 [c0, c1]).take (Try.prog.cellsOf 3)) = some z0 := (hg' 0 _ rfl).trans hz0
    have k1 : DataW.trod enc Try.prog w base spare held n' 3 ((List.drop 1 [c0, c1]).take (Try.prog.cellsOf 3)) = some z1 := (hg' 1 _ rfl).trans hz1
    simp only [cellsI, List.drop_zero, List.drop_succ_cons, List.take_succ_cons, List.take_zero] at k0 k1
    obtain ⟨lo, rfl⟩ := open_int_raw k0
    obtain ⟨hi, rfl⟩ := open_int_raw k1
    exact ⟨⟨lo, hi, be, ri, di, ke⟩, rfl⟩

set_option maxRecDepth 100000 in
theorem open_grove {r : Reach} {b0 : Nat} {v : Value} {d : DataW H} {p : List MemPlace} (hv : Value.okWide Try.prog w r b0 29 v) (h : DataW.Trod enc Try.prog w base spare held 29 v d p) :
    ∃ (g : Gr) (A1 : Option Addr) (c1 : Nat) (A2 : Option Addr) (c2 : Nat), v = grv g A1 c1 A2 c2 ∧ GrAt w w.heap.size g A1 c1 A2 c2 := by
  obtain ⟨cs, rfl, hsz⟩ := okWide_struct Try.underlying29 hv
  obtain ⟨l⟩ := cs
  match l, hsz.trans cellsG with
  | [c0, c1, c2, c3, c4, c5, c6, c7, c8, c9], _ =>
    obtain ⟨fuel, hf⟩ := h
    obtain ⟨xs, n, _, _, _, hlen, hg⟩ := DataW.trod_struct Try.underlying29 hf
    have at_ : ∀ i, i < xs.length → ∃ y, xs[i]? = some y := fun i hi => ⟨_, List.getElem?_eq_getElem hi⟩
    have hlen5 : xs.length = 5 := hlen
    obtain ⟨y0, hy0⟩ := at_ 0 (by omega)
    obtain ⟨y1, hy1⟩ := at_ 1 (by omega)
    obtain ⟨y2, hy2⟩ := at_ 2 (by omega)
    obtain ⟨y3, hy3⟩ := at_ 3 (by omega)
    obtain ⟨y4, hy4⟩ := at_ 4 (by omega)
    have g0 : DataW.trod enc Try.prog w base spare held n 3 ((List.drop 0 [c0, c1, c2, c3, c4, c5, c6, c7, c8, c9]).take (Try.prog.cellsOf 3)) = some y0 := (hg 0 _ rfl).trans hy0
    have g1 : DataW.trod enc Try.prog w base spare held n 25 ((List.drop 1 [c0, c1, c2, c3, c4, c5, c6, c7, c8, c9]).take (Try.prog.cellsOf 25)) = some y1 := (hg 1 _ rfl).trans hy1
    have g2 : DataW.trod enc Try.prog w base spare held n 3 ((List.drop 7 [c0, c1, c2, c3, c4, c5, c6, c7, c8, c9]).take (Try.prog.cellsOf 3)) = some y2 := (hg 2 _ rfl).trans hy2
    have g3 : DataW.trod enc Try.prog w base spare held n 26 ((List.drop 8 [c0, c1, c2, c3, c4, c5, c6, c7, c8, c9]).take (Try.prog.cellsOf 26)) = some y3 := (hg 3 _ rfl).trans hy3
    have g4 : DataW.trod enc Try.prog w base spare held n 27 ((List.drop 9 [c0, c1, c2, c3, c4, c5, c6, c7, c8, c9]).take (Try.prog.cellsOf 27)) = some y4 := (hg 4 _ rfl).trans hy4
    simp only [cellsI, cellsH, cellsSl, cellsSe, List.drop_zero, List.drop_succ_cons, List.take_succ_cons, List.take_zero] at g0 g1 g2 g3 g4
    obtain ⟨id, rfl⟩ := open_int_raw g0
    obtain ⟨fi, rfl⟩ := open_int_raw g2
    obtain ⟨hb, hhb⟩ := open_habit rfl g1
    obtain ⟨A1, zs, k1, rfl, hk1, hm1, hI⟩ := open_ints_raw g3
    obtain ⟨A2, ss, k2, rfl, hk2, hm2, hV⟩ := open_pairs_raw g4
    simp only [hcells, List.cons.injEq, and_true] at hhb
    obtain ⟨rfl, rfl, rfl, rfl, rfl, rfl⟩ := hhb
    exact ⟨⟨id, hb, fi, zs, ss⟩, A1, k1, A2, k2, rfl, hI, hV, hk1, hk2, by simp only [maxLen] at hm1; omega, by simp only [maxLen] at hm2; omega⟩
end

end Go.Proofs.Ytkjdapgkojfbmaa
