/-
  For every drying, every pond and all drains that come in, the law CureDries returns true, and each argument reads afterwards as it read before.
  Conditions: none beyond the row's own.
-/
import Derived.Test.YtfampdiompjmeaaRows
import Derived.Test.YtfampdiompjmeaaCdN
namespace Go.Proofs.Ytfampdiompjmeaa
open Go.ChangeShapes Go.WideShapes Go.ChangeAt Go.RowKit Go.Deep

theorem Try.own : ownKnob Try.prog.godebug = none := by kernel_rfl
theorem Try.laidOut : laidOutB Try.prog = true := by kernel_rfl
theorem cellsDr : Try.prog.cellsOf 41 = 5 := by kernel_rfl
theorem cellsPo : Try.prog.cellsOf 46 = 3 := by kernel_rfl

section
variable {H : Type} {enc : TypeId × Value → H} {w : World} {base : Nat} {spare : Nat → Bool} {held : Bool}

set_option maxRecDepth 100000 in
theorem open_drying {r : Reach} {b0 : Nat} {v : Value} {d : DataW H} {p : List MemPlace} (hv : Value.okWide Try.prog w r b0 41 v) (h : DataW.Trod enc Try.prog w base spare held 41 v d p) :
    ∃ d : Dr, v = .agg (dcells d) := by
  obtain ⟨cs, rfl, hsz⟩ := okWide_struct Try.underlying41 hv
  obtain ⟨l⟩ := cs
  match l, hsz.trans cellsDr with
  | [c0, c1, c2, c3, c4], _ =>
    obtain ⟨fuel, hf⟩ := h
    obtain ⟨xs, n, _, _, _, hlen, hg⟩ := DataW.trod_struct Try.underlying41 hf
    have at_ : ∀ i, i < xs.length → ∃ y, xs[i]? = some y := fun i hi => ⟨_, List.getElem?_eq_getElem hi⟩
    have hlen3 : xs.length = 3 := hlen
    obtain ⟨y0, hy0⟩ := at_ 0 (by omega)
    obtain ⟨y1, hy1⟩ := at_ 1 (by omega)
    obtain ⟨y2, hy2⟩ := at_ 2 (by omega)
    have g0 : DataW.trod enc Try.prog w base spare held n 26 ((List.drop 0 [c0, c1, c2, c3, c4]).take (Try.prog.cellsOf 26)) = some y0 := (hg 0 _ rfl).trans hy0
    have g1 : DataW.trod enc Try.prog w base spare held n 26 ((List.drop 2 [c0, c1, c2, c3, c4]).take (Try.prog.cellsOf 26)) = some y1 := (hg 1 _ rfl).trans hy1
    have g2 : DataW.trod enc Try.prog w base spare held n 3 ((List.drop 4 [c0, c1, c2, c3, c4]).take (Try.prog.cellsOf 3)) = some y2 := (hg 2 _ rfl).trans hy2
    simp only [cellsI, cellsSp, List.drop_zero, List.drop_succ_cons, List.take_succ_cons, List.take_zero] at g0 g1 g2
    obtain ⟨wl, wh, rfl, rfl⟩ := open_span_raw g0
    obtain ⟨ll, lh, rfl, rfl⟩ := open_span_raw g1
    obtain ⟨m, rfl⟩ := open_int_raw g2
    exact ⟨⟨wl, wh, ll, lh, m⟩, rfl⟩

set_option maxRecDepth 100000 in
theorem open_pond {r : Reach} {b0 : Nat} {v : Value} {d : DataW H} {p : List MemPlace} (hv : Value.okWide Try.prog w r b0 46 v) (h : DataW.Trod enc Try.prog w base spare held 46 v d p) :
    ∃ p : Po, v = .agg (pcells p) := by
  obtain ⟨cs, rfl, hsz⟩ := okWide_struct Try.underlying46 hv
  obtain ⟨l⟩ := cs
  match l, hsz.trans cellsPo with
  | [c0, c1, c2], _ =>
    obtain ⟨fuel, hf⟩ := h
    obtain ⟨xs, n, _, _, _, hlen, hg⟩ := DataW.trod_struct Try.underlying46 hf
    have at_ : ∀ i, i < xs.length → ∃ y, xs[i]? = some y := fun i hi => ⟨_, List.getElem?_eq_getElem hi⟩
    have hlen2 : xs.length = 2 := hlen
    obtain ⟨y0, hy0⟩ := at_ 0 (by omega)
    obtain ⟨y1, hy1⟩ := at_ 1 (by omega)
    have g0 : DataW.trod enc Try.prog w base spare held n 26 ((List.drop 0 [c0, c1, c2]).take (Try.prog.cellsOf 26)) = some y0 := (hg 0 _ rfl).trans hy0
    have g1 : DataW.trod enc Try.prog w base spare held n 3 ((List.drop 2 [c0, c1, c2]).take (Try.prog.cellsOf 3)) = some y1 := (hg 1 _ rfl).trans hy1
    simp only [cellsI, cellsSp, List.drop_zero, List.drop_succ_cons, List.take_succ_cons, List.take_zero] at g0 g1
    obtain ⟨ol, oh, rfl, rfl⟩ := open_span_raw g0
    obtain ⟨m, rfl⟩ := open_int_raw g1
    exact ⟨⟨ol, oh, m⟩, rfl⟩
end

set_option maxRecDepth 100000 in
set_option maxHeartbeats 4000000 in
theorem cureDries_lifted (os : Os) (started : os.Started) (H : Type) (enc : TypeId × Value → H) :
    ReturnsInHanded {} Try.checked os 6 .any (Rows.cureDriesSpec.pre6 enc Try.prog Try.f6 Rows.cureDriesRow.domain false) (Rows.cureDriesSpec.post enc Try.prog Try.f6 false true false false) := by
  refine returnsInHanded_of_change (C := Try.checked) Try.own started (by kernel_rfl) Try.func6
    (ChangeSpec.witness6 (enc := enc) (C := Try.checked) false ⟨#[], #[.agg #[.int .i64 0, .int .i64 0, .int .i64 0, .int .i64 0, .int .i64 0], .agg #[.int .i64 0, .int .i64 0, .int .i64 0], .slice none 0 0], []⟩ 8 (by kernel_rfl) (by kernel_rfl) (by kernel_rfl) (by kernel_rfl)) ?_
  intro W base args ds gs before hval0 hW hcnd _
  have hval : ∀ (j : Nat) t v, Try.f6.params[j]? = some t → args[j]? = some v → Value.okWide Try.prog W .any base t v := hval0
  have hW' := hW
  obtain ⟨p, q, hA0, hV, rfl, hfz, hnd⟩ := hW
  have hA : DataW.TrodAll enc Try.prog W 0 (fun _ => true) true Try.f6.params.toList args.toList ds p := hA0
  rw [Try.params6] at hA hval
  obtain ⟨v0, v1, v2, d0, d1, d2, p0, p1, p2, rfl, rfl, rfl, h0, h1, h2⟩ := trodAll_three hA
  obtain ⟨rfl, rfl⟩ := trodVars_none hV
  obtain ⟨d, rfl⟩ := open_drying (hval 0 41 v0 rfl rfl) h0
  obtain ⟨po, rfl⟩ := open_pond (hval 1 46 v1 rfl rfl) h1
  obtain ⟨P2, zs, k2, rfl, l2, hk2, hZ⟩ := open_ints_arg2 (hval 2 47 v2 rfl rfl) h2
  clear hA0 hval0
  simp only [List.append_nil, List.append_assoc] at hW'
  have hlt0 : ∀ x ∈ p0, x.block < W.heap.size := fun x hx => hW'.lt x (by simp [hx])
  have hlt1 : ∀ x ∈ p1, x.block < W.heap.size := fun x hx => hW'.lt x (by simp [hx])
  have hlt2 : ∀ x ∈ p2, x.block < W.heap.size := fun x hx => hW'.lt x (by simp [hx])
  refine (cureDries_law d po zs P2 k2 W hZ (by simp only [maxLen] at l2; omega)).mono fun e W' ⟨he, hB⟩ => ?_
  subst he
  refine ⟨_, rfl, _, _, _, [], p0 ++ (p1 ++ p2), [], hW', ?_, ?_, rfl, hB.frame _, fun h => by cases h⟩
  · exact trodAll_mk1 (shut_bool Try.underlying4 true)
  · exact trodAll_mk3 (Below.trod Try.laidOut (by kernel_rfl) (of_decide_eq_true (by kernel_rfl)) h0 hB hlt0) (Below.trod Try.laidOut (by kernel_rfl) (of_decide_eq_true (by kernel_rfl)) h1 hB hlt1) (Below.trod Try.laidOut (by kernel_rfl) (of_decide_eq_true (by kernel_rfl)) h2 hB hlt2)

theorem cureDries : Rows.CureDriesSaid :=
  OpenClaim.holds_of_wide 6 Try.f6 rfl rfl rfl rfl rfl rfl rfl ⟨rfl, rfl, rfl, rfl, rfl⟩ rfl rfl rfl rfl rfl (by kernel_rfl) Try.func6 (by kernel_rfl)
    (of_decide_eq_true (by kernel_rfl)) (by unfold Func.isWrapper; rw [if_neg (by decide +kernel)]; exact ⟨rfl, rfl⟩)
    (fun os started H enc _ => cureDries_lifted os started H enc)

end Go.Proofs.Ytfampdiompjmeaa
