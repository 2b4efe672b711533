/-
  For every batch, every number that picks a spread, all hours and every turn that come in, the law CureOrder returns true, and each argument reads afterwards as it read before.
  Conditions: none beyond the row's own.
-/
import Derived.Test.YtfampdiompjmeaaRows
import Derived.Test.YtfampdiompjmeaaCgZ
import Derived.Test.YtfampdiompjmeaaCeQ
namespace Go.Proofs.Ytfampdiompjmeaa
open Go.ChangeShapes Go.WideShapes Go.ChangeAt Go.RowKit Go.Deep

section
variable {H : Type} {enc : TypeId × Value → H} {w : World} {base : Nat} {spare : Nat → Bool} {held : Bool}

theorem open_rows_cap {fuel : Nat} {c : Value} {x : DataW H × List MemPlace} (h : DataW.trod enc Try.prog w base spare held fuel 24 [c] = some x) :
    ∃ (A : Option Addr) (l : List Sl) (cap : Nat), c = .slice A l.length cap ∧ l.length ≤ maxLen ∧ Rows w w.heap.size A l ∧ (∀ s ∈ l, s.zs.length ≤ maxLen) ∧ l.length ≤ cap := by
  rcases open_slice1 Try.underlying24 cellsSl h with ⟨hc, _⟩ | ⟨a, len, cap, m, n, V, D, Pl, hc, _, hl, hm, hmm, _, hi⟩
  · simp only [List.cons.injEq, and_true] at hc
    exact ⟨none, [], 0, hc, by simp, ⟨fun h => by simp [slvs] at h, fun s hs => by cases hs⟩, (fun s hs => (by cases hs)), Nat.le_refl _⟩
  · simp only [List.cons.injEq, and_true] at hc
    have hle : len ≤ m := by rw [hmm]; split <;> omega
    have hv : ∀ i, i < len → ∃ s : Sl, w.cell? (a.add i) = some (slv s) ∧ Ints w w.heap.size s.A s.zs ∧ s.zs.length ≤ maxLen := fun i h => by
      obtain ⟨h1, h2⟩ := hi i (by omega)
      obtain ⟨A, zs, c, e, _, e2, e3⟩ := open_ints_raw h2
      exact ⟨⟨A, c, zs⟩, by rw [h1, e]; rfl, e3, e2⟩
    obtain ⟨f, hf⟩ : ∃ f : Nat → Sl, ∀ i, i < len → w.cell? (a.add i) = some (slv (f i)) ∧ Ints w w.heap.size (f i).A (f i).zs ∧ (f i).zs.length ≤ maxLen :=
      ⟨fun i => if h : i < len then (hv i h).choose else ⟨none, 0, []⟩, fun i h => by simp only [h, dif_pos]; exact (hv i h).choose_spec⟩
    have hl2 : ((List.range len).map f).length = len := by simp
    refine ⟨some a, (List.range len).map f, cap, by rw [hl2]; exact hc, by rw [hl2]; omega, ⟨fun h0 => ?_, fun s hs => ?_⟩, fun s hs => ?_, by rw [hl2]; exact hl⟩
    · rw [slvs_len, hl2] at h0
      have h1 := (hf 0 (by omega)).1
      obtain ⟨b, off, spot⟩ := a
      have hs1 : spot = none := by
        have e0 : (⟨b, off, spot⟩ : Addr).add 0 = ⟨b, off, spot⟩ := by simp [Addr.add]
        rw [e0] at h1
        exact World.cell?_spot h1
      subst hs1
      rw [Addr.add_mid] at h1
      refine ⟨b, off, rfl, lt_of_cell h1, fun k v hk => ?_⟩
      have hkl : k < len := by
        have := (List.getElem?_eq_some_iff.1 hk).1
        rw [slvs_len, hl2] at this
        exact this
      have h2 := (hf k hkl).1
      rw [Addr.add_mid] at h2
      rw [h2, ← hk]
      simp [slvs, hkl]
    · simp only [List.mem_map, List.mem_range] at hs
      obtain ⟨i, hi', rfl⟩ := hs
      exact (hf i hi').2.1
    · simp only [List.mem_map, List.mem_range] at hs
      obtain ⟨i, hi', rfl⟩ := hs
      exact (hf i hi').2.2

set_option maxRecDepth 100000 in
theorem open_batch_cap {r : Reach} {b0 : Nat} {v : Value} {d : DataW H} {p : List MemPlace} (hv : Value.okWide Try.prog w r b0 28 v) (h : DataW.Trod enc Try.prog w base spare held 28 v d p) :
    ∃ (t : Bt) (A : Option Addr) (l : List Sl) (cap : Nat), v = .agg (btcells t (.slice A l.length cap)) ∧ l.length ≤ maxLen ∧ Rows w w.heap.size A l ∧ (∀ s ∈ l, s.zs.length ≤ maxLen) ∧ l.length ≤ cap := by
  obtain ⟨cs, rfl, hsz⟩ := okWide_struct Try.underlying28 hv
  obtain ⟨l⟩ := cs
  match l, hsz.trans cellsBatch with
  | [c0, c1, c2, c3, c4, c5], _ =>
    obtain ⟨fuel, hf⟩ := h
    obtain ⟨xs, n, _, _, _, hlen, hg⟩ := DataW.trod_struct Try.underlying28 hf
    have at_ : ∀ i, i < xs.length → ∃ y, xs[i]? = some y := fun i hi => ⟨_, List.getElem?_eq_getElem hi⟩
    have hlen5 : xs.length = 5 := hlen
    obtain ⟨y0, hy0⟩ := at_ 0 (by omega)
    obtain ⟨y1, hy1⟩ := at_ 1 (by omega)
    obtain ⟨y2, hy2⟩ := at_ 2 (by omega)
    obtain ⟨y3, hy3⟩ := at_ 3 (by omega)
    obtain ⟨y4, hy4⟩ := at_ 4 (by omega)
    have g0 : DataW.trod enc Try.prog w base spare held n 3 ((List.drop 0 [c0, c1, c2, c3, c4, c5]).take (Try.prog.cellsOf 3)) = some y0 := (hg 0 _ rfl).trans hy0
    have g1 : DataW.trod enc Try.prog w base spare held n 3 ((List.drop 1 [c0, c1, c2, c3, c4, c5]).take (Try.prog.cellsOf 3)) = some y1 := (hg 1 _ rfl).trans hy1
    have g2 : DataW.trod enc Try.prog w base spare held n 24 ((List.drop 2 [c0, c1, c2, c3, c4, c5]).take (Try.prog.cellsOf 24)) = some y2 := (hg 2 _ rfl).trans hy2
    have g3 : DataW.trod enc Try.prog w base spare held n 26 ((List.drop 3 [c0, c1, c2, c3, c4, c5]).take (Try.prog.cellsOf 26)) = some y3 := (hg 3 _ rfl).trans hy3
    have g4 : DataW.trod enc Try.prog w base spare held n 3 ((List.drop 5 [c0, c1, c2, c3, c4, c5]).take (Try.prog.cellsOf 3)) = some y4 := (hg 4 _ rfl).trans hy4
    simp only [cellsI, cellsSp, cellsRows, List.drop_zero, List.drop_succ_cons, List.take_succ_cons, List.take_zero] at g0 g1 g2 g3 g4
    obtain ⟨a, rfl⟩ := open_int_raw g0
    obtain ⟨b, rfl⟩ := open_int_raw g1
    obtain ⟨A, l, cap, rfl, hl, hR, hZ, hC⟩ := open_rows_cap g2
    obtain ⟨lo, hi, rfl, rfl⟩ := open_span_raw g3
    obtain ⟨m, rfl⟩ := open_int_raw g4
    exact ⟨⟨a, b, lo, hi, m⟩, A, l, cap, rfl, hl, hR, hZ, hC⟩
end


set_option maxRecDepth 100000 in
set_option maxHeartbeats 4000000 in
theorem cureOrder_lifted (os : Os) (started : os.Started) (H : Type) (enc : TypeId × Value → H) :
    ReturnsInHanded {} Try.checked os 11 .any (Rows.cureOrderSpec.pre6 enc Try.prog Try.f11 Rows.cureOrderRow.domain false) (Rows.cureOrderSpec.post enc Try.prog Try.f11 false true false false) := by
  refine returnsInHanded_of_change (C := Try.checked) Try.own started (by kernel_rfl) Try.func11
    (ChangeSpec.witness6 (enc := enc) (C := Try.checked) false ⟨#[], #[.agg #[.int .i64 0, .int .i64 0, .slice none 0 0, .int .i64 0, .int .i64 0, .int .i64 0], .int .u8 0, .int .u8 0, .int .u8 0], []⟩ 8 (by kernel_rfl) (by kernel_rfl) (by kernel_rfl) (by kernel_rfl)) ?_
  intro W base args ds gs before hval0 hW hcnd _
  have hval : ∀ (j : Nat) t v, Try.f11.params[j]? = some t → args[j]? = some v → Value.okWide Try.prog W .any base t v := hval0
  have hW' := hW
  obtain ⟨p, q, hA0, hV, rfl, hfz, hnd⟩ := hW
  have hA : DataW.TrodAll enc Try.prog W 0 (fun _ => true) true Try.f11.params.toList args.toList ds p := hA0
  rw [Try.params11] at hA hval
  obtain ⟨v0, v1, v2, v3, d0, d1, d2, d3, p0, p1, p2, p3, rfl, rfl, rfl, h0, h1, h2, h3⟩ := trodAll_four hA
  obtain ⟨rfl, rfl⟩ := trodVars_none hV
  obtain ⟨t, A, l, c, rfl, hll, hR, hz, hcap⟩ := open_batch_cap (hval 0 28 v0 rfl rfl) h0
  obtain ⟨x, rfl, rfl, rfl, wx⟩ := open_int Try.underlying5 (hval 1 5 v1 rfl rfl) h1
  obtain ⟨y, rfl, rfl, rfl, wy⟩ := open_int Try.underlying5 (hval 2 5 v2 rfl rfl) h2
  obtain ⟨z, rfl, rfl, rfl, wz⟩ := open_int Try.underlying5 (hval 3 5 v3 rfl rfl) h3
  have rx := wx
  simp [Lit.wf, IntKind.min, IntKind.max, IntKind.signed, IntKind.bits] at rx
  have ry := wy
  simp [Lit.wf, IntKind.min, IntKind.max, IntKind.signed, IntKind.bits] at ry
  have rz := wz
  simp [Lit.wf, IntKind.min, IntKind.max, IntKind.signed, IntKind.bits] at rz
  clear hA0 hval0
  simp only [List.append_nil] at hW'
  have hlt0 : ∀ x ∈ p0, x.block < W.heap.size := fun x hx => hW'.lt x (by simp [hx])
  refine (cureOrder_law t A c l x y z W hR (by simp only [maxLen] at hll; omega) (fun s hs => by have := hz s hs; simp only [maxLen] at this; omega) hcap (by omega) (by omega) (by omega) (by omega) (by omega) (by omega)).mono fun e W' ⟨he, hB⟩ => ?_
  subst he
  refine ⟨_, rfl, _, _, _, [], p0 ++ ([] ++ ([] ++ ([]))), [], hW', ?_, ?_, rfl, hB.frame _, fun h => by cases h⟩
  · exact trodAll_mk1 (shut_bool Try.underlying4 true)
  · exact trodAll_mk4 (Below.trod Try.laidOut (by kernel_rfl) (of_decide_eq_true (by kernel_rfl)) h0 hB hlt0) (shut_int Try.underlying5 wx) (shut_int Try.underlying5 wy) (shut_int Try.underlying5 wz)

theorem cureOrder : Rows.CureOrderSaid :=
  OpenClaim.holds_of_wide 11 Try.f11 rfl rfl rfl rfl rfl rfl rfl ⟨rfl, rfl, rfl, rfl, rfl⟩ rfl rfl rfl rfl rfl (by kernel_rfl) Try.func11 (by kernel_rfl)
    (of_decide_eq_true (by kernel_rfl)) (by unfold Func.isWrapper; rw [if_neg (by decide +kernel)]; exact ⟨rfl, rfl⟩)
    (fun os started H enc _ => cureOrder_lifted os started H enc)

end Go.Proofs.Ytfampdiompjmeaa
