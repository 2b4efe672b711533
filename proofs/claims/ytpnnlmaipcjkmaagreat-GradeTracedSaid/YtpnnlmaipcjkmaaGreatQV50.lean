/-
  Groves and soaks that come in, opened.
-/
import Derived.Test.YtpnnlmaipcjkmaaGreatQV40
import Derived.Test.YtpnnlmaipcjkmaaGreatQV31
import Derived.Test.YtpnnlmaipcjkmaaGreatQV48
set_option linter.all false
namespace Go.Proofs.YtpnnlmaipcjkmaaGreat
open Go.ChangeShapes Go.WideShapes Go.ChangeAt Go.RowKit Go.Deep

section
variable {H : Type} {enc : TypeId × Value → H} {P : Program} {w : World} {base : Nat} {spare : Nat → Bool} {held : Bool}
theorem open_sliceNR {α : Type} [Inhabited α] {f : α → List Value} {n : Nat} (hf : ∀ x, (f x).length = n) (hn : 0 < n) {t e : TypeId} (ht : P.underlying t = some (.slice e)) (hc : P.cellsOf e = n)
    {Q : α → Prop} (HO : ∀ fuel cs x, cs.length = n → DataW.trod enc P w base spare held fuel e cs = some x → ∃ y : α, cs = f y ∧ Q y) {fuel : Nat} {c : Value} {x : DataW H × List MemPlace} (h : DataW.trod enc P w base spare held fuel t [c] = some x) :
    ∃ (A : Option Addr) (l : List α) (cap : Nat), c = .slice A l.length cap ∧ l.length ≤ maxLen ∧ l.length ≤ cap ∧ Vals w w.heap.size A (l.flatMap f) ∧ ∀ y ∈ l, Q y := by
  rcases open_slice ht h with ⟨hc, _⟩ | ⟨a, len, cap, m, k, D, Pl, hcs, _, hl, hm, hmm, _, hx⟩
  · simp only [List.cons.injEq, and_true] at hc
    exact ⟨none, [], 0, hc, by simp, by simp, fun h => by simp at h, fun y hy => by cases hy⟩
  simp only [List.cons.injEq, and_true] at hcs
  have hle : len ≤ m := by rw [hmm]; split <;> omega
  rw [hc] at hx
  obtain ⟨g, hg⟩ : ∃ g : Nat → α, ∀ i, i < len → (∀ j v, (f (g i))[j]? = some v → w.cell? (a.add (i * n + j)) = some v) ∧ Q (g i) := by
    have key : ∀ i, i < len → ∃ y : α, (∀ j v, (f y)[j]? = some v → w.cell? (a.add (i * n + j)) = some v) ∧ Q y := fun i hi => by
      obtain ⟨cs', h1, h2⟩ := hx i (by omega)
      obtain ⟨_, hlen, hcell⟩ := World.cells?_some h1
      obtain ⟨y, rfl, hQ⟩ := HO _ _ _ hlen h2
      refine ⟨y, fun j v hv => ?_, hQ⟩
      have hj : j < n := by rw [← hlen]; exact (List.getElem?_eq_some_iff.1 hv).1
      have := hcell j hj
      rw [add_add] at this
      rw [this, hv]
    exact ⟨fun i => if h : i < len then (key i h).choose else default, fun i h => by simp only [h, dif_pos]; exact (key i h).choose_spec⟩
  have hl2 : ((List.range len).map g).length = len := by simp
  refine ⟨some a, (List.range len).map g, cap, by rw [hl2]; exact hcs, by rw [hl2]; omega, by rw [hl2]; exact hl, fun h0 => ?_, fun y hy => ?_⟩
  rotate_left
  · simp only [List.mem_map, List.mem_range] at hy
    obtain ⟨i, hi', rfl⟩ := hy
    exact (hg i hi').2
  have hfl := flat_len hf ((List.range len).map g)
  rw [hl2] at hfl
  rw [hfl] at h0
  have hlen0 : 0 < len := Nat.pos_of_mul_pos_right h0
  have hj0 : 0 < (f (g 0)).length := by rw [hf]; exact hn
  have h1 := (hg 0 hlen0).1 0 _ (List.getElem?_eq_getElem hj0)
  obtain ⟨b, off, spot⟩ := a
  have hs1 : spot = none := by
    have e0 : (⟨b, off, spot⟩ : Addr).add (0 * n + 0) = ⟨b, off, spot⟩ := by simp [Addr.add]
    rw [e0] at h1
    exact World.cell?_spot h1
  subst hs1
  rw [Addr.add_mid] at h1
  refine ⟨b, off, rfl, lt_of_cell h1, fun k v hv => ?_⟩
  have hk : k < len * n := by rw [← hfl]; exact (List.getElem?_eq_some_iff.1 hv).1
  have hq : k / n < len := Nat.div_lt_of_lt_mul (by rw [Nat.mul_comm]; exact hk)
  have hr : k % n < n := Nat.mod_lt _ hn
  have hke : k = k / n * n + k % n := by rw [Nat.mul_comm]; exact (Nat.div_add_mod k n).symm
  have hat := flat_at hf ((List.range len).map g) (k / n) (by rw [hl2]; exact hq) (k % n) hr
  rw [← hke, hv] at hat
  simp only [List.getElem_map, List.getElem_range] at hat
  have := (hg (k / n) hq).1 (k % n) v hat.symm
  rw [Addr.add_mid, ← hke] at this
  exact this
end

section
variable {H : Type} {enc : TypeId × Value → H} {w : World} {base : Nat} {spare : Nat → Bool} {held : Bool}
instance : Inhabited Sk := ⟨⟨⟨0, 0, 0, 0, 0⟩, [], none, 0, 0⟩⟩
end

section
variable {H : Type} {enc : TypeId × Value → H} {w : World} {base : Nat} {spare : Nat → Bool} {held : Bool}
theorem cellsHR : Tryz.prog.cellsOf 71 = 6 := by kernel_rfl
theorem cellsSeR : Tryz.prog.cellsOf 72 = 1 := by kernel_rfl
theorem cellsGR : Tryz.prog.cellsOf 74 = 10 := by kernel_rfl
theorem open_pairsR {fuel : Nat} {c : Value} {x : DataW H × List MemPlace} (h : DataW.trod enc Tryz.prog w base spare held fuel 72 [c] = some x) :
    ∃ (A : Option Addr) (ss : List (Int × Int)) (cap : Nat), c = .slice A ss.length cap ∧ ss.length ≤ cap ∧ ss.length ≤ maxLen ∧ Vals w w.heap.size A (pairs ss) := by
  rcases open_slice_pairs Tryz.underlying72 Tryz.underlying130 (by kernel_rfl) rfl rfl (by kernel_rfl) (by kernel_rfl) h with ⟨hc, _⟩ | ⟨a, len, cap, m, n, V0, V1, D0, D1, P0, P1, hc, _, hl, hm, hmm, _, hi⟩
  · simp only [List.cons.injEq, and_true] at hc
    exact ⟨none, [], 0, hc, Nat.le_refl _, by simp, fun h => by simp [pairs] at h⟩
  · simp only [List.cons.injEq, and_true] at hc
    have hle : len ≤ m := by rw [hmm]; split <;> omega
    have hv : ∀ i, i < len → ∃ p : Int × Int, w.cell? (a.add (i * 2)) = some (.int .i64 p.1) ∧ w.cell? (a.add (i * 2 + 1)) = some (.int .i64 p.2) := fun i h => by
      obtain ⟨h1, h2, h3, h4⟩ := hi i (by omega)
      obtain ⟨x, hx⟩ := open_int_raw h3
      obtain ⟨y, hy⟩ := open_int_raw h4
      exact ⟨(x, y), by rw [h1, hx], by rw [h2, hy]⟩
    obtain ⟨f, hf⟩ : ∃ f : Nat → Int × Int, ∀ i, i < len → w.cell? (a.add (i * 2)) = some (.int .i64 (f i).1) ∧ w.cell? (a.add (i * 2 + 1)) = some (.int .i64 (f i).2) :=
      ⟨fun i => if h : i < len then (hv i h).choose else (0, 0), fun i h => by simp only [h, dif_pos]; exact (hv i h).choose_spec⟩
    have hl2 : ((List.range len).map f).length = len := by simp
    refine ⟨some a, (List.range len).map f, cap, by rw [hl2]; exact hc, by rw [hl2]; exact hl, by rw [hl2]; omega, fun h0 => ?_⟩
    rw [pairs_len, hl2] at h0
    have h1 := (hf 0 (by omega)).1
    obtain ⟨b, off, spot⟩ := a
    have hs1 : spot = none := by
      have e0 : (⟨b, off, spot⟩ : Addr).add (0 * 2) = ⟨b, off, spot⟩ := by simp [Addr.add]
      rw [e0] at h1
      exact World.cell?_spot h1
    subst hs1
    rw [Addr.add_mid] at h1
    refine ⟨b, off, rfl, lt_of_cell h1, fun j u hj => ?_⟩
    have hjl : j < (pairs ((List.range len).map f)).length := (List.getElem?_eq_some_iff.1 hj).1
    rw [pairs_len, hl2] at hjl
    have hk : j / 2 < len := by omega
    have hp := pairs_at ((List.range len).map f) (j / 2) (by rw [hl2]; exact hk)
    have hq := hf (j / 2) hk
    rw [Addr.add_mid, Addr.add_mid] at hq
    have hg : ((List.range len).map f)[j / 2]?.getD (0, 0) = f (j / 2) := by simp [hk]
    rw [hg] at hp
    rcases Nat.mod_two_eq_zero_or_one j with hm2 | hm2
    · rw [show j = j / 2 * 2 by omega] at hj ⊢
      rw [hp.1] at hj
      rw [← hj]; exact hq.1
    · rw [show j = j / 2 * 2 + 1 by omega] at hj ⊢
      rw [hp.2] at hj
      rw [← hj]; exact hq.2
theorem open_habitR {fuel : Nat} {cs : List Value} {x : DataW H × List MemPlace} (hl : cs.length = 6) (h : DataW.trod enc Tryz.prog w base spare held fuel 71 cs = some x) :
    ∃ hb : Hab, cs = hcells hb := by
  match cs, hl with
  | [c0, c1, c2, c3, c4, c5], _ =>
    obtain ⟨xs, n, _, _, _, hlen, hg⟩ := DataW.trod_struct Tryz.underlying71 h
    have at_ : ∀ i, i < xs.length → ∃ y, xs[i]? = some y := fun i hi => ⟨_, List.getElem?_eq_getElem hi⟩
    have hlen5 : xs.length = 5 := hlen
    obtain ⟨y0, hy0⟩ := at_ 0 (by omega)
    obtain ⟨y1, hy1⟩ := at_ 1 (by omega)
    obtain ⟨y2, hy2⟩ := at_ 2 (by omega)
    obtain ⟨y3, hy3⟩ := at_ 3 (by omega)
    obtain ⟨y4, hy4⟩ := at_ 4 (by omega)
    have g0 : DataW.trod enc Tryz.prog w base spare held n 50 ((List.drop 0 [c0, c1, c2, c3, c4, c5]).take (Tryz.prog.cellsOf 50)) = some y0 := (hg 0 _ rfl).trans hy0
    have g1 : DataW.trod enc Tryz.prog w base spare held n 3 ((List.drop 2 [c0, c1, c2, c3, c4, c5]).take (Tryz.prog.cellsOf 3)) = some y1 := (hg 1 _ rfl).trans hy1
    have g2 : DataW.trod enc Tryz.prog w base spare held n 3 ((List.drop 3 [c0, c1, c2, c3, c4, c5]).take (Tryz.prog.cellsOf 3)) = some y2 := (hg 2 _ rfl).trans hy2
    have g3 : DataW.trod enc Tryz.prog w base spare held n 3 ((List.drop 4 [c0, c1, c2, c3, c4, c5]).take (Tryz.prog.cellsOf 3)) = some y3 := (hg 3 _ rfl).trans hy3
    have g4 : DataW.trod enc Tryz.prog w base spare held n 3 ((List.drop 5 [c0, c1, c2, c3, c4, c5]).take (Tryz.prog.cellsOf 3)) = some y4 := (hg 4 _ rfl).trans hy4
    simp only [cellsI, cellsSp, List.drop_zero, List.drop_succ_cons, List.take_succ_cons, List.take_zero] at g0 g1 g2 g3 g4
    obtain ⟨be, rfl⟩ := open_int_raw g1
    obtain ⟨ri, rfl⟩ := open_int_raw g2
    obtain ⟨di, rfl⟩ := open_int_raw g3
    obtain ⟨ke, rfl⟩ := open_int_raw g4
    obtain ⟨zs, n', _, _, _, hlen', hg'⟩ := DataW.trod_struct Tryz.underlying50 g0
    have at2 : ∀ i, i < zs.length → ∃ y, zs[i]? = some y := fun i hi => ⟨_, List.getElem?_eq_getElem hi⟩
    have hlen2 : zs.length = 2 := hlen'
    obtain ⟨z0, hz0⟩ := at2 0 (by omega)
    obtain ⟨z1, hz1⟩ := at2 1 (by omega)
    have k0 : DataW.trod enc Tryz.prog w base spare held n' 3 ((List.drop 0 [c0, c1]).take (Tryz.prog.cellsOf 3)) = some z0 := (hg' 0 _ rfl).trans hz0
    have k1 : DataW.trod enc Tryz.prog w base spare held n' 3 ((List.drop 1 [c0, c1]).take (Tryz.prog.cellsOf 3)) = some z1 := (hg' 1 _ rfl).trans hz1
    simp only [cellsI, List.drop_zero, List.drop_succ_cons, List.take_succ_cons, List.take_zero] at k0 k1
    obtain ⟨lo, rfl⟩ := open_int_raw k0
    obtain ⟨hi, rfl⟩ := open_int_raw k1
    exact ⟨⟨lo, hi, be, ri, di, ke⟩, rfl⟩

set_option maxRecDepth 100000 in
theorem open_groveR (fuel : Nat) (cs : List Value) (x : DataW H × List MemPlace) (hl : cs.length = 10) (h : DataW.trod enc Tryz.prog w base spare held fuel 74 cs = some x) :
    ∃ y : Gv, cs = gvl y ∧ GrAt w w.heap.size y.g y.A1 y.c1 y.A2 y.c2 := by
  match cs, hl with
  | [c0, c1, c2, c3, c4, c5, c6, c7, c8, c9], _ =>
    obtain ⟨xs, n, _, _, _, hlen, hg⟩ := DataW.trod_struct Tryz.underlying74 h
    have at_ : ∀ i, i < xs.length → ∃ y, xs[i]? = some y := fun i hi => ⟨_, List.getElem?_eq_getElem hi⟩
    have hlen5 : xs.length = 5 := hlen
    obtain ⟨y0, hy0⟩ := at_ 0 (by omega)
    obtain ⟨y1, hy1⟩ := at_ 1 (by omega)
    obtain ⟨y2, hy2⟩ := at_ 2 (by omega)
    obtain ⟨y3, hy3⟩ := at_ 3 (by omega)
    obtain ⟨y4, hy4⟩ := at_ 4 (by omega)
    have g0 : DataW.trod enc Tryz.prog w base spare held n 3 ((List.drop 0 [c0, c1, c2, c3, c4, c5, c6, c7, c8, c9]).take (Tryz.prog.cellsOf 3)) = some y0 := (hg 0 _ rfl).trans hy0
    have g1 : DataW.trod enc Tryz.prog w base spare held n 71 ((List.drop 1 [c0, c1, c2, c3, c4, c5, c6, c7, c8, c9]).take (Tryz.prog.cellsOf 71)) = some y1 := (hg 1 _ rfl).trans hy1
    have g2 : DataW.trod enc Tryz.prog w base spare held n 3 ((List.drop 7 [c0, c1, c2, c3, c4, c5, c6, c7, c8, c9]).take (Tryz.prog.cellsOf 3)) = some y2 := (hg 2 _ rfl).trans hy2
    have g3 : DataW.trod enc Tryz.prog w base spare held n 59 ((List.drop 8 [c0, c1, c2, c3, c4, c5, c6, c7, c8, c9]).take (Tryz.prog.cellsOf 59)) = some y3 := (hg 3 _ rfl).trans hy3
    have g4 : DataW.trod enc Tryz.prog w base spare held n 72 ((List.drop 9 [c0, c1, c2, c3, c4, c5, c6, c7, c8, c9]).take (Tryz.prog.cellsOf 72)) = some y4 := (hg 4 _ rfl).trans hy4
    simp only [cellsI, cellsHR, cellsSl, cellsSeR, List.drop_zero, List.drop_succ_cons, List.take_succ_cons, List.take_zero] at g0 g1 g2 g3 g4
    obtain ⟨id, rfl⟩ := open_int_raw g0
    obtain ⟨fi, rfl⟩ := open_int_raw g2
    obtain ⟨hb, hhb⟩ := open_habitR rfl g1
    obtain ⟨A1, zs, k1, rfl, hk1, hm1, hI⟩ := open_ints_raw g3
    obtain ⟨A2, ss, k2, rfl, hk2, hm2, hV⟩ := open_pairsR g4
    simp only [hcells, List.cons.injEq, and_true] at hhb
    obtain ⟨rfl, rfl, rfl, rfl, rfl, rfl⟩ := hhb
    exact ⟨⟨⟨id, hb, fi, zs, ss⟩, A1, k1, A2, k2⟩, rfl, hI, hV, hk1, hk2, by simp only [maxLen] at hm1; omega, by simp only [maxLen] at hm2; omega⟩

instance : Inhabited Gv := ⟨⟨⟨0, ⟨0, 0, 0, 0, 0, 0⟩, 0, [], []⟩, none, 0, none, 0⟩⟩
set_option maxRecDepth 100000 in
theorem open_groves {r : Reach} {b0 : Nat} {v : Value} {d : DataW H} {p : List MemPlace} (hv : Value.okWide Tryz.prog w r b0 29 v) (h : DataW.Trod enc Tryz.prog w base spare held 29 v d p) :
    ∃ (A : Option Addr) (l : List Gv) (cap : Nat), v = .slice A l.length cap ∧ l.length ≤ 9223372036854775807 ∧ GvsAt w w.heap.size l A := by
  obtain ⟨a0, len0, cap0, rfl⟩ := okWide_slice Tryz.underlying29 hv
  obtain ⟨fuel, hf⟩ := h
  obtain ⟨A, l, cap, he, hl, -, hV, hQ⟩ := open_sliceNR gvl_len (by decide) Tryz.underlying29 cellsGR (Q := fun y => GrAt w w.heap.size y.g y.A1 y.c1 y.A2 y.c2) (fun fuel cs x hl h => open_groveR fuel cs x hl h) hf
  exact ⟨A, l, cap, he, by simp only [maxLen] at hl; exact hl, ⟨hV, hQ⟩⟩
end

end Go.Proofs.YtpnnlmaipcjkmaaGreat
