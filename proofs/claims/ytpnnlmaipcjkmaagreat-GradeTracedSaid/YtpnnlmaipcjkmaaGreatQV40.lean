/-
  Five arguments, opened and laid.
-/
import Derived.Deep.Slices
import Derived.OpenShut
import Derived.Carry
import Derived.Test.YtpnnlmaipcjkmaaGreatQV2
import Derived.Test.YtpnnlmaipcjkmaaGreatQV30
set_option linter.all false
namespace Go.Proofs.YtpnnlmaipcjkmaaGreat
open Go.ChangeShapes Go.WideShapes Go.ChangeAt Go.RowKit Go.Deep

theorem Tryz.own5 : ownKnob Tryz.prog.godebug = none := by kernel_rfl
theorem Tryz.laidOut5 : laidOutB Tryz.prog = true := by kernel_rfl

section
variable {H : Type} {enc : TypeId × Value → H} {P : Program} {w : World} {base : Nat} {spare : Nat → Bool} {held : Bool}
theorem open_sliceN {α : Type} [Inhabited α] {f : α → List Value} {n : Nat} (hf : ∀ x, (f x).length = n) (hn : 0 < n) {t e : TypeId} (ht : P.underlying t = some (.slice e)) (hc : P.cellsOf e = n)
    (HO : ∀ fuel cs x, cs.length = n → DataW.trod enc P w base spare held fuel e cs = some x → ∃ y : α, cs = f y) {fuel : Nat} {c : Value} {x : DataW H × List MemPlace} (h : DataW.trod enc P w base spare held fuel t [c] = some x) :
    ∃ (A : Option Addr) (l : List α) (cap : Nat), c = .slice A l.length cap ∧ l.length ≤ maxLen ∧ l.length ≤ cap ∧ Vals w w.heap.size A (l.flatMap f) := by
  rcases open_slice ht h with ⟨hc, _⟩ | ⟨a, len, cap, m, k, D, Pl, hcs, _, hl, hm, hmm, _, hx⟩
  · simp only [List.cons.injEq, and_true] at hc
    exact ⟨none, [], 0, hc, by simp, by simp, fun h => by simp at h⟩
  simp only [List.cons.injEq, and_true] at hcs
  have hle : len ≤ m := by rw [hmm]; split <;> omega
  rw [hc] at hx
  obtain ⟨g, hg⟩ : ∃ g : Nat → α, ∀ i, i < len → ∀ j v, (f (g i))[j]? = some v → w.cell? (a.add (i * n + j)) = some v := by
    have key : ∀ i, i < len → ∃ y : α, ∀ j v, (f y)[j]? = some v → w.cell? (a.add (i * n + j)) = some v := fun i hi => by
      obtain ⟨cs', h1, h2⟩ := hx i (by omega)
      obtain ⟨_, hlen, hcell⟩ := World.cells?_some h1
      obtain ⟨y, rfl⟩ := HO _ _ _ hlen h2
      refine ⟨y, fun j v hv => ?_⟩
      have hj : j < n := by rw [← hlen]; exact (List.getElem?_eq_some_iff.1 hv).1
      have := hcell j hj
      rw [add_add] at this
      rw [this, hv]
    exact ⟨fun i => if h : i < len then (key i h).choose else default, fun i h => by simp only [h, dif_pos]; exact (key i h).choose_spec⟩
  have hl2 : ((List.range len).map g).length = len := by simp
  refine ⟨some a, (List.range len).map g, cap, by rw [hl2]; exact hcs, by rw [hl2]; omega, by rw [hl2]; exact hl, fun h0 => ?_⟩
  have hfl := flat_len hf ((List.range len).map g)
  rw [hl2] at hfl
  rw [hfl] at h0
  have hlen0 : 0 < len := Nat.pos_of_mul_pos_right h0
  have hj0 : 0 < (f (g 0)).length := by rw [hf]; exact hn
  have h1 := hg 0 hlen0 0 _ (List.getElem?_eq_getElem hj0)
  obtain ⟨b, off, spot⟩ := a
  have hs1 : spot = none := by
    have e0 : (⟨b, off, spot⟩ : Addr).add (0 * n + 0) = ⟨b, off, spot⟩ := by simp [Addr.add]
    rw [e0] at h1
    exact World.cell?_spot h1
  subst hs1
  rw [Addr.add_mid] at h1
  refine ⟨b, off, rfl, lt_of_cell h1, fun k v hv => ?_⟩
  have hk : k < len * n := by rw [← hfl]; exact (List.getElem?_eq_some_iff.1 hv).1
  have hq : k / n < len := Nat.div_lt_of_lt_mul (by rw [Nat.mul_comm]; exact hk)
  have hr : k % n < n := Nat.mod_lt _ hn
  have hke : k = k / n * n + k % n := by rw [Nat.mul_comm]; exact (Nat.div_add_mod k n).symm
  have hat := flat_at hf ((List.range len).map g) (k / n) (by rw [hl2]; exact hq) (k % n) hr
  rw [← hke, hv] at hat
  simp only [List.getElem_map, List.getElem_range] at hat
  have := hg (k / n) hq (k % n) v hat.symm
  rw [Addr.add_mid, ← hke] at this
  exact this
end

section
variable {H : Type} {enc : TypeId × Value → H} {w : World} {base : Nat} {spare : Nat → Bool} {held : Bool}
theorem cellsI5 : Tryz.prog.cellsOf 3 = 1 := by kernel_rfl
theorem cellsA3 : Tryz.prog.cellsOf 54 = 3 := by kernel_rfl
theorem cellsB5 : Tryz.prog.cellsOf 4 = 1 := by kernel_rfl
theorem cellsS3 : Tryz.prog.cellsOf 51 = 6 := by kernel_rfl
theorem cellsSp5 : Tryz.prog.cellsOf 50 = 2 := by kernel_rfl
theorem cellsPole5 : Tryz.prog.cellsOf 56 = 12 := by kernel_rfl
theorem cellsTest5 : Tryz.prog.cellsOf 58 = 5 := by kernel_rfl
theorem cellsGrade5 : Tryz.prog.cellsOf 53 = 8 := by kernel_rfl
theorem open_int5 {fuel : Nat} {c : Value} {o : Option (DataW H × List MemPlace)} (h : DataW.trod enc Tryz.prog w base spare held fuel 3 [c] = o) (ho : o ≠ none) : ∃ n : Int, c = .int .i64 n := by
  cases o with
  | none => exact absurd rfl ho
  | some x => exact open_int_raw h
theorem open_a3 {fuel : Nat} {a b c : Value} {o : Option (DataW H × List MemPlace)} (h : DataW.trod enc Tryz.prog w base spare held fuel 54 [a, b, c] = o) (ho : o ≠ none) : ∃ x y z : Int, a = .int .i64 x ∧ b = .int .i64 y ∧ c = .int .i64 z := by
  cases o with
  | none => exact absurd rfl ho
  | some x =>
    obtain ⟨xs, m, _, _, _, hl, hf⟩ := DataW.trod_array Tryz.underlying54 h
    have g := fun i (hi : i < 3) => (show xs[i]? ≠ none by simp; omega)
    have f0 := hf 0 (by decide)
    have f1 := hf 1 (by decide)
    have f2 := hf 2 (by decide)
    simp only [cellsI5, Nat.zero_mul, Nat.mul_one, List.drop_zero, List.drop_succ_cons, List.take_succ_cons, List.take_zero] at f0 f1 f2
    obtain ⟨x, rfl⟩ := open_int5 f0 (g 0 (by decide))
    obtain ⟨y, rfl⟩ := open_int5 f1 (g 1 (by decide))
    obtain ⟨z, rfl⟩ := open_int5 f2 (g 2 (by decide))
    exact ⟨x, y, z, rfl, rfl, rfl⟩
theorem open_sp5 {fuel : Nat} {a b : Value} {o : Option (DataW H × List MemPlace)} (h : DataW.trod enc Tryz.prog w base spare held fuel 50 [a, b] = o) (ho : o ≠ none) : ∃ x y : Int, a = .int .i64 x ∧ b = .int .i64 y := by
  cases o with
  | none => exact absurd rfl ho
  | some x => exact open_span_raw h
theorem open_s3 {fuel : Nat} {a b c d e f : Value} {o : Option (DataW H × List MemPlace)} (h : DataW.trod enc Tryz.prog w base spare held fuel 51 [a, b, c, d, e, f] = o) (ho : o ≠ none) :
    ∃ x y z u v t : Int, a = .int .i64 x ∧ b = .int .i64 y ∧ c = .int .i64 z ∧ d = .int .i64 u ∧ e = .int .i64 v ∧ f = .int .i64 t := by
  cases o with
  | none => exact absurd rfl ho
  | some x =>
    obtain ⟨xs, m, _, _, _, hl, hf⟩ := DataW.trod_array Tryz.underlying51 h
    have g := fun i (hi : i < 3) => (show xs[i]? ≠ none by simp; omega)
    have f0 := hf 0 (by decide)
    have f1 := hf 1 (by decide)
    have f2 := hf 2 (by decide)
    simp only [cellsSp5, Nat.zero_mul, Nat.one_mul, Nat.reduceMul, List.drop_zero, List.drop_succ_cons, List.take_succ_cons, List.take_zero] at f0 f1 f2
    obtain ⟨x, y, rfl, rfl⟩ := open_sp5 f0 (g 0 (by decide))
    obtain ⟨z, u, rfl, rfl⟩ := open_sp5 f1 (g 1 (by decide))
    obtain ⟨v, t, rfl, rfl⟩ := open_sp5 f2 (g 2 (by decide))
    exact ⟨x, y, z, u, v, t, rfl, rfl, rfl, rfl, rfl, rfl⟩
set_option maxRecDepth 100000 in
theorem open_pole5 (fuel : Nat) (cs : List Value) (x : DataW H × List MemPlace) (hl : cs.length = 12) (h : DataW.trod enc Tryz.prog w base spare held fuel 56 cs = some x) : ∃ p : Pol, cs = pcl p := by
  match cs, hl with
  | [c0, c1, c2, c3, c4, c5, c6, c7, c8, c9, c10, c11], _ =>
    obtain ⟨xs, n, _, _, _, hlen, hg⟩ := DataW.trod_struct Tryz.underlying56 h
    have hlen8 : xs.length = 8 := hlen
    have g := fun i (hi : i < 8) => (show xs[i]? ≠ none by simp; omega)
    have g0 : DataW.trod enc Tryz.prog w base spare held n 3 ((List.drop 0 [c0, c1, c2, c3, c4, c5, c6, c7, c8, c9, c10, c11]).take (Tryz.prog.cellsOf 3)) = xs[0]? := hg 0 _ rfl
    have g1 : DataW.trod enc Tryz.prog w base spare held n 3 ((List.drop 1 [c0, c1, c2, c3, c4, c5, c6, c7, c8, c9, c10, c11]).take (Tryz.prog.cellsOf 3)) = xs[1]? := hg 1 _ rfl
    have g2 : DataW.trod enc Tryz.prog w base spare held n 3 ((List.drop 2 [c0, c1, c2, c3, c4, c5, c6, c7, c8, c9, c10, c11]).take (Tryz.prog.cellsOf 3)) = xs[2]? := hg 2 _ rfl
    have g3 : DataW.trod enc Tryz.prog w base spare held n 3 ((List.drop 3 [c0, c1, c2, c3, c4, c5, c6, c7, c8, c9, c10, c11]).take (Tryz.prog.cellsOf 3)) = xs[3]? := hg 3 _ rfl
    have g4 : DataW.trod enc Tryz.prog w base spare held n 54 ((List.drop 4 [c0, c1, c2, c3, c4, c5, c6, c7, c8, c9, c10, c11]).take (Tryz.prog.cellsOf 54)) = xs[4]? := hg 4 _ rfl
    have g5 : DataW.trod enc Tryz.prog w base spare held n 54 ((List.drop 7 [c0, c1, c2, c3, c4, c5, c6, c7, c8, c9, c10, c11]).take (Tryz.prog.cellsOf 54)) = xs[5]? := hg 5 _ rfl
    have g6 : DataW.trod enc Tryz.prog w base spare held n 3 ((List.drop 10 [c0, c1, c2, c3, c4, c5, c6, c7, c8, c9, c10, c11]).take (Tryz.prog.cellsOf 3)) = xs[6]? := hg 6 _ rfl
    have g7 : DataW.trod enc Tryz.prog w base spare held n 3 ((List.drop 11 [c0, c1, c2, c3, c4, c5, c6, c7, c8, c9, c10, c11]).take (Tryz.prog.cellsOf 3)) = xs[7]? := hg 7 _ rfl
    simp only [cellsI5, cellsA3, List.drop_zero, List.drop_succ_cons, List.take_succ_cons, List.take_zero] at g0 g1 g2 g3 g4 g5 g6 g7
    obtain ⟨n0, rfl⟩ := open_int5 g0 (g 0 (by decide))
    obtain ⟨n1, rfl⟩ := open_int5 g1 (g 1 (by decide))
    obtain ⟨n2, rfl⟩ := open_int5 g2 (g 2 (by decide))
    obtain ⟨n3, rfl⟩ := open_int5 g3 (g 3 (by decide))
    obtain ⟨n4, n5, n6, rfl, rfl, rfl⟩ := open_a3 g4 (g 4 (by decide))
    obtain ⟨n7, n8, n9, rfl, rfl, rfl⟩ := open_a3 g5 (g 5 (by decide))
    obtain ⟨n10, rfl⟩ := open_int5 g6 (g 6 (by decide))
    obtain ⟨n11, rfl⟩ := open_int5 g7 (g 7 (by decide))
    exact ⟨⟨n0, n1, n2, n3, n4, n5, n6, n7, n8, n9, n10, n11⟩, rfl⟩
set_option maxRecDepth 100000 in
theorem open_test5 (fuel : Nat) (cs : List Value) (x : DataW H × List MemPlace) (hl : cs.length = 5) (h : DataW.trod enc Tryz.prog w base spare held fuel 58 cs = some x) : ∃ p : Ts, cs = tcl p := by
  match cs, hl with
  | [c0, c1, c2, c3, c4], _ =>
    obtain ⟨xs, n, _, _, _, hlen, hg⟩ := DataW.trod_struct Tryz.underlying58 h
    have hlen8 : xs.length = 5 := hlen
    have g := fun i (hi : i < 5) => (show xs[i]? ≠ none by simp; omega)
    have g0 : DataW.trod enc Tryz.prog w base spare held n 3 ((List.drop 0 [c0, c1, c2, c3, c4]).take (Tryz.prog.cellsOf 3)) = xs[0]? := hg 0 _ rfl
    have g1 : DataW.trod enc Tryz.prog w base spare held n 3 ((List.drop 1 [c0, c1, c2, c3, c4]).take (Tryz.prog.cellsOf 3)) = xs[1]? := hg 1 _ rfl
    have g2 : DataW.trod enc Tryz.prog w base spare held n 3 ((List.drop 2 [c0, c1, c2, c3, c4]).take (Tryz.prog.cellsOf 3)) = xs[2]? := hg 2 _ rfl
    have g3 : DataW.trod enc Tryz.prog w base spare held n 3 ((List.drop 3 [c0, c1, c2, c3, c4]).take (Tryz.prog.cellsOf 3)) = xs[3]? := hg 3 _ rfl
    have g4 : DataW.trod enc Tryz.prog w base spare held n 4 ((List.drop 4 [c0, c1, c2, c3, c4]).take (Tryz.prog.cellsOf 4)) = xs[4]? := hg 4 _ rfl
    simp only [cellsI5, cellsB5, List.drop_zero, List.drop_succ_cons, List.take_succ_cons, List.take_zero] at g0 g1 g2 g3 g4
    obtain ⟨n0, rfl⟩ := open_int5 g0 (g 0 (by decide))
    obtain ⟨n1, rfl⟩ := open_int5 g1 (g 1 (by decide))
    obtain ⟨n2, rfl⟩ := open_int5 g2 (g 2 (by decide))
    obtain ⟨n3, rfl⟩ := open_int5 g3 (g 3 (by decide))
    cases hx : xs[4]? with
    | none => exact absurd hx (g 4 (by decide))
    | some y =>
      obtain ⟨b, hb, _⟩ := DataW.trod_bool Tryz.underlying4 (g4.trans hx)
      simp only [List.cons.injEq, and_true] at hb
      subst hb
      exact ⟨⟨n0, n1, n2, n3, b⟩, rfl⟩
set_option maxRecDepth 100000 in
theorem open_grade5 (fuel : Nat) (cs : List Value) (x : DataW H × List MemPlace) (hl : cs.length = 8) (h : DataW.trod enc Tryz.prog w base spare held fuel 53 cs = some x) : ∃ p : Gd, cs = gcl p := by
  match cs, hl with
  | [c0, c1, c2, c3, c4, c5, c6, c7], _ =>
    obtain ⟨xs, n, _, _, _, hlen, hg⟩ := DataW.trod_struct Tryz.underlying53 h
    have hlen8 : xs.length = 3 := hlen
    have g := fun i (hi : i < 3) => (show xs[i]? ≠ none by simp; omega)
    have g0 : DataW.trod enc Tryz.prog w base spare held n 3 ((List.drop 0 [c0, c1, c2, c3, c4, c5, c6, c7]).take (Tryz.prog.cellsOf 3)) = xs[0]? := hg 0 _ rfl
    have g1 : DataW.trod enc Tryz.prog w base spare held n 3 ((List.drop 1 [c0, c1, c2, c3, c4, c5, c6, c7]).take (Tryz.prog.cellsOf 3)) = xs[1]? := hg 1 _ rfl
    have g2 : DataW.trod enc Tryz.prog w base spare held n 51 ((List.drop 2 [c0, c1, c2, c3, c4, c5, c6, c7]).take (Tryz.prog.cellsOf 51)) = xs[2]? := hg 2 _ rfl
    simp only [cellsI5, cellsS3, List.drop_zero, List.drop_succ_cons, List.take_succ_cons, List.take_zero] at g0 g1 g2
    obtain ⟨n0, rfl⟩ := open_int5 g0 (g 0 (by decide))
    obtain ⟨n1, rfl⟩ := open_int5 g1 (g 1 (by decide))
    obtain ⟨n2, n3, n4, n5, n6, n7, rfl, rfl, rfl, rfl, rfl, rfl⟩ := open_s3 g2 (g 2 (by decide))
    exact ⟨⟨n0, n1, n2, n3, n4, n5, n6, n7⟩, rfl⟩
instance : Inhabited Pol := ⟨⟨0, 0, 0, 0, 0, 0, 0, 0, 0, 0, 0, 0⟩⟩
instance : Inhabited Ts := ⟨⟨0, 0, 0, 0, false⟩⟩
instance : Inhabited Gd := ⟨⟨0, 0, 0, 0, 0, 0, 0, 0⟩⟩
theorem cellsPL : Tryz.prog.cellsOf 22 = 1 := by kernel_rfl
theorem cellsTL : Tryz.prog.cellsOf 23 = 1 := by kernel_rfl
theorem cellsGL : Tryz.prog.cellsOf 26 = 1 := by kernel_rfl
theorem cellsSheet5 : Tryz.prog.cellsOf 25 = 2 := by kernel_rfl
theorem cellsGrading5 : Tryz.prog.cellsOf 28 = 2 := by kernel_rfl
set_option maxRecDepth 100000 in
theorem open_sheet {r : Reach} {b0 : Nat} {v : Value} {d : DataW H} {p : List MemPlace} (hv : Value.okWide Tryz.prog w r b0 25 v) (h : DataW.Trod enc Tryz.prog w base spare held 25 v d p) :
    ∃ (A : Option Addr) (ps : List Pol) (c : Nat) (A' : Option Addr) (ts : List Ts) (c' : Nat), v = .agg #[.slice A ps.length c, .slice A' ts.length c'] ∧ ps.length ≤ maxLen ∧ ts.length ≤ maxLen ∧ ts.length ≤ c' ∧ Vals w w.heap.size A (ps.flatMap pcl) ∧ Vals w w.heap.size A' (ts.flatMap tcl) := by
  obtain ⟨cs, rfl, hsz⟩ := okWide_struct Tryz.underlying25 hv
  obtain ⟨l⟩ := cs
  match l, hsz.trans cellsSheet5 with
  | [c0, c1], _ =>
    obtain ⟨fuel, hf⟩ := h
    obtain ⟨xs, n, _, _, _, hlen, hg⟩ := DataW.trod_struct Tryz.underlying25 hf
    have hlen2 : xs.length = 2 := hlen
    have at_ : ∀ i, i < xs.length → ∃ y, xs[i]? = some y := fun i hi => ⟨_, List.getElem?_eq_getElem hi⟩
    obtain ⟨y0, hy0⟩ := at_ 0 (by omega)
    obtain ⟨y1, hy1⟩ := at_ 1 (by omega)
    have g0 : DataW.trod enc Tryz.prog w base spare held n 22 ((List.drop 0 [c0, c1]).take (Tryz.prog.cellsOf 22)) = some y0 := (hg 0 _ rfl).trans hy0
    have g1 : DataW.trod enc Tryz.prog w base spare held n 23 ((List.drop 1 [c0, c1]).take (Tryz.prog.cellsOf 23)) = some y1 := (hg 1 _ rfl).trans hy1
    simp only [cellsPL, cellsTL, List.drop_zero, List.drop_succ_cons, List.take_succ_cons, List.take_zero] at g0 g1
    obtain ⟨A, ps, c, rfl, h1, _, h2⟩ := open_sliceN pcl_len (by decide) Tryz.underlying22 cellsPole5 open_pole5 g0
    obtain ⟨A', ts, c', rfl, h3, h4, h5⟩ := open_sliceN tcl_len (by decide) Tryz.underlying23 cellsTest5 open_test5 g1
    exact ⟨A, ps, c, A', ts, c', rfl, h1, h3, h4, h2, h5⟩
set_option maxRecDepth 100000 in
theorem open_grading {r : Reach} {b0 : Nat} {v : Value} {d : DataW H} {p : List MemPlace} (hv : Value.okWide Tryz.prog w r b0 28 v) (h : DataW.Trod enc Tryz.prog w base spare held 28 v d p) :
    ∃ (A : Option Addr) (gs : List Gd) (c : Nat) (vary : Int), v = .agg #[.slice A gs.length c, .int .i64 vary] ∧ gs.length ≤ maxLen ∧ Vals w w.heap.size A (gs.flatMap gcl) := by
  obtain ⟨cs, rfl, hsz⟩ := okWide_struct Tryz.underlying28 hv
  obtain ⟨l⟩ := cs
  match l, hsz.trans cellsGrading5 with
  | [c0, c1], _ =>
    obtain ⟨fuel, hf⟩ := h
    obtain ⟨xs, n, _, _, _, hlen, hg⟩ := DataW.trod_struct Tryz.underlying28 hf
    have hlen2 : xs.length = 2 := hlen
    have at_ : ∀ i, i < xs.length → ∃ y, xs[i]? = some y := fun i hi => ⟨_, List.getElem?_eq_getElem hi⟩
    obtain ⟨y0, hy0⟩ := at_ 0 (by omega)
    obtain ⟨y1, hy1⟩ := at_ 1 (by omega)
    have g0 : DataW.trod enc Tryz.prog w base spare held n 26 ((List.drop 0 [c0, c1]).take (Tryz.prog.cellsOf 26)) = some y0 := (hg 0 _ rfl).trans hy0
    have g1 : DataW.trod enc Tryz.prog w base spare held n 3 ((List.drop 1 [c0, c1]).take (Tryz.prog.cellsOf 3)) = some y1 := (hg 1 _ rfl).trans hy1
    simp only [cellsGL, cellsI5, List.drop_zero, List.drop_succ_cons, List.take_succ_cons, List.take_zero] at g0 g1
    obtain ⟨A, gs, c, rfl, h1, _, h2⟩ := open_sliceN gcl_len (by decide) Tryz.underlying26 cellsGrade5 open_grade5 g0
    obtain ⟨n, rfl⟩ := open_int_raw g1
    exact ⟨A, gs, c, n, rfl, h1, h2⟩
end

end Go.Proofs.YtpnnlmaipcjkmaaGreat

namespace Go.Proofs.YtpnnlmaipcjkmaaGreat
open Go.ChangeShapes Go.WideShapes Go.ChangeAt Go.RowKit Go.Deep

section
variable {H : Type} {enc : TypeId × Value → H} {P : Program} {w : World} {base : Nat} {spare : Nat → Bool} {held : Bool}
theorem trodAll_five {t t' t'' t3 t4 : TypeId} {args : Array Value} {ds : List (DataW H)} {ps : List MemPlace} (h : DataW.TrodAll enc P w base spare held [t, t', t'', t3, t4] args.toList ds ps) :
    ∃ v v' v'' v3 v4 d d' d'' d3 d4 p p' p'' p3 p4, args = #[v, v', v'', v3, v4] ∧ ds = [d, d', d'', d3, d4] ∧ ps = p ++ p' ++ p'' ++ p3 ++ p4 ∧ DataW.Trod enc P w base spare held t v d p ∧ DataW.Trod enc P w base spare held t' v' d' p' ∧ DataW.Trod enc P w base spare held t'' v'' d'' p'' ∧ DataW.Trod enc P w base spare held t3 v3 d3 p3 ∧ DataW.Trod enc P w base spare held t4 v4 d4 p4 := by
  obtain ⟨v, vs, d, ds', p, q, hargs, rfl, rfl, hd, hrest⟩ := trodAll_cons h
  obtain ⟨v', vs', d', ds'', p', q', rfl, rfl, rfl, hd', hrest'⟩ := trodAll_cons hrest
  obtain ⟨v'', vs'', d'', ds''', p'', q'', rfl, rfl, rfl, hd'', hrest''⟩ := trodAll_cons hrest'
  obtain ⟨v3, vs3, d3, ds3, p3, q3, rfl, rfl, rfl, hd3, hrest3⟩ := trodAll_cons hrest''
  obtain ⟨v4, vs4, d4, ds4, p4, q4, rfl, rfl, rfl, hd4, hrest4⟩ := trodAll_cons hrest3
  obtain ⟨rfl, rfl, rfl⟩ := trodAll_nil hrest4
  exact ⟨v, v', v'', v3, v4, d, d', d'', d3, d4, p, p', p'', p3, p4, by cases args; simp_all, rfl, by simp, hd, hd', hd'', hd3, hd4⟩
theorem trodAll_mk5 {t t' t'' t3 t4 : TypeId} {v v' v'' v3 v4 : Value} {d d' d'' d3 d4 : DataW H} {p p' p'' p3 p4 : List MemPlace} (h : DataW.Trod enc P w base spare held t v d p) (h' : DataW.Trod enc P w base spare held t' v' d' p')
    (h'' : DataW.Trod enc P w base spare held t'' v'' d'' p'') (h3 : DataW.Trod enc P w base spare held t3 v3 d3 p3) (h4 : DataW.Trod enc P w base spare held t4 v4 d4 p4) : DataW.TrodAll enc P w base spare held [t, t', t'', t3, t4] [v, v', v'', v3, v4] [d, d', d'', d3, d4] (p ++ (p' ++ (p'' ++ (p3 ++ p4)))) := ⟨p, p' ++ (p'' ++ (p3 ++ p4)), h, trodAll_mk4 h' h'' h3 h4, rfl⟩
end

end Go.Proofs.YtpnnlmaipcjkmaaGreat
