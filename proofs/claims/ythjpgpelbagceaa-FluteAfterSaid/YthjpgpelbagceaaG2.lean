/-
  What comes in, opened; lists compared. It speaks of no layer.
-/
import Derived.Test.YthjpgpelbagceaaG1
import Derived.ProofKit
import Derived.ReadAgain
import Derived.Deep.SlicePairs
import Derived.Deep.QuietTactic
import Derived.BigQuiet
set_option linter.all false
namespace Go.Proofs.Ythjpgpelbagceaa
open Go.ChangeShapes Go.WideShapes Go.ChangeAt Go.RowKit Go.Deep

section
variable {H : Type} {enc : TypeId × Value → H} {w : World} {base : Nat} {spare : Nat → Bool} {held : Bool}

theorem open_int_raw {fuel : Nat} {c : Value} {x : DataW H × List MemPlace} (h : DataW.trod enc Try.prog w base spare held fuel 3 [c] = some x) : ∃ n : Int, c = .int .i64 n := by
  obtain ⟨n, hc, _, _⟩ := DataW.trod_int Try.underlying3 h
  simp only [List.cons.injEq, and_true] at hc
  exact ⟨n, hc⟩

theorem lt_of_cell {w : World} {a : Addr} {v : Value} (h : w.cell? a = some v) : a.block < w.heap.size := by
  obtain ⟨o, ho, _⟩ := cells_of_cell h
  exact (Array.getElem?_eq_some_iff.1 ho).1

theorem open_ints_raw {fuel : Nat} {c : Value} {x : DataW H × List MemPlace} (h : DataW.trod enc Try.prog w base spare held fuel 32 [c] = some x) :
    ∃ (A : Option Addr) (zs : List Int) (cap : Nat), c = .slice A zs.length cap ∧ zs.length ≤ cap ∧ zs.length ≤ maxLen ∧ Ints w w.heap.size A zs := by
  rcases open_ints Try.underlying32 Try.underlying3 (by kernel_rfl) h with ⟨hc, _⟩ | ⟨a, len, cap, zs, hc, _, hl, hm, hz, _, hcell, _⟩
  · simp only [List.cons.injEq, and_true] at hc
    exact ⟨none, [], 0, hc, Nat.le_refl _, by simp, fun h => by simp at h⟩
  · simp only [List.cons.injEq, and_true] at hc
    have hle : len ≤ zs.length := by rw [hz]; split <;> omega
    have hl2 : (zs.take len).length = len := by simp; omega
    refine ⟨some a, zs.take len, cap, by rw [hl2]; exact hc, by rw [hl2]; exact hl, by rw [hl2]; omega, fun h0 => ?_⟩
    rw [hl2] at h0 ⊢
    have h1 := hcell 0 (by omega)
    obtain ⟨b, off, spot⟩ := a
    have hs1 : spot = none := by
      have e0 : (⟨b, off, spot⟩ : Addr).add 0 = ⟨b, off, spot⟩ := by simp [Addr.add]
      rw [e0] at h1
      exact World.cell?_spot h1
    subst hs1
    rw [Addr.add_mid] at h1
    refine ⟨b, off, rfl, lt_of_cell h1, fun k hk => ?_⟩
    have h2 := hcell k (by omega)
    rw [Addr.add_mid] at h2
    rw [h2]
    simp [hk, List.getD]

theorem cellsI : Try.prog.cellsOf 3 = 1 := by kernel_rfl

theorem cellsSp : Try.prog.cellsOf 25 = 2 := by kernel_rfl

theorem cellsSl : Try.prog.cellsOf 32 = 1 := by kernel_rfl

theorem open_spans_raw {fuel : Nat} {c : Value} {x : DataW H × List MemPlace} (h : DataW.trod enc Try.prog w base spare held fuel 41 [c] = some x) :
    ∃ (A : Option Addr) (ss : List (Int × Int)) (cap : Nat), c = .slice A ss.length cap ∧ ss.length ≤ maxLen ∧ Vals w w.heap.size A (pairs ss) := by
  rcases open_slice_pairs Try.underlying41 Try.underlying25 (by kernel_rfl) rfl rfl (by kernel_rfl) (by kernel_rfl) h with ⟨hc, _⟩ | ⟨a, len, cap, m, n, V0, V1, D0, D1, P0, P1, hc, _, hl, hm, hmm, _, hi⟩
  · simp only [List.cons.injEq, and_true] at hc
    exact ⟨none, [], 0, hc, by simp, fun h => by simp [pairs] at h⟩
  · simp only [List.cons.injEq, and_true] at hc
    have hle : len ≤ m := by rw [hmm]; split <;> omega
    have hv : ∀ i, i < len → ∃ p : Int × Int, w.cell? (a.add (i * 2)) = some (.int .i64 p.1) ∧ w.cell? (a.add (i * 2 + 1)) = some (.int .i64 p.2) := fun i h => by
      obtain ⟨h1, h2, h3, h4⟩ := hi i (by omega)
      obtain ⟨x, hx⟩ := open_int_raw h3
      obtain ⟨y, hy⟩ := open_int_raw h4
      exact ⟨(x, y), by rw [h1, hx], by rw [h2, hy]⟩
    obtain ⟨f, hf⟩ : ∃ f : Nat → Int × Int, ∀ i, i < len → w.cell? (a.add (i * 2)) = some (.int .i64 (f i).1) ∧ w.cell? (a.add (i * 2 + 1)) = some (.int .i64 (f i).2) :=
      ⟨fun i => if h : i < len then (hv i h).choose else (0, 0), fun i h => by simp only [h, dif_pos]; exact (hv i h).choose_spec⟩
    have hl2 : ((List.range len).map f).length = len := by simp
    refine ⟨some a, (List.range len).map f, cap, by rw [hl2]; exact hc, by rw [hl2]; omega, fun h0 => ?_⟩
    rw [pairs_len, hl2] at h0
    have h1 := (hf 0 (by omega)).1
    obtain ⟨b, off, spot⟩ := a
    have hs1 : spot = none := by
      have e0 : (⟨b, off, spot⟩ : Addr).add (0 * 2) = ⟨b, off, spot⟩ := by simp [Addr.add]
      rw [e0] at h1
      exact World.cell?_spot h1
    subst hs1
    rw [Addr.add_mid] at h1
    refine ⟨b, off, rfl, lt_of_cell h1, fun j u hj => ?_⟩
    have hjl : j < (pairs ((List.range len).map f)).length := (List.getElem?_eq_some_iff.1 hj).1
    rw [pairs_len, hl2] at hjl
    have hk : j / 2 < len := by omega
    have hp := pairs_at ((List.range len).map f) (j / 2) (by rw [hl2]; exact hk)
    have hq := hf (j / 2) hk
    rw [Addr.add_mid, Addr.add_mid] at hq
    have hg : ((List.range len).map f)[j / 2]?.getD (0, 0) = f (j / 2) := by simp [hk]
    rw [hg] at hp
    rcases Nat.mod_two_eq_zero_or_one j with hm2 | hm2
    · rw [show j = j / 2 * 2 by omega] at hj ⊢
      rw [hp.1] at hj
      rw [← hj]; exact hq.1
    · rw [show j = j / 2 * 2 + 1 by omega] at hj ⊢
      rw [hp.2] at hj
      rw [← hj]; exact hq.2

set_option maxRecDepth 100000 in
theorem open_spans_arg {r : Reach} {b0 : Nat} {v : Value} {d : DataW H} {p : List MemPlace} (hv : Value.okWide Try.prog w r b0 41 v) (h : DataW.Trod enc Try.prog w base spare held 41 v d p) :
    ∃ (A : Option Addr) (ss : List (Int × Int)) (cap : Nat), v = .slice A ss.length cap ∧ ss.length ≤ maxLen ∧ Vals w w.heap.size A (pairs ss) := by
  obtain ⟨a, len, cap, rfl⟩ := okWide_slice Try.underlying41 hv
  obtain ⟨fuel, hf⟩ := h
  exact open_spans_raw hf

theorem open_u32s_raw {fuel : Nat} {c : Value} {x : DataW H × List MemPlace} (h : DataW.trod enc Try.prog w base spare held fuel 64 [c] = some x) :
    ∃ (A : Option Addr) (zs : List Int) (cap : Nat), c = .slice A zs.length cap ∧ zs.length ≤ maxLen ∧ ByAt w w.heap.size A zs := by
  rcases open_ints Try.underlying64 Try.underlying74 (by kernel_rfl) h with ⟨hc, _⟩ | ⟨a, len, cap, zs, hc, _, hl, hm, hz, _, hcell, hwf⟩
  · simp only [List.cons.injEq, and_true] at hc
    exact ⟨none, [], 0, hc, by simp, ⟨fun h => by simp [u32s] at h, fun k hk => absurd hk (by simp), by simp⟩⟩
  · simp only [List.cons.injEq, and_true] at hc
    have hle : len ≤ zs.length := by rw [hz]; split <;> omega
    have hl2 : (zs.take len).length = len := by simp; omega
    have hmx : maxLen ≤ 9223372036854775807 := by simp [maxLen]
    refine ⟨some a, zs.take len, cap, by rw [hl2]; exact hc, by rw [hl2]; omega, ⟨fun h0 => ?_, fun k hk => ?_, by rw [hl2]; omega⟩⟩
    · have h0' : 0 < len := by simp [u32s] at h0; omega
      have h1 := hcell 0 (by omega)
      obtain ⟨b, off, spot⟩ := a
      have hs1 : spot = none := by
        have e0 : (⟨b, off, spot⟩ : Addr).add 0 = ⟨b, off, spot⟩ := by simp [Addr.add]
        rw [e0] at h1
        exact World.cell?_spot h1
      subst hs1
      rw [Addr.add_mid] at h1
      refine ⟨b, off, rfl, lt_of_cell h1, fun k v hk => ?_⟩
      have hkl : k < len := by
        have := (List.getElem?_eq_some_iff.1 hk).1
        simp [u32s] at this
        omega
      have h2 := hcell k (by omega)
      rw [Addr.add_mid] at h2
      rw [h2]
      simp only [u32s, List.getElem?_map, List.getElem?_take, hkl, if_true] at hk
      have hkz : k < zs.length := by omega
      simp only [List.getElem?_eq_getElem hkz, Option.map_some, Option.some.injEq] at hk
      rw [← hk]
      simp [List.getD, hkz]
    · rw [hl2] at hk
      have hkz : k < zs.length := by omega
      have := hwf zs[k] (List.getElem_mem hkz)
      simp only [List.getElem?_take, hk, if_true, List.getElem?_eq_getElem hkz, Option.getD_some]
      simp [Lit.wf, IntKind.min, IntKind.max, IntKind.signed, IntKind.bits] at this
      omega

set_option maxRecDepth 100000 in
theorem open_u32s_arg {r : Reach} {b0 : Nat} {v : Value} {d : DataW H} {p : List MemPlace} (hv : Value.okWide Try.prog w r b0 64 v) (h : DataW.Trod enc Try.prog w base spare held 64 v d p) :
    ∃ (A : Option Addr) (zs : List Int) (cap : Nat), v = .slice A zs.length cap ∧ zs.length ≤ maxLen ∧ ByAt w w.heap.size A zs := by
  obtain ⟨a, len, cap, rfl⟩ := okWide_slice Try.underlying64 hv
  obtain ⟨fuel, hf⟩ := h
  exact open_u32s_raw hf

set_option maxRecDepth 100000 in
theorem open_ints_arg2 {r : Reach} {b0 : Nat} {v : Value} {d : DataW H} {p : List MemPlace} (hv : Value.okWide Try.prog w r b0 32 v) (h : DataW.Trod enc Try.prog w base spare held 32 v d p) :
    ∃ (A : Option Addr) (zs : List Int) (cap : Nat), v = .slice A zs.length cap ∧ zs.length ≤ maxLen ∧ zs.length ≤ cap ∧ Ints w w.heap.size A zs := by
  obtain ⟨a, len, cap, rfl⟩ := okWide_slice Try.underlying32 hv
  obtain ⟨fuel, hf⟩ := h
  obtain ⟨A, zs, q, h1, h0, h2, h3⟩ := open_ints_raw hf
  exact ⟨A, zs, q, h1, h2, h0, h3⟩

theorem open_span_raw {fuel : Nat} {c0 c1 : Value} {x : DataW H × List MemPlace} (h : DataW.trod enc Try.prog w base spare held fuel 25 [c0, c1] = some x) :
    ∃ lo hi : Int, c0 = .int .i64 lo ∧ c1 = .int .i64 hi := by
  obtain ⟨zs, n', _, _, _, hlen', hg'⟩ := DataW.trod_struct Try.underlying25 h
  have at2 : ∀ i, i < zs.length → ∃ y, zs[i]? = some y := fun i hi => ⟨_, List.getElem?_eq_getElem hi⟩
  have hlen2 : zs.length = 2 := hlen'
  obtain ⟨z0, hz0⟩ := at2 0 (by omega)
  obtain ⟨z1, hz1⟩ := at2 1 (by omega)
  have k0 : DataW.trod enc Try.prog w base spare held n' 3 ((List.drop 0 [c0, c1]).take (Try.prog.cellsOf 3)) = some z0 := (hg' 0 _ rfl).trans hz0
  have k1 : DataW.trod enc Try.prog w base spare held n' 3 ((List.drop 1 [c0, c1]).take (Try.prog.cellsOf 3)) = some z1 := (hg' 1 _ rfl).trans hz1
  simp only [cellsI, List.drop_zero, List.drop_succ_cons, List.take_succ_cons, List.take_zero] at k0 k1
  obtain ⟨lo, rfl⟩ := open_int_raw k0
  obtain ⟨hi, rfl⟩ := open_int_raw k1
  exact ⟨lo, hi, rfl, rfl⟩
end

end Go.Proofs.Ythjpgpelbagceaa

namespace Go.Proofs.Ythjpgpelbagceaa
open Go.RowKit

theorem take_eq_succ {α : Type} {xs ys : List α} {k : Nat} {z : α} (h : xs.take k = ys.take k) (h1 : k < xs.length) (h2 : k < ys.length) (he : xs[k]?.getD z = ys[k]?.getD z) : xs.take (k + 1) = ys.take (k + 1) := by
  rw [List.take_add_one, List.take_add_one, h]
  congr 1
  simp only [List.getElem?_eq_getElem h1, List.getElem?_eq_getElem h2, Option.getD_some] at he ⊢
  rw [he]

end Go.Proofs.Ythjpgpelbagceaa
