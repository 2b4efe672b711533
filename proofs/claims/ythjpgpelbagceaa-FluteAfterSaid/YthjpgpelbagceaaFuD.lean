/-
  One number's span, sums of spans, tones.
-/
import Derived.Test.YthjpgpelbagceaaFuB2
set_option linter.all false
namespace Go.Proofs.Ythjpgpelbagceaa
open Go.RowKit
open R6 (done done_ne done_me upd_ne upd_me)

attribute [local go_sem] gives

theorem tone_any (s l : Int) (h0 : 0 ≤ s) (h1 : s ≤ 500000) (h2 : 50 ≤ l) (h3 : l ≤ 30000) (w : World) :
    Calls Try.prog 91 #[.int .i64 s, .int .i64 l] w fun e w' => e = .returned (.int .i64 (500 * s / l)) ∧ w = w' := by
  go_enter Try.func91, Try.ntmps91
  go_wp2
  go_ret
  exact ⟨rfl, rfl⟩

theorem one_any (n : Int) (w : World) : Calls Try.prog 115 #[.int .i64 n] w fun e w' => e = .returned (.agg #[.int .i64 n, .int .i64 n]) ∧ Below w.heap.size w w' := by
  go_enter Try.func115, Try.ntmps115
  go_wp2
  refine bodyPost_ret (v := .agg #[.int .i64 n, .int .i64 n]) (by simp [results, Try.results115, go_sem]) rfl ⟨rfl, ?_⟩
  exact (Below.refl _ _).alloc (Nat.le_refl _) _

theorem inside_any (a b x y : Int) (w : World) : Calls Try.prog 78 #[.agg #[.int .i64 a, .int .i64 b], .agg #[.int .i64 x, .int .i64 y]] w fun e w' => e = .returned (.bool (insB (a, b) (x, y))) ∧ Below w.heap.size w w' := by
  obtain ⟨v, hv⟩ : ∃ v, insB (a, b) (x, y) = v := ⟨_, rfl⟩
  rw [hv]
  have HV := Lib.hid hv
  clear hv
  go_enter Try.func78, Try.ntmps78
  go_wp2
  all_goals
    go_ret
    refine ⟨?_, ((Below.refl _ _).alloc (Nat.le_refl _) _).alloc (by simp) _⟩
    rw [← HV.out]
    refine congrArg (fun v => Ending.returned (Value.bool v)) ?_
    simp only [insB]
    first
      | (rw [decide_eq_true (by omega), decide_eq_true (by omega)]; rfl)
      | (rw [decide_eq_false (p := a ≤ x) (by omega)]; rfl)
      | (rw [decide_eq_false (p := y ≤ b) (by omega), Bool.and_false])

def spAdd (a b : Int × Int) : Int × Int := (a.1 + b.1, a.2 + b.2)
def sumSp (l : List (Int × Int)) : Int × Int := l.foldl spAdd (0, 0)
theorem sumSp_snoc (l : List (Int × Int)) (x : Int × Int) : sumSp (l ++ [x]) = spAdd (sumSp l) x := by simp [sumSp]
theorem sumSp_take {l : List (Int × Int)} {k : Nat} (hk : k < l.length) : sumSp (l.take (k + 1)) = spAdd (sumSp (l.take k)) l[k] := by
  rw [List.take_succ_eq_append_getElem hk, sumSp_snoc]
/-- Spans that are not great. -/
def smSp (l : List (Int × Int)) : Prop := ∀ x ∈ l, 0 ≤ x.1 ∧ x.1 ≤ 100000 ∧ 0 ≤ x.2 ∧ x.2 ≤ 100000
theorem sumSp_bnd {l : List (Int × Int)} (h : smSp l) : ∀ k, k ≤ l.length → 0 ≤ (sumSp (l.take k)).1 ∧ (sumSp (l.take k)).1 ≤ 100000 * k ∧ 0 ≤ (sumSp (l.take k)).2 ∧ (sumSp (l.take k)).2 ≤ 100000 * k
  | 0, _ => by simp [sumSp]
  | k + 1, hk => by
    have ih := sumSp_bnd h k (by omega)
    have hx := h _ (List.getElem_mem (show k < l.length by omega))
    rw [sumSp_take (by omega)]
    simp only [spAdd]
    omega

theorem set_two {w : World} {b : Nat} {x y : Value} {t : TypeId} (h : w.heap[b]? = some (.cells #[x, y] t (0, 0))) (u v : Value) (o : Obj) :
    (((w.setCell ⟨b, 0, none⟩ u).setCell ⟨b, 1, none⟩ v).alloc o).heap[b]? = some (.cells #[u, v] t (0, 0)) :=
  (Below.heap_alloc _ _ _ (by have := lt_of_heap h; simp; omega)).trans (heap_setCell_same _ _ _ _ _ _ (heap_setCell_same _ _ _ _ _ _ h))

set_option maxRecDepth 100000 in
set_option maxHeartbeats 4000000 in
theorem sum_any (l : List (Int × Int)) (hs : smSp l) (hl : l.length ≤ 100) (A : Option Addr) (cap : Nat) (B : Nat) (w : World) (hB : B ≤ w.heap.size) (hz : Vals w B A (pairs l)) :
    Calls Try.prog 114 #[.slice A l.length cap] w fun e w' => e = .returned (.agg #[.int .i64 (sumSp l).1, .int .i64 (sumSp l).2]) ∧ Below w.heap.size w w' := by
  have HZ := Lib.hid hz
  have hbd := sumSp_bnd hs
  have HS := Lib.hid (And.intro hs hbd)
  have hts := fun k (hk : k < l.length) => sumSp_take hk
  have HT := Lib.hid hts
  obtain ⟨R, hR⟩ : ∃ R, R = sumSp l := ⟨_, rfl⟩
  rw [← hR]
  have hR0 : sumSp (l.take l.length) = R := by rw [List.take_length, hR]
  have HR := Lib.hid hR0
  clear hz hs hbd hts hR hR0
  go_enter Try.func114, Try.ntmps114
  go_wp2
  go_loopg [8] l.length (fun gg s8 wx => ∃ k : Nat, k + gg = l.length ∧ s8 = .int .i64 k ∧ Hid (wx.heap[w.heap.size]? = some (.cells #[.int .i64 0, .int .i64 0] 25 (0, 0))) ∧ Hid (wx.heap[w.heap.size + 1]? = some (.cells #[.int .i64 (sumSp (l.take k)).1, .int .i64 (sumSp (l.take k)).2] 25 (0, 0))) ∧ Hid (Below w.heap.size w wx))
  case atStart => exact ⟨0, by omega, rfl, alloc2_at0 _ _ _, alloc2_at1 _ _ _, ((Below.refl _ _).alloc (Nat.le_refl _) _).alloc (by simp) _⟩
  case round =>
    obtain ⟨k, hkg, rfl, h0, h1, hBr⟩ := hrel
    have hsz := lt_of_heap h1.out
    have hws := hBr.out.size
    cases gk with
    | zero =>
      obtain rfl : k = l.length := by omega
      have h1' := h1.out
      rw [HR.out] at h1'
      have hc1 := fun i => cell_of_row wr (w.heap.size + 1) i _ _ _ h1'
      have hc0 := fun i => cell_of_row wr w.heap.size i _ _ _ h0.out
      have hf0 := fun i => frozen_of_row wr w.heap.size i _ _ h0.out
      clear h1'
      go_wp2
      refine bodyPost_ret (v := .agg #[.int .i64 R.1, .int .i64 R.2]) (by simp [results, Try.results114, go_sem, hc0]) rfl ⟨rfl, ?_⟩
      exact (hBr.out.setCell (by simp) _).setCell (by simp) _
    | succ gg =>
      have hk : k < l.length := by omega
      have hkz : (k : Int) < l.length := by omega
      obtain ⟨c, off, hA, hcB, hc⟩ := vals_elem (f := fun p : Int × Int => [Value.int .i64 p.1, .int .i64 p.2]) (n := 2) (fun _ => rfl) (show Vals w B A (l.flatMap fun p : Int × Int => [Value.int .i64 p.1, .int .i64 p.2]) from HZ.out) (by decide) hk
      subst hA
      have hc' := fun j v hv => (hBr.out.cell (p := ⟨c, off + k * 2 + j, none⟩) (by simp; omega)).trans (hc j v hv)
      have hst := HT.out k hk
      have hb1 := HS.out.2 k (by omega)
      have hb2 := HS.out.1 _ (List.getElem_mem hk)
      have h1' := h1.out
      generalize sumSp (l.take k) = S at hst hb1 h1'
      generalize l[k] = x at hc' hst hb2
      obtain ⟨x0, x1⟩ := x
      obtain ⟨S0, S1⟩ := S
      simp only [spAdd] at hst hb1 hb2 hc'
      have HST := Lib.hid hst
      have HX := Lib.hid hc'
      have hc1 := fun i => cell_of_row wr (w.heap.size + 1) i _ _ _ h1'
      have hf1 := fun i => frozen_of_row wr (w.heap.size + 1) i _ _ h1'
      have h11 := hb1.1
      have h12 := hb1.2.1
      have h13 := hb1.2.2.1
      have h14 := hb1.2.2.2
      have h21 := hb2.1
      have h22 := hb2.2.1
      have h23 := hb2.2.2.1
      have h24 := hb2.2.2.2
      have h15 : S0 ≤ 10000000 := by omega
      have h16 : S1 ≤ 10000000 := by omega
      have H1 := Lib.hid h1'
      clear hst hb1 hb2 hc hc' h1'
      go_wp2_with (show wpList _ _ _ (Oper.mk (some 11) _ _ _ _ _ :: _) _ _
                   refine wpList_load_at 25 (.tmp 10) rfl rfl rfl [.int .i64 x0, .int .i64 x1] HX.out rowSpan ?_)
      go_roundg gg
      case measure => omega
      case rel =>
        refine ⟨k + 1, by omega, by go_num, ?_, ?_, ?_⟩
        · exact (Below.heap_alloc _ _ _ (by simp; omega)).trans ((heap_setCell_other _ _ _ _ (by simp)).trans ((heap_setCell_other _ _ _ _ (by simp)).trans h0.out))
        · rw [HST.out]
          exact set_two H1.out _ _ _
        · exact ((hBr.out.setCell (by simp) _).setCell (by simp) _).alloc (by simp; omega) _

end Go.Proofs.Ythjpgpelbagceaa
