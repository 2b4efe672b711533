/-
  Whether something is so of each stick, of each member, of each trunk, of each number.
-/
import Derived.Test.YtepkkhdfobhhjaaStA
namespace Go.Proofs.Ytepkkhdfobhhjaa
open Go.RowKit

/-- A stick or a member: three numbers. -/
structure T3 where
  a : Int
  b : Int
  c : Int
def t3 (x : T3) : List Value := [.int .i64 x.a, .int .i64 x.b, .int .i64 x.c]
theorem t3_len (x : T3) : (t3 x).length = 3 := rfl
theorem t3_one (l : List T3) : ∀ v ∈ l.flatMap t3, v.oneCell' = true := by
  intro v hv
  obtain ⟨p, -, hv⟩ := List.mem_flatMap.1 hv
  simp only [t3, List.mem_cons, List.not_mem_nil, or_false] at hv
  rcases hv with rfl | rfl | rfl <;> rfl
theorem idxL_some {α : Type} {P : α → Bool} (l : List α) : decide (0 ≤ idxL P l 0) = l.any P := idxL_any l 0
theorem all_not {α : Type} (P : α → Bool) (l : List α) : l.all P = !(l.any fun x => !P x) := by
  induction l with
  | nil => rfl
  | cons x l ih => simp only [List.all_cons, List.any_cons, ih]; cases P x <;> simp

theorem rowStick : RowTy Try.prog 61 3 := ⟨⟨_, Try.underlying61, rfl⟩, by kernel_rfl⟩
theorem stIdxSk_any (P : T3 → Bool) (b : Nat) (A : Option Addr) (cap : Nat) (l : List T3) (B : Nat) (w : World) (hB : B ≤ w.heap.size) (hz : Vals w B A (l.flatMap t3)) (hl : l.length ≤ 1000000)
    (hff : ∀ y W, y ∈ l → Below w.heap.size w W → Calls Try.prog 83 #[.agg (t3 y).toArray, .pointer (some ⟨b, 0, none⟩)] W fun e w' => e = .returned (.bool (P y)) ∧ Below W.heap.size W w') :
    Calls Try.prog 88 #[.slice A l.length cap, .func (.func 83) #[] #[.pointer (some ⟨b, 0, none⟩)]] w fun e w' => e = .returned (.int .i64 (idxL P l 0)) ∧ Below w.heap.size w w' := by
  have HZ := Lib.hid hz
  have HFF := Lib.hid hff
  have HBB := Lib.hid hB
  clear hz hff hB
  go_enter Try.func88, Try.ntmps88
  go_wp2
  go_loopg [8] l.length (fun gg s8 wx => ∃ k : Nat, k + gg = l.length ∧ s8 = .int .i64 k ∧ Hid (idxL P (l.drop k) k = idxL P l 0) ∧ Hid (Below w.heap.size w wx))
  case atStart => exact ⟨0, by omega, rfl, rfl, Below.refl _ _⟩
  case round =>
    obtain ⟨k, hkg, rfl, hI, hBr⟩ := hrel
    cases gk with
    | zero =>
      obtain rfl : k = l.length := by omega
      go_wp2
      go_ret
      refine ⟨?_, hBr.out⟩
      rw [← hI.out, List.drop_length]
      rfl
    | succ gg =>
      have hk : k < l.length := by omega
      have hkz : (k : Int) < l.length := by omega
      obtain ⟨c, off, hA, hcB, hc⟩ := vals_elem t3_len HZ.out (by decide) hk
      subst hA
      have hc' : ∀ j v, (t3 l[k])[j]? = some v → wr.cell? ⟨c, off + k * 3 + j, none⟩ = some v := fun j v hv => (hBr.out.cell (p := ⟨c, off + k * 3 + j, none⟩) (by have := HBB.out; simp; omega)).trans (hc j v hv)
      have hst := idxL_step (P := P) hk
      rw [hI.out] at hst
      have hy := HFF.out _ wr (List.getElem_mem hk) hBr.out
      generalize l[k] = y at hc' hst hy
      have HY := Lib.hid hy
      have HST := Lib.hid hst
      have HCC := Lib.hid hc'
      clear hc hc' hst hy
      cases hp : P y
      all_goals
        rw [hp] at HY HST
        clear hp
        go_wp2_with (first
          | (show wpList _ _ _ (Oper.mk (some 15) _ _ _ _ _ :: _) _ _
             refine wpList_load_at 61 (.tmp 14) rfl rfl rfl (t3 y) HCC.out rowStick ?_)
          | (go_at_call 83; refine HY.out.mono ?_; rintro e w' ⟨rfl, hB1⟩; have HB1 := Lib.hid hB1; clear hB1))
      rotate_left
      · go_ret
        exact ⟨by rw [HST.out]; rfl, hBr.out.trans (HB1.out.mono hBr.out.size)⟩
      · go_roundg gg
        case measure => omega
        case rel => exact ⟨k + 1, by omega, by go_num, by rw [HST.out]; rfl, hBr.out.trans (HB1.out.mono hBr.out.size)⟩
theorem stHasSk_any (P : T3 → Bool) (b : Nat) (A : Option Addr) (cap : Nat) (l : List T3) (B : Nat) (w : World) (hB : B ≤ w.heap.size) (hz : Vals w B A (l.flatMap t3)) (hl : l.length ≤ 1000000)
    (hff : ∀ y W, y ∈ l → Below w.heap.size w W → Calls Try.prog 83 #[.agg (t3 y).toArray, .pointer (some ⟨b, 0, none⟩)] W fun e w' => e = .returned (.bool (P y)) ∧ Below W.heap.size W w') :
    Calls Try.prog 82 #[.slice A l.length cap, .func (.func 83) #[] #[.pointer (some ⟨b, 0, none⟩)]] w fun e w' => e = .returned (.bool (l.any P)) ∧ Below w.heap.size w w' := by
  have H := stIdxSk_any P b A cap l B w hB hz hl hff
  rw [← idxL_some]
  generalize idxL P l 0 = i at H
  have HH := Lib.hid H
  clear H hz hff
  go_enter Try.func82, Try.ntmps82
  go_wp2_with (go_at_call 88; refine HH.out.mono ?_; rintro e w' ⟨rfl, hB1⟩; have HB1 := Lib.hid hB1; clear hB1)
  go_ret
  exact ⟨rfl, HB1.out⟩
theorem stNotSk_any (v : Bool) (y : T3) (b : Nat) (w : World) (hb : w.heap[b]? = some (.cells #[.func (.func 67) #[] #[]] 119 (0, 0)))
    (hc : ∀ W, Below w.heap.size w W → Calls Try.prog 67 #[.agg (t3 y).toArray] W fun e w' => e = .returned (.bool v) ∧ Below W.heap.size W w') :
    Calls Try.prog 83 #[.agg (t3 y).toArray, .pointer (some ⟨b, 0, none⟩)] w fun e w' => e = .returned (.bool (!v)) ∧ Below w.heap.size w w' := by
  obtain ⟨w1, hw1⟩ : ∃ w1, w.alloc (.cells (t3 y).toArray 61) = w1 := ⟨_, rfl⟩
  have hb1 : Below w.heap.size w w1 := by rw [← hw1]; exact grow1 _ _
  have m1 : w1.heap[w.heap.size]? = some (.cells (t3 y).toArray 61 (0, 0)) := by rw [← hw1]; exact alloc_at0 _ _
  have hbw := (hb1.block _ (lt_of_heap hb)).trans hb
  have hcb := fun i => cell_of_row w1 b i _ _ _ hbw
  have hc1 := hc w1 hb1
  have H1 := Lib.hid (And.intro hb1 m1)
  have HC := Lib.hid hc1
  clear hb1 m1 hc hc1 hb hbw
  unfold t3 at hw1 ⊢
  go_enter Try.func83, Try.ntmps83
  go_wp2_with (first
    | (show wpList _ _ _ (Oper.mk (some 5) _ _ _ _ _ :: _) _ _
       refine wpList_load_blk 61 (.tmp 2) rfl rfl rfl H1.out.2 (t3 y) at0 rowStick ?_)
    | (go_at_call 67
       refine HC.out.mono ?_
       rintro e w2 ⟨rfl, hB2⟩
       have H2 := Lib.hid (H1.out.1.trans (hB2.mono H1.out.1.size))
       clear hB2))
  go_ret
  exact ⟨rfl, H2.out⟩
theorem stAllSk_any (P : T3 → Bool) (m : Nat) (hm : m ≤ 1000000) (A : Option Addr) (cap : Nat) (l : List T3) (B : Nat) (w : World) (hB : B ≤ w.heap.size) (hz : Vals w B A (l.flatMap t3)) (hl : l.length ≤ 1000000)
    (hf : ∀ y W, y ∈ l → Below w.heap.size w W → Calls Try.prog 67 #[.agg (t3 y).toArray] W fun e w' => e = .returned (.bool (P y)) ∧ Below W.heap.size W w') :
    Calls Try.prog 66 #[.slice A l.length cap, .int .i64 m, .func (.func 67) #[] #[]] w fun e w' => e = .returned (.bool (decide (l.length ≤ m) && l.all P)) ∧ Below w.heap.size w w' := by
  obtain ⟨w1, hw1⟩ : ∃ w1, w.alloc (.cells #[.func (.func 67) #[] #[]] 119) = w1 := ⟨_, rfl⟩
  have hb1 : Below w.heap.size w w1 := by rw [← hw1]; exact grow1 _ _
  have m1 : w1.heap[w.heap.size]? = some (.cells #[.func (.func 67) #[] #[]] 119 (0, 0)) := by rw [← hw1]; exact alloc_at0 _ _
  have hs1 := lt_of_heap m1
  have H := stHasSk_any (fun y => !P y) w.heap.size A cap l B w1 (Nat.le_trans hB hb1.size) (hz.below (hb1.mono hB)) hl
    fun y W hy hW => stNotSk_any (P y) y w.heap.size W ((hW.block _ hs1).trans m1) fun W2 hW2 => hf y W2 hy (hb1.trans ((hW.trans (hW2.mono hW.size)).mono hb1.size))
  rw [all_not]
  generalize (l.any fun y => !P y) = v at H ⊢
  have HH := Lib.hid H
  have HB0 := Lib.hid hb1
  clear H hz hf hb1 m1 hs1
  by_cases h6 : l.length ≤ m
  · have h6i : (l.length : Int) ≤ m := by omega
    have h6d : decide (l.length ≤ m) = true := decide_eq_true h6
    have h7d : decide ((l.length : Int) ≤ m) = true := decide_eq_true h6i
    rw [h6d]
    go_enter Try.func66, Try.ntmps66
    go_wp2_with (go_at_call 82; refine HH.out.mono ?_; rintro e w' ⟨rfl, hB1⟩; have HB1 := Lib.hid hB1; clear hB1)
    go_ret
    exact ⟨rfl, HB0.out.trans (HB1.out.mono HB0.out.size)⟩
  · have h6i : ¬ (l.length : Int) ≤ m := by omega
    have h6d : decide (l.length ≤ m) = false := decide_eq_false h6
    have h7d : decide ((l.length : Int) ≤ m) = false := decide_eq_false h6i
    rw [h6d]
    go_enter Try.func66, Try.ntmps66
    go_wp2
    go_ret
    exact ⟨rfl, HB0.out⟩

theorem rowMember : RowTy Try.prog 63 3 := ⟨⟨_, Try.underlying63, rfl⟩, by kernel_rfl⟩
theorem stIdxMb_any (P : T3 → Bool) (b : Nat) (A : Option Addr) (cap : Nat) (l : List T3) (B : Nat) (w : World) (hB : B ≤ w.heap.size) (hz : Vals w B A (l.flatMap t3)) (hl : l.length ≤ 1000000)
    (hff : ∀ y W, y ∈ l → Below w.heap.size w W → Calls Try.prog 85 #[.agg (t3 y).toArray, .pointer (some ⟨b, 0, none⟩)] W fun e w' => e = .returned (.bool (P y)) ∧ Below W.heap.size W w') :
    Calls Try.prog 89 #[.slice A l.length cap, .func (.func 85) #[] #[.pointer (some ⟨b, 0, none⟩)]] w fun e w' => e = .returned (.int .i64 (idxL P l 0)) ∧ Below w.heap.size w w' := by
  have HZ := Lib.hid hz
  have HFF := Lib.hid hff
  have HBB := Lib.hid hB
  clear hz hff hB
  go_enter Try.func89, Try.ntmps89
  go_wp2
  go_loopg [8] l.length (fun gg s8 wx => ∃ k : Nat, k + gg = l.length ∧ s8 = .int .i64 k ∧ Hid (idxL P (l.drop k) k = idxL P l 0) ∧ Hid (Below w.heap.size w wx))
  case atStart => exact ⟨0, by omega, rfl, rfl, Below.refl _ _⟩
  case round =>
    obtain ⟨k, hkg, rfl, hI, hBr⟩ := hrel
    cases gk with
    | zero =>
      obtain rfl : k = l.length := by omega
      go_wp2
      go_ret
      refine ⟨?_, hBr.out⟩
      rw [← hI.out, List.drop_length]
      rfl
    | succ gg =>
      have hk : k < l.length := by omega
      have hkz : (k : Int) < l.length := by omega
      obtain ⟨c, off, hA, hcB, hc⟩ := vals_elem t3_len HZ.out (by decide) hk
      subst hA
      have hc' : ∀ j v, (t3 l[k])[j]? = some v → wr.cell? ⟨c, off + k * 3 + j, none⟩ = some v := fun j v hv => (hBr.out.cell (p := ⟨c, off + k * 3 + j, none⟩) (by have := HBB.out; simp; omega)).trans (hc j v hv)
      have hst := idxL_step (P := P) hk
      rw [hI.out] at hst
      have hy := HFF.out _ wr (List.getElem_mem hk) hBr.out
      generalize l[k] = y at hc' hst hy
      have HY := Lib.hid hy
      have HST := Lib.hid hst
      have HCC := Lib.hid hc'
      clear hc hc' hst hy
      cases hp : P y
      all_goals
        rw [hp] at HY HST
        clear hp
        go_wp2_with (first
          | (show wpList _ _ _ (Oper.mk (some 15) _ _ _ _ _ :: _) _ _
             refine wpList_load_at 63 (.tmp 14) rfl rfl rfl (t3 y) HCC.out rowMember ?_)
          | (go_at_call 85; refine HY.out.mono ?_; rintro e w' ⟨rfl, hB1⟩; have HB1 := Lib.hid hB1; clear hB1))
      rotate_left
      · go_ret
        exact ⟨by rw [HST.out]; rfl, hBr.out.trans (HB1.out.mono hBr.out.size)⟩
      · go_roundg gg
        case measure => omega
        case rel => exact ⟨k + 1, by omega, by go_num, by rw [HST.out]; rfl, hBr.out.trans (HB1.out.mono hBr.out.size)⟩
theorem stHasMb_any (P : T3 → Bool) (b : Nat) (A : Option Addr) (cap : Nat) (l : List T3) (B : Nat) (w : World) (hB : B ≤ w.heap.size) (hz : Vals w B A (l.flatMap t3)) (hl : l.length ≤ 1000000)
    (hff : ∀ y W, y ∈ l → Below w.heap.size w W → Calls Try.prog 85 #[.agg (t3 y).toArray, .pointer (some ⟨b, 0, none⟩)] W fun e w' => e = .returned (.bool (P y)) ∧ Below W.heap.size W w') :
    Calls Try.prog 84 #[.slice A l.length cap, .func (.func 85) #[] #[.pointer (some ⟨b, 0, none⟩)]] w fun e w' => e = .returned (.bool (l.any P)) ∧ Below w.heap.size w w' := by
  have H := stIdxMb_any P b A cap l B w hB hz hl hff
  rw [← idxL_some]
  generalize idxL P l 0 = i at H
  have HH := Lib.hid H
  clear H hz hff
  go_enter Try.func84, Try.ntmps84
  go_wp2_with (go_at_call 89; refine HH.out.mono ?_; rintro e w' ⟨rfl, hB1⟩; have HB1 := Lib.hid hB1; clear hB1)
  go_ret
  exact ⟨rfl, HB1.out⟩
theorem stNotMb_any (v : Bool) (y : T3) (b : Nat) (w : World) (hb : w.heap[b]? = some (.cells #[.func (.func 69) #[] #[]] 121 (0, 0)))
    (hc : ∀ W, Below w.heap.size w W → Calls Try.prog 69 #[.agg (t3 y).toArray] W fun e w' => e = .returned (.bool v) ∧ Below W.heap.size W w') :
    Calls Try.prog 85 #[.agg (t3 y).toArray, .pointer (some ⟨b, 0, none⟩)] w fun e w' => e = .returned (.bool (!v)) ∧ Below w.heap.size w w' := by
  obtain ⟨w1, hw1⟩ : ∃ w1, w.alloc (.cells (t3 y).toArray 63) = w1 := ⟨_, rfl⟩
  have hb1 : Below w.heap.size w w1 := by rw [← hw1]; exact grow1 _ _
  have m1 : w1.heap[w.heap.size]? = some (.cells (t3 y).toArray 63 (0, 0)) := by rw [← hw1]; exact alloc_at0 _ _
  have hbw := (hb1.block _ (lt_of_heap hb)).trans hb
  have hcb := fun i => cell_of_row w1 b i _ _ _ hbw
  have hc1 := hc w1 hb1
  have H1 := Lib.hid (And.intro hb1 m1)
  have HC := Lib.hid hc1
  clear hb1 m1 hc hc1 hb hbw
  unfold t3 at hw1 ⊢
  go_enter Try.func85, Try.ntmps85
  go_wp2_with (first
    | (show wpList _ _ _ (Oper.mk (some 5) _ _ _ _ _ :: _) _ _
       refine wpList_load_blk 63 (.tmp 2) rfl rfl rfl H1.out.2 (t3 y) at0 rowMember ?_)
    | (go_at_call 69
       refine HC.out.mono ?_
       rintro e w2 ⟨rfl, hB2⟩
       have H2 := Lib.hid (H1.out.1.trans (hB2.mono H1.out.1.size))
       clear hB2))
  go_ret
  exact ⟨rfl, H2.out⟩
theorem stAllMb_any (P : T3 → Bool) (m : Nat) (hm : m ≤ 1000000) (A : Option Addr) (cap : Nat) (l : List T3) (B : Nat) (w : World) (hB : B ≤ w.heap.size) (hz : Vals w B A (l.flatMap t3)) (hl : l.length ≤ 1000000)
    (hf : ∀ y W, y ∈ l → Below w.heap.size w W → Calls Try.prog 69 #[.agg (t3 y).toArray] W fun e w' => e = .returned (.bool (P y)) ∧ Below W.heap.size W w') :
    Calls Try.prog 68 #[.slice A l.length cap, .int .i64 m, .func (.func 69) #[] #[]] w fun e w' => e = .returned (.bool (decide (l.length ≤ m) && l.all P)) ∧ Below w.heap.size w w' := by
  obtain ⟨w1, hw1⟩ : ∃ w1, w.alloc (.cells #[.func (.func 69) #[] #[]] 121) = w1 := ⟨_, rfl⟩
  have hb1 : Below w.heap.size w w1 := by rw [← hw1]; exact grow1 _ _
  have m1 : w1.heap[w.heap.size]? = some (.cells #[.func (.func 69) #[] #[]] 121 (0, 0)) := by rw [← hw1]; exact alloc_at0 _ _
  have hs1 := lt_of_heap m1
  have H := stHasMb_any (fun y => !P y) w.heap.size A cap l B w1 (Nat.le_trans hB hb1.size) (hz.below (hb1.mono hB)) hl
    fun y W hy hW => stNotMb_any (P y) y w.heap.size W ((hW.block _ hs1).trans m1) fun W2 hW2 => hf y W2 hy (hb1.trans ((hW.trans (hW2.mono hW.size)).mono hb1.size))
  rw [all_not]
  generalize (l.any fun y => !P y) = v at H ⊢
  have HH := Lib.hid H
  have HB0 := Lib.hid hb1
  clear H hz hf hb1 m1 hs1
  by_cases h6 : l.length ≤ m
  · have h6i : (l.length : Int) ≤ m := by omega
    have h6d : decide (l.length ≤ m) = true := decide_eq_true h6
    have h7d : decide ((l.length : Int) ≤ m) = true := decide_eq_true h6i
    rw [h6d]
    go_enter Try.func68, Try.ntmps68
    go_wp2_with (go_at_call 84; refine HH.out.mono ?_; rintro e w' ⟨rfl, hB1⟩; have HB1 := Lib.hid hB1; clear hB1)
    go_ret
    exact ⟨rfl, HB0.out.trans (HB1.out.mono HB0.out.size)⟩
  · have h6i : ¬ (l.length : Int) ≤ m := by omega
    have h6d : decide (l.length ≤ m) = false := decide_eq_false h6
    have h7d : decide ((l.length : Int) ≤ m) = false := decide_eq_false h6i
    rw [h6d]
    go_enter Try.func68, Try.ntmps68
    go_wp2
    go_ret
    exact ⟨rfl, HB0.out⟩

end Go.Proofs.Ytepkkhdfobhhjaa
