/-
  Trunks in lists, and which are valid.
-/
import Derived.Test.YtepkkhdfobhhjaaStC
namespace Go.Proofs.Ytepkkhdfobhhjaa
open Go.RowKit

/-- A trunk, and where its bends lie. -/
structure Tk where
  n : Int
  g : Int
  A : Option Addr
  c : Nat
  zs : List Int
def tkc (x : Tk) : List Value := [.int .i64 x.n, .int .i64 x.g, .slice x.A x.zs.length x.c]
def tkE (x : Tk) : Int × Int × List Int := (x.n, x.g, x.zs)
theorem tkc_len (x : Tk) : (tkc x).length = 3 := rfl
theorem tkc_one (l : List Tk) : ∀ v ∈ l.flatMap tkc, v.oneCell' = true := by
  intro v hv
  obtain ⟨p, -, hv⟩ := List.mem_flatMap.1 hv
  simp only [tkc, List.mem_cons, List.not_mem_nil, or_false] at hv
  rcases hv with rfl | rfl | rfl <;> rfl
structure TksAt (w : World) (B : Nat) (l : List Tk) (A : Option Addr) : Prop where
  v : Vals w B A (l.flatMap tkc)
  r : ∀ x ∈ l, Ints w B x.A x.zs
theorem TksAt.below {w w' : World} {B : Nat} {l : List Tk} {A : Option Addr} (h : TksAt w B l A) (hb : Below B w w') : TksAt w' B l A := ⟨h.v.below hb, fun x hx => (h.r x hx).below hb⟩
theorem TksAt.mono {w : World} {B B' : Nat} {l : List Tk} {A : Option Addr} (h : TksAt w B l A) (hb : B ≤ B') : TksAt w B' l A := ⟨h.v.mono hb, fun x hx => (h.r x hx).mono hb⟩
/-- Lists that are not great. -/
def smallT (l : List Tk) : Prop := l.length ≤ 1000 ∧ ∀ x ∈ l, x.zs.length ≤ 1000

/-- Each number is greater than the one before it. -/
def incF : Option Int → List Int → Bool
  | _, [] => true
  | none, z :: l => incF (some z) l
  | some p, z :: l => decide (p < z) && incF (some z) l
def prevZ (zs : List Int) (k : Nat) : Option Int := if k = 0 then none else zs[k - 1]?
theorem incF_zero {zs : List Int} (h : 0 < zs.length) : incF (prevZ zs 1) (zs.drop 1) = incF (prevZ zs 0) (zs.drop 0) := by
  cases zs with
  | nil => simp at h
  | cons z l => simp [prevZ, incF]
theorem incF_step {zs : List Int} {k : Nat} (h : k + 1 < zs.length) : incF (prevZ zs (k + 1)) (zs.drop (k + 1)) = (decide (zs[k]?.getD 0 < zs[k + 1]?.getD 0) && incF (prevZ zs (k + 1 + 1)) (zs.drop (k + 1 + 1))) := by
  have h1 : k < zs.length := by omega
  have p1 : prevZ zs (k + 1) = some zs[k] := by simp [prevZ, h1]
  have p2 : prevZ zs (k + 1 + 1) = some zs[k + 1] := by simp [prevZ, h]
  have e1 : zs[k]?.getD 0 = zs[k] := by simp [h1]
  have e2 : zs[k + 1]?.getD 0 = zs[k + 1] := by simp [h]
  rw [List.drop_eq_getElem_cons h, p1, p2, e1, e2]
  rfl
theorem incF_end {zs : List Int} : incF (prevZ zs zs.length) (zs.drop zs.length) = true := by
  rw [List.drop_length]
  generalize prevZ zs zs.length = p
  cases p <;> rfl
def okTk (x : Int × Int × List Int) : Bool := okPc x.1 x.2.1 && (decide (x.2.2.length ≤ 4) && x.2.2.all (allB 1 (x.1 - 1) [·])) && incF none x.2.2
def okTks (l : List (Int × Int × List Int)) : Bool := decide (l.length ≤ 6) && l.all okTk

theorem rowTrunk : RowTy Try.prog 59 3 := ⟨⟨_, Try.underlying59, rfl⟩, by kernel_rfl⟩
theorem stIdxTk_any (P : Tk → Bool) (b : Nat) (A : Option Addr) (cap : Nat) (l : List Tk) (B : Nat) (w : World) (hB : B ≤ w.heap.size) (hz : Vals w B A (l.flatMap tkc)) (hl : l.length ≤ 1000000)
    (hff : ∀ y W, y ∈ l → Below w.heap.size w W → Calls Try.prog 71 #[.agg (tkc y).toArray, .pointer (some ⟨b, 0, none⟩)] W fun e w' => e = .returned (.bool (P y)) ∧ Below W.heap.size W w') :
    Calls Try.prog 86 #[.slice A l.length cap, .func (.func 71) #[] #[.pointer (some ⟨b, 0, none⟩)]] w fun e w' => e = .returned (.int .i64 (idxL P l 0)) ∧ Below w.heap.size w w' := by
  have HZ := Lib.hid hz
  have HFF := Lib.hid hff
  have HBB := Lib.hid hB
  clear hz hff hB
  go_enter Try.func86, Try.ntmps86
  go_wp2
  go_loopg [8] l.length (fun gg s8 wx => ∃ k : Nat, k + gg = l.length ∧ s8 = .int .i64 k ∧ Hid (idxL P (l.drop k) k = idxL P l 0) ∧ Hid (Below w.heap.size w wx))
  case atStart => exact ⟨0, by omega, rfl, rfl, Below.refl _ _⟩
  case round =>
    obtain ⟨k, hkg, rfl, hI, hBr⟩ := hrel
    cases gk with
    | zero =>
      obtain rfl : k = l.length := by omega
      go_wp2
      go_ret
      refine ⟨?_, hBr.out⟩
      rw [← hI.out, List.drop_length]
      rfl
    | succ gg =>
      have hk : k < l.length := by omega
      have hkz : (k : Int) < l.length := by omega
      obtain ⟨c, off, hA, hcB, hc⟩ := vals_elem tkc_len HZ.out (by decide) hk
      subst hA
      have hc' : ∀ j v, (tkc l[k])[j]? = some v → wr.cell? ⟨c, off + k * 3 + j, none⟩ = some v := fun j v hv => (hBr.out.cell (p := ⟨c, off + k * 3 + j, none⟩) (by have := HBB.out; simp; omega)).trans (hc j v hv)
      have hst := idxL_step (P := P) hk
      rw [hI.out] at hst
      have hy := HFF.out _ wr (List.getElem_mem hk) hBr.out
      generalize l[k] = y at hc' hst hy
      have HY := Lib.hid hy
      have HST := Lib.hid hst
      have HCC := Lib.hid hc'
      clear hc hc' hst hy
      cases hp : P y
      all_goals
        rw [hp] at HY HST
        clear hp
        go_wp2_with (first
          | (show wpList _ _ _ (Oper.mk (some 15) _ _ _ _ _ :: _) _ _
             refine wpList_load_at 59 (.tmp 14) rfl rfl rfl (tkc y) HCC.out rowTrunk ?_)
          | (go_at_call 71; refine HY.out.mono ?_; rintro e w' ⟨rfl, hB1⟩; have HB1 := Lib.hid hB1; clear hB1))
      rotate_left
      · go_ret
        exact ⟨by rw [HST.out]; rfl, hBr.out.trans (HB1.out.mono hBr.out.size)⟩
      · go_roundg gg
        case measure => omega
        case rel => exact ⟨k + 1, by omega, by go_num, by rw [HST.out]; rfl, hBr.out.trans (HB1.out.mono hBr.out.size)⟩
theorem stHasTk_any (P : Tk → Bool) (b : Nat) (A : Option Addr) (cap : Nat) (l : List Tk) (B : Nat) (w : World) (hB : B ≤ w.heap.size) (hz : Vals w B A (l.flatMap tkc)) (hl : l.length ≤ 1000000)
    (hff : ∀ y W, y ∈ l → Below w.heap.size w W → Calls Try.prog 71 #[.agg (tkc y).toArray, .pointer (some ⟨b, 0, none⟩)] W fun e w' => e = .returned (.bool (P y)) ∧ Below W.heap.size W w') :
    Calls Try.prog 70 #[.slice A l.length cap, .func (.func 71) #[] #[.pointer (some ⟨b, 0, none⟩)]] w fun e w' => e = .returned (.bool (l.any P)) ∧ Below w.heap.size w w' := by
  have H := stIdxTk_any P b A cap l B w hB hz hl hff
  rw [← idxL_some]
  generalize idxL P l 0 = i at H
  have HH := Lib.hid H
  clear H hz hff
  go_enter Try.func70, Try.ntmps70
  go_wp2_with (go_at_call 86; refine HH.out.mono ?_; rintro e w' ⟨rfl, hB1⟩; have HB1 := Lib.hid hB1; clear hB1)
  go_ret
  exact ⟨rfl, HB1.out⟩
theorem stNotTk_any (v : Bool) (y : Tk) (b : Nat) (w : World) (hb : w.heap[b]? = some (.cells #[.func (.func 52) #[] #[]] 99 (0, 0)))
    (hc : ∀ W, Below w.heap.size w W → Calls Try.prog 52 #[.agg (tkc y).toArray] W fun e w' => e = .returned (.bool v) ∧ Below W.heap.size W w') :
    Calls Try.prog 71 #[.agg (tkc y).toArray, .pointer (some ⟨b, 0, none⟩)] w fun e w' => e = .returned (.bool (!v)) ∧ Below w.heap.size w w' := by
  obtain ⟨w1, hw1⟩ : ∃ w1, w.alloc (.cells (tkc y).toArray 59) = w1 := ⟨_, rfl⟩
  have hb1 : Below w.heap.size w w1 := by rw [← hw1]; exact grow1 _ _
  have m1 : w1.heap[w.heap.size]? = some (.cells (tkc y).toArray 59 (0, 0)) := by rw [← hw1]; exact alloc_at0 _ _
  have hbw := (hb1.block _ (lt_of_heap hb)).trans hb
  have hcb := fun i => cell_of_row w1 b i _ _ _ hbw
  have hc1 := hc w1 hb1
  have H1 := Lib.hid (And.intro hb1 m1)
  have HC := Lib.hid hc1
  clear hb1 m1 hc hc1 hb hbw
  unfold tkc at hw1 ⊢
  go_enter Try.func71, Try.ntmps71
  go_wp2_with (first
    | (show wpList _ _ _ (Oper.mk (some 5) _ _ _ _ _ :: _) _ _
       refine wpList_load_blk 59 (.tmp 2) rfl rfl rfl H1.out.2 (tkc y) at0 rowTrunk ?_)
    | (go_at_call 52
       refine HC.out.mono ?_
       rintro e w2 ⟨rfl, hB2⟩
       have H2 := Lib.hid (H1.out.1.trans (hB2.mono H1.out.1.size))
       clear hB2))
  go_ret
  exact ⟨rfl, H2.out⟩
theorem stAllTk_any (P : Tk → Bool) (m : Nat) (hm : m ≤ 1000000) (A : Option Addr) (cap : Nat) (l : List Tk) (B : Nat) (w : World) (hB : B ≤ w.heap.size) (hz : Vals w B A (l.flatMap tkc)) (hl : l.length ≤ 1000000)
    (hf : ∀ y W, y ∈ l → Below w.heap.size w W → Calls Try.prog 52 #[.agg (tkc y).toArray] W fun e w' => e = .returned (.bool (P y)) ∧ Below W.heap.size W w') :
    Calls Try.prog 51 #[.slice A l.length cap, .int .i64 m, .func (.func 52) #[] #[]] w fun e w' => e = .returned (.bool (decide (l.length ≤ m) && l.all P)) ∧ Below w.heap.size w w' := by
  obtain ⟨w1, hw1⟩ : ∃ w1, w.alloc (.cells #[.func (.func 52) #[] #[]] 99) = w1 := ⟨_, rfl⟩
  have hb1 : Below w.heap.size w w1 := by rw [← hw1]; exact grow1 _ _
  have m1 : w1.heap[w.heap.size]? = some (.cells #[.func (.func 52) #[] #[]] 99 (0, 0)) := by rw [← hw1]; exact alloc_at0 _ _
  have hs1 := lt_of_heap m1
  have H := stHasTk_any (fun y => !P y) w.heap.size A cap l B w1 (Nat.le_trans hB hb1.size) (hz.below (hb1.mono hB)) hl
    fun y W hy hW => stNotTk_any (P y) y w.heap.size W ((hW.block _ hs1).trans m1) fun W2 hW2 => hf y W2 hy (hb1.trans ((hW.trans (hW2.mono hW.size)).mono hb1.size))
  rw [all_not]
  generalize (l.any fun y => !P y) = v at H ⊢
  have HH := Lib.hid H
  have HB0 := Lib.hid hb1
  clear H hz hf hb1 m1 hs1
  by_cases h6 : l.length ≤ m
  · have h6i : (l.length : Int) ≤ m := by omega
    have h6d : decide (l.length ≤ m) = true := decide_eq_true h6
    have h7d : decide ((l.length : Int) ≤ m) = true := decide_eq_true h6i
    rw [h6d]
    go_enter Try.func51, Try.ntmps51
    go_wp2_with (go_at_call 70; refine HH.out.mono ?_; rintro e w' ⟨rfl, hB1⟩; have HB1 := Lib.hid hB1; clear hB1)
    go_ret
    exact ⟨rfl, HB0.out.trans (HB1.out.mono HB0.out.size)⟩
  · have h6i : ¬ (l.length : Int) ≤ m := by omega
    have h6d : decide (l.length ≤ m) = false := decide_eq_false h6
    have h7d : decide ((l.length : Int) ≤ m) = false := decide_eq_false h6i
    rw [h6d]
    go_enter Try.func51, Try.ntmps51
    go_wp2
    go_ret
    exact ⟨rfl, HB0.out⟩

/-- Of a number: whether it is a bend of a trunk. -/
def bendB (n z : Int) : Bool := allB 1 (n - 1) [z]
theorem bend1_any (x : Tk) (hn : 100 ≤ x.n) (hn2 : x.n ≤ 20000) (z : Int) (b : Nat) (w : World) (hb : w.heap[b]? = some (.cells (tkc x).toArray 59 (0, 0))) :
    Calls Try.prog 72 #[.int .i64 z, .pointer (some ⟨b, 0, none⟩)] w fun e w' => e = .returned (.bool (bendB x.n z)) ∧ Below w.heap.size w w' := by
  have HW := Lib.hid (fun W b hb => within_new 1 (x.n - 1) [z] W b 1 1 rfl hb (by simp))
  unfold bendB
  generalize allB 1 (x.n - 1) [z] = u at HW ⊢
  have hc := fun i => cell_of_row w b i _ _ _ hb
  unfold tkc at hc
  clear hb
  go_enter Try.func72, Try.ntmps72
  go_wp2_with (first
    | (go_at_call 38; refine (HW.out _ _ (alloc_at0 _ _)).mono ?_; rintro e W3 ⟨rfl, hB3⟩; have H3 := Lib.hid ((H2.out.alloc H2.out.size _).trans (hB3.mono (H2.out.alloc H2.out.size _).size)); clear hB3)
    | (go_at_call 73; refine (fromOne_any (x.n - 1) _).mono ?_; rintro e W2 ⟨rfl, hB2⟩; have H2 := Lib.hid hB2; clear hB2))
  go_ret
  exact ⟨rfl, H3.out⟩
theorem stIdxBd_any (P : Int → Bool) (b : Nat) (A : Option Addr) (cap : Nat) (l : List Int) (B : Nat) (w : World) (hB : B ≤ w.heap.size) (hz : Ints w B A l) (hl : l.length ≤ 1000000)
    (hff : ∀ y W, y ∈ l → Below w.heap.size w W → Calls Try.prog 81 #[.int .i64 y, .pointer (some ⟨b, 0, none⟩)] W fun e w' => e = .returned (.bool (P y)) ∧ Below W.heap.size W w') :
    Calls Try.prog 76 #[.slice A l.length cap, .func (.func 81) #[] #[.pointer (some ⟨b, 0, none⟩)]] w fun e w' => e = .returned (.int .i64 (idxL P l 0)) ∧ Below w.heap.size w w' := by
  have HZ := Lib.hid hz
  have HFF := Lib.hid hff
  have HBB := Lib.hid hB
  clear hz hff hB
  go_enter Try.func76, Try.ntmps76
  go_wp2
  go_loopg [8] l.length (fun gg s8 wx => ∃ k : Nat, k + gg = l.length ∧ s8 = .int .i64 k ∧ Hid (idxL P (l.drop k) k = idxL P l 0) ∧ Hid (Below w.heap.size w wx))
  case atStart => exact ⟨0, by omega, rfl, rfl, Below.refl _ _⟩
  case round =>
    obtain ⟨k, hkg, rfl, hI, hBr⟩ := hrel
    cases gk with
    | zero =>
      obtain rfl : k = l.length := by omega
      go_wp2
      go_ret
      refine ⟨?_, hBr.out⟩
      rw [← hI.out, List.drop_length]
      rfl
    | succ gg =>
      have hk : k < l.length := by omega
      have hkz : (k : Int) < l.length := by omega
      obtain ⟨c, off, hA, hcB, hc⟩ := HZ.out (by omega)
      subst hA
      have hc' := (hBr.out.cell (p := ⟨c, off + k, none⟩) (by have := HBB.out; simp; omega)).trans (hc k hk)
      rw [show l[k]?.getD 0 = l[k] by simp [hk]] at hc'
      have hst := idxL_step (P := P) hk
      rw [hI.out] at hst
      have hy := HFF.out _ wr (List.getElem_mem hk) hBr.out
      generalize l[k] = y at hc' hst hy
      have HY := Lib.hid hy
      have HST := Lib.hid hst
      clear hc hst hy
      cases hp : P y
      all_goals
        rw [hp] at HY HST
        clear hp
        go_wp2_with (first
          | (go_at_call 81; refine HY.out.mono ?_; rintro e w' ⟨rfl, hB1⟩; have HB1 := Lib.hid hB1; clear hB1))
      rotate_left
      · go_ret
        exact ⟨by rw [HST.out]; rfl, hBr.out.trans (HB1.out.mono hBr.out.size)⟩
      · go_roundg gg
        case measure => omega
        case rel => exact ⟨k + 1, by omega, by go_num, by rw [HST.out]; rfl, hBr.out.trans (HB1.out.mono hBr.out.size)⟩
theorem stHasBd_any (P : Int → Bool) (b : Nat) (A : Option Addr) (cap : Nat) (l : List Int) (B : Nat) (w : World) (hB : B ≤ w.heap.size) (hz : Ints w B A l) (hl : l.length ≤ 1000000)
    (hff : ∀ y W, y ∈ l → Below w.heap.size w W → Calls Try.prog 81 #[.int .i64 y, .pointer (some ⟨b, 0, none⟩)] W fun e w' => e = .returned (.bool (P y)) ∧ Below W.heap.size W w') :
    Calls Try.prog 53 #[.slice A l.length cap, .func (.func 81) #[] #[.pointer (some ⟨b, 0, none⟩)]] w fun e w' => e = .returned (.bool (l.any P)) ∧ Below w.heap.size w w' := by
  have H := stIdxBd_any P b A cap l B w hB hz hl hff
  rw [← idxL_some]
  generalize idxL P l 0 = i at H
  have HH := Lib.hid H
  clear H hz hff
  go_enter Try.func53, Try.ntmps53
  go_wp2_with (go_at_call 76; refine HH.out.mono ?_; rintro e w' ⟨rfl, hB1⟩; have HB1 := Lib.hid hB1; clear hB1)
  go_ret
  exact ⟨rfl, HB1.out⟩
theorem stNotBd_any (v : Bool) (b0 : Nat) (y : Int) (b : Nat) (w : World) (hb : w.heap[b]? = some (.cells #[.func (.func 72) #[] #[.pointer (some ⟨b0, 0, none⟩)]] 101 (0, 0)))
    (hc : ∀ W, Below w.heap.size w W → Calls Try.prog 72 #[.int .i64 y, .pointer (some ⟨b0, 0, none⟩)] W fun e w' => e = .returned (.bool v) ∧ Below W.heap.size W w') :
    Calls Try.prog 81 #[.int .i64 y, .pointer (some ⟨b, 0, none⟩)] w fun e w' => e = .returned (.bool (!v)) ∧ Below w.heap.size w w' := by
  have hcb := fun i => cell_of_row w b i _ _ _ hb
  have hc1 := hc w (Below.refl _ _)
  have HC := Lib.hid hc1
  clear hc hc1 hb
  go_enter Try.func81, Try.ntmps81
  go_wp2_with
    (go_at_call 72
     refine HC.out.mono ?_
     rintro e w2 ⟨rfl, hB2⟩
     have H2 := Lib.hid hB2
     clear hB2)
  go_ret
  exact ⟨rfl, H2.out⟩
theorem stAllBd_any (b0 : Nat) (P : Int → Bool) (m : Nat) (hm : m ≤ 1000000) (A : Option Addr) (cap : Nat) (l : List Int) (B : Nat) (w : World) (hB : B ≤ w.heap.size) (hz : Ints w B A l) (hl : l.length ≤ 1000000)
    (hf : ∀ y W, y ∈ l → Below w.heap.size w W → Calls Try.prog 72 #[.int .i64 y, .pointer (some ⟨b0, 0, none⟩)] W fun e w' => e = .returned (.bool (P y)) ∧ Below W.heap.size W w') :
    Calls Try.prog 61 #[.slice A l.length cap, .int .i64 m, .func (.func 72) #[] #[.pointer (some ⟨b0, 0, none⟩)]] w fun e w' => e = .returned (.bool (decide (l.length ≤ m) && l.all P)) ∧ Below w.heap.size w w' := by
  obtain ⟨w1, hw1⟩ : ∃ w1, w.alloc (.cells #[.func (.func 72) #[] #[.pointer (some ⟨b0, 0, none⟩)]] 101) = w1 := ⟨_, rfl⟩
  have hb1 : Below w.heap.size w w1 := by rw [← hw1]; exact grow1 _ _
  have m1 : w1.heap[w.heap.size]? = some (.cells #[.func (.func 72) #[] #[.pointer (some ⟨b0, 0, none⟩)]] 101 (0, 0)) := by rw [← hw1]; exact alloc_at0 _ _
  have hs1 := lt_of_heap m1
  have H := stHasBd_any (fun y => !P y) w.heap.size A cap l B w1 (Nat.le_trans hB hb1.size) (hz.below (hb1.mono hB)) hl
    fun y W hy hW => stNotBd_any (P y) b0 y w.heap.size W ((hW.block _ hs1).trans m1) fun W2 hW2 => hf y W2 hy (hb1.trans ((hW.trans (hW2.mono hW.size)).mono hb1.size))
  rw [all_not]
  generalize (l.any fun y => !P y) = v at H ⊢
  have HH := Lib.hid H
  have HB0 := Lib.hid hb1
  clear H hz hf hb1 m1 hs1
  by_cases h6 : l.length ≤ m
  · have h6i : (l.length : Int) ≤ m := by omega
    have h6d : decide (l.length ≤ m) = true := decide_eq_true h6
    have h7d : decide ((l.length : Int) ≤ m) = true := decide_eq_true h6i
    rw [h6d]
    go_enter Try.func61, Try.ntmps61
    go_wp2_with (go_at_call 53; refine HH.out.mono ?_; rintro e w' ⟨rfl, hB1⟩; have HB1 := Lib.hid hB1; clear hB1)
    go_ret
    exact ⟨rfl, HB0.out.trans (HB1.out.mono HB0.out.size)⟩
  · have h6i : ¬ (l.length : Int) ≤ m := by omega
    have h6d : decide (l.length ≤ m) = false := decide_eq_false h6
    have h7d : decide ((l.length : Int) ≤ m) = false := decide_eq_false h6i
    rw [h6d]
    go_enter Try.func61, Try.ntmps61
    go_wp2
    go_ret
    exact ⟨rfl, HB0.out⟩

end Go.Proofs.Ytepkkhdfobhhjaa
