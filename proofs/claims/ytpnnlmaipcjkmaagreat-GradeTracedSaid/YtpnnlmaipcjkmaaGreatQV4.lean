/-
  Which gradings are valid.
-/
import Derived.Test.YtpnnlmaipcjkmaaGreatQV3
set_option linter.all false
namespace Go.Proofs.YtpnnlmaipcjkmaaGreat
open Go.RowKit
open R6 (done done_ne done_me upd_ne upd_me)

attribute [local go_sem] gives

def sp2 (s : Int × Int) : List Value := [.int .i64 s.1, .int .i64 s.2]
theorem sp2_len (s : Int × Int) : (sp2 s).length = 2 := rfl
theorem rowSpan5 : RowTy Tryz.prog 50 2 := ⟨⟨_, Tryz.underlying50, rfl⟩, by kernel_rfl⟩

set_option maxHeartbeats 2000000 in
theorem grVG_index (P : (Int × Int) → Bool) (A : Option Addr) (cap : Nat) (l : List (Int × Int)) (B : Nat) (w : World) (hB : B ≤ w.heap.size) (hz : Vals w B A (l.flatMap sp2)) (hl : l.length ≤ 1000000)
    (HF : ∀ (y : (Int × Int)) (W : World), y ∈ l → Below w.heap.size w W → Calls Tryz.prog 143 #[.agg (sp2 y).toArray] W fun e w' => e = .returned (.bool (P y)) ∧ Below W.heap.size W w') :
    Calls Tryz.prog 172 #[.slice A l.length cap, .func (.func 143) #[] #[]] w fun e w' => e = .returned (.int .i64 (idxL P l 0)) ∧ Below w.heap.size w w' := by
  have HZ := Lib.hid hz
  have HFF := Lib.hid HF
  clear hz HF
  go_enter Tryz.func172, Tryz.ntmps172
  go_wp2
  go_loopg [8] l.length (fun gg s8 wx => ∃ k : Nat, k + gg = l.length ∧ s8 = .int .i64 k ∧ Hid (idxL P (l.drop k) k = idxL P l 0) ∧ Hid (Below w.heap.size w wx))
  case atStart => exact ⟨0, by omega, rfl, rfl, Below.refl _ _⟩
  case round =>
    obtain ⟨k, hkg, rfl, hI, hBr⟩ := hrel
    cases gk with
    | zero =>
      obtain rfl : k = l.length := by omega
      go_wp2
      go_ret
      refine ⟨?_, hBr.out⟩
      rw [← hI.out, List.drop_length]
      rfl
    | succ gg =>
      have hk : k < l.length := by omega
      have hkz : (k : Int) < l.length := by omega
      obtain ⟨c, off, hA, hcB, hc⟩ := vals_elem sp2_len HZ.out (by decide) hk
      subst hA
      have hc' : ∀ j v, (sp2 l[k])[j]? = some v → wr.cell? ⟨c, off + k * 2 + j, none⟩ = some v := fun j v hv => (hBr.out.cell (p := ⟨c, off + k * 2 + j, none⟩) (by simp; omega)).trans (hc j v hv)
      have hst := idxL_step (P := P) hk
      rw [hI.out] at hst
      have hy := HFF.out l[k] wr (List.getElem_mem hk) hBr.out
      generalize l[k] = y at hc' hst hy
      have HY := Lib.hid hy
      have HST := Lib.hid hst
      have HCC := Lib.hid hc'
      clear hc hc' hst hy
      cases hp : P y
      all_goals
        rw [hp] at HY HST
        clear hp
        go_wp2_with (first
          | (show wpList _ _ _ (Oper.mk (some 15) _ _ _ _ _ :: _) _ _
             refine wpList_load_at 50 (.tmp 14) rfl rfl rfl (sp2 y) HCC.out rowSpan5 ?_)
          | (go_at_call 143; refine HY.out.mono ?_; rintro e w' ⟨rfl, hB1⟩; have HB1 := Lib.hid hB1; clear hB1))
      rotate_left
      · go_ret
        exact ⟨by rw [HST.out]; rfl, hBr.out.trans (HB1.out.mono hBr.out.size)⟩
      · go_roundg gg
        case measure => omega
        case rel => exact ⟨k + 1, by omega, by go_num, by rw [HST.out]; rfl, hBr.out.trans (HB1.out.mono hBr.out.size)⟩

theorem grVG_contains (P : (Int × Int) → Bool) (A : Option Addr) (cap : Nat) (l : List (Int × Int)) (B : Nat) (w : World) (hB : B ≤ w.heap.size) (hz : Vals w B A (l.flatMap sp2)) (hl : l.length ≤ 1000000)
    (HF : ∀ (y : (Int × Int)) (W : World), y ∈ l → Below w.heap.size w W → Calls Tryz.prog 143 #[.agg (sp2 y).toArray] W fun e w' => e = .returned (.bool (P y)) ∧ Below W.heap.size W w') :
    Calls Tryz.prog 141 #[.slice A l.length cap, .func (.func 143) #[] #[]] w fun e w' => e = .returned (.bool (l.any P)) ∧ Below w.heap.size w w' := by
  have H := grVG_index P A cap l B w hB hz hl HF
  have e := idxL_any (P := P) l 0
  rw [← e]
  generalize idxL P l 0 = i at H
  have HH := Lib.hid H
  clear H e hz hl HF
  go_enter Tryz.func141, Tryz.ntmps141
  go_wp2_with (go_at_call 172; refine HH.out.mono ?_; rintro e w' ⟨rfl, hB1⟩; have HB1 := Lib.hid hB1; clear hB1)
  go_ret
  exact ⟨rfl, HB1.out⟩

set_option maxHeartbeats 2000000 in
theorem grEm_index (P : (Int × Int) → Bool) (A : Option Addr) (cap : Nat) (l : List (Int × Int)) (B : Nat) (w : World) (hB : B ≤ w.heap.size) (hz : Vals w B A (l.flatMap sp2)) (hl : l.length ≤ 1000000)
    (HF : ∀ (y : (Int × Int)) (W : World), y ∈ l → Below w.heap.size w W → Calls Tryz.prog 142 #[.agg (sp2 y).toArray] W fun e w' => e = .returned (.bool (P y)) ∧ Below W.heap.size W w') :
    Calls Tryz.prog 172 #[.slice A l.length cap, .func (.func 142) #[] #[]] w fun e w' => e = .returned (.int .i64 (idxL P l 0)) ∧ Below w.heap.size w w' := by
  have HZ := Lib.hid hz
  have HFF := Lib.hid HF
  clear hz HF
  go_enter Tryz.func172, Tryz.ntmps172
  go_wp2
  go_loopg [8] l.length (fun gg s8 wx => ∃ k : Nat, k + gg = l.length ∧ s8 = .int .i64 k ∧ Hid (idxL P (l.drop k) k = idxL P l 0) ∧ Hid (Below w.heap.size w wx))
  case atStart => exact ⟨0, by omega, rfl, rfl, Below.refl _ _⟩
  case round =>
    obtain ⟨k, hkg, rfl, hI, hBr⟩ := hrel
    cases gk with
    | zero =>
      obtain rfl : k = l.length := by omega
      go_wp2
      go_ret
      refine ⟨?_, hBr.out⟩
      rw [← hI.out, List.drop_length]
      rfl
    | succ gg =>
      have hk : k < l.length := by omega
      have hkz : (k : Int) < l.length := by omega
      obtain ⟨c, off, hA, hcB, hc⟩ := vals_elem sp2_len HZ.out (by decide) hk
      subst hA
      have hc' : ∀ j v, (sp2 l[k])[j]? = some v → wr.cell? ⟨c, off + k * 2 + j, none⟩ = some v := fun j v hv => (hBr.out.cell (p := ⟨c, off + k * 2 + j, none⟩) (by simp; omega)).trans (hc j v hv)
      have hst := idxL_step (P := P) hk
      rw [hI.out] at hst
      have hy := HFF.out l[k] wr (List.getElem_mem hk) hBr.out
      generalize l[k] = y at hc' hst hy
      have HY := Lib.hid hy
      have HST := Lib.hid hst
      have HCC := Lib.hid hc'
      clear hc hc' hst hy
      cases hp : P y
      all_goals
        rw [hp] at HY HST
        clear hp
        go_wp2_with (first
          | (show wpList _ _ _ (Oper.mk (some 15) _ _ _ _ _ :: _) _ _
             refine wpList_load_at 50 (.tmp 14) rfl rfl rfl (sp2 y) HCC.out rowSpan5 ?_)
          | (go_at_call 142; refine HY.out.mono ?_; rintro e w' ⟨rfl, hB1⟩; have HB1 := Lib.hid hB1; clear hB1))
      rotate_left
      · go_ret
        exact ⟨by rw [HST.out]; rfl, hBr.out.trans (HB1.out.mono hBr.out.size)⟩
      · go_roundg gg
        case measure => omega
        case rel => exact ⟨k + 1, by omega, by go_num, by rw [HST.out]; rfl, hBr.out.trans (HB1.out.mono hBr.out.size)⟩

theorem grEm_contains (P : (Int × Int) → Bool) (A : Option Addr) (cap : Nat) (l : List (Int × Int)) (B : Nat) (w : World) (hB : B ≤ w.heap.size) (hz : Vals w B A (l.flatMap sp2)) (hl : l.length ≤ 1000000)
    (HF : ∀ (y : (Int × Int)) (W : World), y ∈ l → Below w.heap.size w W → Calls Tryz.prog 142 #[.agg (sp2 y).toArray] W fun e w' => e = .returned (.bool (P y)) ∧ Below W.heap.size W w') :
    Calls Tryz.prog 141 #[.slice A l.length cap, .func (.func 142) #[] #[]] w fun e w' => e = .returned (.bool (l.any P)) ∧ Below w.heap.size w w' := by
  have H := grEm_index P A cap l B w hB hz hl HF
  have e := idxL_any (P := P) l 0
  rw [← e]
  generalize idxL P l 0 = i at H
  have HH := Lib.hid H
  clear H e hz hl HF
  go_enter Tryz.func141, Tryz.ntmps141
  go_wp2_with (go_at_call 172; refine HH.out.mono ?_; rintro e w' ⟨rfl, hB1⟩; have HB1 := Lib.hid hB1; clear hB1)
  go_ret
  exact ⟨rfl, HB1.out⟩

set_option maxHeartbeats 2000000 in
theorem grPW_index (P : Pol → Bool) (b : Nat) (A : Option Addr) (cap : Nat) (l : List Pol) (B : Nat) (w : World) (hB : B ≤ w.heap.size) (hz : Vals w B A (l.flatMap pcl)) (hl : l.length ≤ 1000000)
    (HF : ∀ (y : Pol) (W : World), y ∈ l → Below w.heap.size w W → Calls Tryz.prog 135 #[.agg (pcl y).toArray, .pointer (some ⟨b, 0, none⟩)] W fun e w' => e = .returned (.bool (P y)) ∧ Below W.heap.size W w') :
    Calls Tryz.prog 169 #[.slice A l.length cap, .func (.func 135) #[] #[.pointer (some ⟨b, 0, none⟩)]] w fun e w' => e = .returned (.int .i64 (idxL P l 0)) ∧ Below w.heap.size w w' := by
  have HZ := Lib.hid hz
  have HFF := Lib.hid HF
  clear hz HF
  go_enter Tryz.func169, Tryz.ntmps169
  go_wp2
  go_loopg [8] l.length (fun gg s8 wx => ∃ k : Nat, k + gg = l.length ∧ s8 = .int .i64 k ∧ Hid (idxL P (l.drop k) k = idxL P l 0) ∧ Hid (Below w.heap.size w wx))
  case atStart => exact ⟨0, by omega, rfl, rfl, Below.refl _ _⟩
  case round =>
    obtain ⟨k, hkg, rfl, hI, hBr⟩ := hrel
    cases gk with
    | zero =>
      obtain rfl : k = l.length := by omega
      go_wp2
      go_ret
      refine ⟨?_, hBr.out⟩
      rw [← hI.out, List.drop_length]
      rfl
    | succ gg =>
      have hk : k < l.length := by omega
      have hkz : (k : Int) < l.length := by omega
      obtain ⟨c, off, hA, hcB, hc⟩ := vals_elem pcl_len HZ.out (by decide) hk
      subst hA
      have hc' : ∀ j v, (pcl l[k])[j]? = some v → wr.cell? ⟨c, off + k * 12 + j, none⟩ = some v := fun j v hv => (hBr.out.cell (p := ⟨c, off + k * 12 + j, none⟩) (by simp; omega)).trans (hc j v hv)
      have hst := idxL_step (P := P) hk
      rw [hI.out] at hst
      have hy := HFF.out l[k] wr (List.getElem_mem hk) hBr.out
      generalize l[k] = y at hc' hst hy
      have HY := Lib.hid hy
      have HST := Lib.hid hst
      have HCC := Lib.hid hc'
      clear hc hc' hst hy
      cases hp : P y
      all_goals
        rw [hp] at HY HST
        clear hp
        go_wp2_with (first
          | (show wpList _ _ _ (Oper.mk (some 15) _ _ _ _ _ :: _) _ _
             refine wpList_load_at 56 (.tmp 14) rfl rfl rfl (pcl y) HCC.out rowPole ?_)
          | (go_at_call 135; refine HY.out.mono ?_; rintro e w' ⟨rfl, hB1⟩; have HB1 := Lib.hid hB1; clear hB1))
      rotate_left
      · go_ret
        exact ⟨by rw [HST.out]; rfl, hBr.out.trans (HB1.out.mono hBr.out.size)⟩
      · go_roundg gg
        case measure => omega
        case rel => exact ⟨k + 1, by omega, by go_num, by rw [HST.out]; rfl, hBr.out.trans (HB1.out.mono hBr.out.size)⟩

end Go.Proofs.YtpnnlmaipcjkmaaGreat

namespace Go.Proofs.YtpnnlmaipcjkmaaGreat
open Go.RowKit

attribute [local go_sem] gives

theorem grValidGrade1_any (s : Int × Int) (w : World) : Calls Tryz.prog 143 #[.agg (sp2 s).toArray] w fun e w' => e = .returned (.bool (!okSt s.1 s.2)) ∧ Below w.heap.size w w' := by
  unfold sp2
  have H := fun W => grValidStress_any s.1 s.2 W
  generalize okSt s.1 s.2 = v at H
  have HH := Lib.hid H
  clear H
  go_enter Tryz.func143, Tryz.ntmps143
  go_wp2_with (go_at_call 144; refine (HH.out _).mono ?_; rintro e w' ⟨rfl, hB1⟩; have HB1 := Lib.hid ((grow1 w _).trans (hB1.mono (by simp))); clear hB1)
  go_ret
  exact ⟨rfl, HB1.out⟩

def st3 (g : Gd) : List (Int × Int) := [(g.l0, g.h0), (g.l1, g.h1), (g.l2, g.h2)]
theorem st3_vals {W : World} {b : Nat} {g : Gd} {t : TypeId} (h : W.heap[b]? = some (.cells (gcl g).toArray t (0, 0))) : Vals W (b + 1) (some ⟨b, 2, none⟩) ((st3 g).flatMap sp2) := fun _ =>
  ⟨b, 2, rfl, by omega, fun j u hj => by
    have e : (st3 g).flatMap sp2 = (gcl g).drop 2 := rfl
    rw [e, List.getElem?_drop] at hj
    rw [cell_of_row W b (2 + j) _ _ _ h, List.getElem?_toArray]
    exact hj⟩
theorem okGd_allB (g : Gd) (a b : Int) : okGd g a b = (allB a 6 [g.age] && (allB b 60 [g.wall] && !(st3 g).any fun s => !okSt s.1 s.2)) := by
  simp [okGd, allB, st3]

set_option maxRecDepth 100000 in
set_option maxHeartbeats 4000000 in
theorem grValidGrade_any (g q : Gd) (w : World) :
    Calls Tryz.prog 102 #[.agg (gcl g).toArray, .agg (gcl q).toArray] w fun e w' => e = .returned (.bool (okGd g q.age q.wall)) ∧ Below w.heap.size w w' := by
  rw [okGd_allB]
  have HW := Lib.hid (fun (lo hi : Int) (n : Int) (W : World) => grWithin_new lo hi [n] (W.alloc (.cells #[.int .i64 n] 3)) W.heap.size 1 1 rfl (alloc_at0 W _) (by simp))
  obtain ⟨w1, hw1⟩ : ∃ w1, w.alloc (.cells (gcl g).toArray 53) = w1 := ⟨_, rfl⟩
  obtain ⟨w2, hw2⟩ : ∃ w2, w1.alloc (.cells (gcl q).toArray 53) = w2 := ⟨_, rfl⟩
  have hs1 : w1.heap.size = w.heap.size + 1 := by rw [← hw1]; simp
  have hb2 : Below w.heap.size w w2 := by rw [← hw2, ← hw1]; exact grow2 _ _ _
  have hm1 : w2.heap[w.heap.size]? = some (.cells (gcl g).toArray 53 (0, 0)) := by rw [← hw2, ← hw1]; exact alloc2_at0 _ _ _
  have hm2 : w2.heap[w1.heap.size]? = some (.cells (gcl q).toArray 53 (0, 0)) := by rw [← hw2]; exact alloc_at0 _ _
  have hv := fun (W : World) (hW : Below w2.heap.size w2 W) => grVG_contains (fun s => !okSt s.1 s.2) (some ⟨w.heap.size, 2, none⟩) 3 (st3 g) (w.heap.size + 1) W (by have := lt_of_heap hm1; have := hW.size; omega) (st3_vals ((hW.block _ (lt_of_heap hm1)).trans hm1)) (by simp [st3]) (fun y W' _ _ => grValidGrade1_any y W')
  have hc1 := fun i => cell_of_row w2 w.heap.size i _ _ _ hm1
  have hc2 := fun i => cell_of_row w2 w1.heap.size i _ _ _ hm2
  have hk : ∀ W, Below w2.heap.size w2 W → ∀ i, W.cell? ⟨w.heap.size, i, none⟩ = w2.cell? ⟨w.heap.size, i, none⟩ := fun W hW i => hW.cell (p := ⟨w.heap.size, i, none⟩) (lt_of_heap hm1)
  have hk2 : ∀ W, Below w2.heap.size w2 W → ∀ i, W.cell? ⟨w1.heap.size, i, none⟩ = w2.cell? ⟨w1.heap.size, i, none⟩ := fun W hW i => hW.cell (p := ⟨w1.heap.size, i, none⟩) (lt_of_heap hm2)
  have HK := Lib.hid (And.intro hk (And.intro hk2 hb2))
  have HV := Lib.hid hv
  have HS1 := Lib.hid hs1
  clear hv hb2 hm1 hm2 hk hk2 hs1
  unfold gcl at hc1 hc2 hw1 hw2 ⊢
  generalize ((st3 g).any fun s => !okSt s.1 s.2) = c at HV ⊢
  cases ha : allB q.age 6 [g.age] with
  | false =>
    have HA := Lib.hid ha
    clear ha
    rw [Bool.false_and]
    go_enter Tryz.func102, Tryz.ntmps102
    go_wp2_with
      (go_at_call 93; (with_reducible show Calls _ _ #[.agg #[_, .int .i64 6], _] _ _); refine (HW.out q.age 6 g.age w2).mono ?_; rintro e w3 ⟨rfl, hB3⟩; rw [HA.out]; have B3 := Lib.hid ((grow1 w2 _).trans (hB3.mono (by simp))); clear hB3)
    go_ret
    exact ⟨rfl, HK.out.2.2.trans (B3.out.mono HK.out.2.2.size)⟩
  | true =>
  rw [Bool.true_and]
  cases hb : allB q.wall 60 [g.wall] with
  | false =>
    have HA := Lib.hid ha
    have HB := Lib.hid hb
    clear ha hb
    rw [Bool.false_and]
    go_enter Tryz.func102, Tryz.ntmps102
    go_wp2_with (first
      | (go_at_call 93; (with_reducible show Calls _ _ #[.agg #[_, .int .i64 6], _] _ _); refine (HW.out q.age 6 g.age w2).mono ?_; rintro e w3 ⟨rfl, hB3⟩; rw [HA.out]; have B3 := Lib.hid ((grow1 w2 _).trans (hB3.mono (by simp))); have hc3 := fun i => (HK.out.1 w3 B3.out i).trans (hc1 i); have hc4 := fun i => (HK.out.2.1 w3 B3.out i).trans (hc2 i); clear hB3)
      | (go_at_call 93; (with_reducible show Calls _ _ #[.agg #[_, .int .i64 60], _] _ _); refine (HW.out q.wall 60 g.wall w3).mono ?_; rintro e w4 ⟨rfl, hB4⟩; rw [HB.out]; have B4 := Lib.hid (B3.out.trans (((grow1 w3 _).trans (hB4.mono (by simp))).mono B3.out.size)); clear hB4))
    go_ret
    exact ⟨rfl, HK.out.2.2.trans (B4.out.mono HK.out.2.2.size)⟩
  | true =>
  have HA := Lib.hid ha
  have HB := Lib.hid hb
  clear ha hb
  rw [Bool.true_and]
  go_enter Tryz.func102, Tryz.ntmps102
  go_wp2_with (first
    | (go_at_call 93; (with_reducible show Calls _ _ #[.agg #[_, .int .i64 6], _] _ _); refine (HW.out q.age 6 g.age w2).mono ?_; rintro e w3 ⟨rfl, hB3⟩; rw [HA.out]; have B3 := Lib.hid ((grow1 w2 _).trans (hB3.mono (by simp))); have hc3 := fun i => (HK.out.1 w3 B3.out i).trans (hc1 i); have hc4 := fun i => (HK.out.2.1 w3 B3.out i).trans (hc2 i); clear hB3)
    | (go_at_call 93; (with_reducible show Calls _ _ #[.agg #[_, .int .i64 60], _] _ _); refine (HW.out q.wall 60 g.wall w3).mono ?_; rintro e w4 ⟨rfl, hB4⟩; rw [HB.out]; have B4 := Lib.hid (B3.out.trans (((grow1 w3 _).trans (hB4.mono (by simp))).mono B3.out.size)); clear hB4)
    | (go_at_call 141; refine (HV.out w4 B4.out).mono ?_; rintro e w5 ⟨rfl, hB5⟩; have B5 := Lib.hid (B4.out.trans (hB5.mono B4.out.size)); clear hB5))
  go_ret
  exact ⟨rfl, HK.out.2.2.trans (B5.out.mono HK.out.2.2.size)⟩

end Go.Proofs.YtpnnlmaipcjkmaaGreat
