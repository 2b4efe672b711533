/-
  Soaks gone through; the map of what was treated.
-/
import Derived.Test.YtpnnlmaipcjkmaaGreatQR38
import Derived.Test.YtpnnlmaipcjkmaaGreatQR43
set_option linter.all false
namespace Go.Proofs.YtpnnlmaipcjkmaaGreat
open Go.RowKit
open R6 (done done_ne done_me upd_ne upd_me)

attribute [local go_sem] gives

structure Sk where
  t : Bt
  l : List Sl
  A : Option Addr
  c : Nat
  h : Int
def skb (x : Sk) : List Value := [.int .i64 x.t.water, .int .i64 x.t.borax, .slice x.A x.l.length x.c, .int .i64 x.t.lo, .int .i64 x.t.hi, .int .i64 x.t.need]
def skl (x : Sk) : List Value := [.int .i64 x.t.water, .int .i64 x.t.borax, .slice x.A x.l.length x.c, .int .i64 x.t.lo, .int .i64 x.t.hi, .int .i64 x.t.need, .int .i64 x.h]
theorem skl_len (x : Sk) : (skl x).length = 7 := rfl
theorem skb_bt (x : Sk) : (skb x).toArray = btcells x.t (.slice x.A x.l.length x.c) := rfl
theorem skl_one (l : List Sk) : ∀ v ∈ l.flatMap skl, v.oneCell' = true := by
  intro v hv
  obtain ⟨p, -, hv⟩ := List.mem_flatMap.1 hv
  simp only [skl, List.mem_cons, List.not_mem_nil, or_false] at hv
  rcases hv with rfl | rfl | rfl | rfl | rfl | rfl | rfl <;> rfl
structure SksAt (w : World) (B : Nat) (l : List Sk) (A : Option Addr) : Prop where
  v : Vals w B A (l.flatMap skl)
  r : ∀ x ∈ l, Rows w B x.A x.l
  s : ∀ x ∈ l, shortL x.l
theorem SksAt.below {w w' : World} {B : Nat} {l : List Sk} {A : Option Addr} (h : SksAt w B l A) (hb : Below B w w') : SksAt w' B l A := ⟨h.v.below hb, fun x hx => (h.r x hx).below hb, h.s⟩
theorem SksAt.mono {w : World} {B B' : Nat} {l : List Sk} {A : Option Addr} (h : SksAt w B l A) (hb : B ≤ B') : SksAt w B' l A := ⟨h.v.mono hb, fun x hx => (h.r x hx).mono hb, h.s⟩
theorem rowSoak : RowTy Tryz.prog 65 7 := ⟨⟨_, Tryz.underlying65, rfl⟩, by kernel_rfl⟩
theorem rowBatchA : RowTy Tryz.prog 63 6 := ⟨⟨_, Tryz.underlying63, rfl⟩, by kernel_rfl⟩
def okSk (x : Sk) : Bool := okBatch x.t (rws x.l) && allB 0 300 [x.h]
def okSks (l : List Sk) : Bool := decide ((l.length : Int) ≤ 6) && l.all okSk

theorem skb_pre (x : Sk) : ∀ j v, (skb x)[j]? = some v → (skl x).toArray[0 + j]? = some v := by
  intro j v hv
  have hj : j < 6 := (List.getElem?_eq_some_iff.1 hv).1
  rcases (by omega : j = 0 ∨ j = 1 ∨ j = 2 ∨ j = 3 ∨ j = 4 ∨ j = 5) with rfl | rfl | rfl | rfl | rfl | rfl <;> exact hv

set_option maxRecDepth 100000 in
set_option maxHeartbeats 4000000 in
theorem ftValidSoak_any (x : Sk) (B : Nat) (w : World) (hB : B ≤ w.heap.size) (hr : Rows w B x.A x.l) (hs : shortL x.l) :
    Calls Tryz.prog 86 #[.agg (skl x).toArray] w fun e w' => e = .returned (.bool (okSk x)) ∧ Below w.heap.size w w' := by
  obtain ⟨w1, hw1⟩ : ∃ w1, w.alloc (.cells (skl x).toArray 65) = w1 := ⟨_, rfl⟩
  have hb1 : Below w.heap.size w w1 := by rw [← hw1]; exact grow1 _ _
  have m1 : w1.heap[w.heap.size]? = some (.cells (skl x).toArray 65 (0, 0)) := by rw [← hw1]; exact alloc_at0 _ _
  have hck := fun (W : World) (hW : Below w1.heap.size w1 W) =>
    have hb := hb1.trans (hW.mono hb1.size)
    check_any x.t x.A x.c x.l B W (Nat.le_trans hB hb.size) (hr.below (hb.mono hB)) hs
  rw [← skb_bt] at hck
  have H1 := Lib.hid (And.intro hb1 m1)
  unfold okSk
  unfold checkE at hck
  clear hb1 m1 hr hs
  cases hv : okBatch x.t (rws x.l)
  · rw [hv] at hck
    simp only [Bool.false_eq_true, if_false] at hck
    have HCK := Lib.hid hck
    clear hck hv
    unfold skl at hw1 ⊢
    go_enter Tryz.func86, Tryz.ntmps86
    go_wp2
    refine R6.wp_walk (C := fun _ _ W => Below w1.heap.size w1 W) 14 (by kernel_rfl) (by kernel_rfl) rfl (Below.refl _ _).drew ?_
    simp only []
    repeat (first
      | (refine' R6.WalkR.det (fun _ => rfl) (fun D ρ W hK hC => ?_) ?_
         rotate_left
         · have fh : W.cell? ⟨w.heap.size, 6, none⟩ = some (.int .i64 x.h) := cell_of_row W _ 6 _ _ _ ((hC.block _ (lt_of_heap H1.out.2)).trans H1.out.2)
           have HC := Lib.hid hC
           clear hC hK
           go_simp
           with_reducible exact ⟨rfl, HC.out⟩
         simp only [Act.put, List.setIfInBounds_toArray, List.set_cons_succ, List.set_cons_zero]))
    refine' R6.WalkR.det (fun _ => rfl) (fun D ρ W hK hC => ?_) ?_
    rotate_left
    · exact gives_load_blk 63 (.tmp 3) rfl rfl ((hC.block _ (lt_of_heap H1.out.2)).trans H1.out.2) (skb x) (skb_pre x) rowBatchA ⟨rfl, hC⟩
    simp only [Act.put, List.setIfInBounds_toArray, List.set_cons_succ, List.set_cons_zero]
    refine' R6.WalkR.det (fun _ => rfl) (fun D ρ W hK hC => ?_) ?_
    rotate_left
    · have HC := Lib.hid hC
      clear hC hK
      go_simp
      go_at_call 68
      refine (HCK.out W HC.out).mono ?_
      rintro e W1 ⟨rfl, hB1⟩
      exact ⟨_, rfl, rfl, HC.out.trans (hB1.mono HC.out.size)⟩
    simp only [Act.put, List.setIfInBounds_toArray, List.set_cons_succ, List.set_cons_zero]
    repeat (first
      | (refine' R6.WalkR.det (fun _ => rfl) (fun D ρ W hK hC => ?_) ?_
         rotate_left
         · have fh : W.cell? ⟨w.heap.size, 6, none⟩ = some (.int .i64 x.h) := cell_of_row W _ 6 _ _ _ ((hC.block _ (lt_of_heap H1.out.2)).trans H1.out.2)
           have HC := Lib.hid hC
           clear hC hK
           go_simp
           with_reducible exact ⟨rfl, HC.out⟩
         simp only [Act.put, List.setIfInBounds_toArray, List.set_cons_succ, List.set_cons_zero])
      | (refine R6.WalkR.un (fun _ => rfl) (fun D ρ W hK hC => hC) ?_
         simp only [Act.put, List.setIfInBounds_toArray, List.set_cons_succ, List.set_cons_zero]))
    refine R6.WalkR.nil (fun D ρ W hD hC => ?_)
    have HB := Lib.hid (H1.out.1.trans (hC.mono H1.out.1.size))
    clear hC hD
    go_wp2
    go_ret
    exact ⟨rfl, HB.out⟩
  · rw [hv] at hck
    simp only [if_true] at hck
    have HCK := Lib.hid hck
    clear hck hv
    simp only [Bool.true_and]
    unfold skl at hw1 ⊢
    go_enter Tryz.func86, Tryz.ntmps86
    go_wp2
    refine R6.wp_walk (C := MadeC w1 8 11 1 3 [.int .i64 x.h]) 14 (by kernel_rfl) (by kernel_rfl) rfl (MadeC.start (fun _ => rfl) (Below.refl _ _).drew) ?_
    simp only []
    repeat (first
      | (refine' R6.WalkR.det (fun _ => rfl) (fun D ρ W hK hC => ?_) ?_
         rotate_left
         · have fh : W.cell? ⟨w.heap.size, 6, none⟩ = some (.int .i64 x.h) := cell_of_row W _ 6 _ _ _ ((hC.bel.block _ (lt_of_heap H1.out.2)).trans H1.out.2)
           have HC := Lib.hid hC
           clear hC hK
           go_simp
           with_reducible exact ⟨rfl, HC.out.move (by decide)⟩
         simp only [Act.put, List.setIfInBounds_toArray, List.set_cons_succ, List.set_cons_zero]))
    refine' R6.WalkR.det (fun _ => rfl) (fun D ρ W hK hC => ?_) ?_
    rotate_left
    · exact gives_load_blk 63 (.tmp 3) rfl rfl ((hC.bel.block _ (lt_of_heap H1.out.2)).trans H1.out.2) (skb x) (skb_pre x) rowBatchA ⟨rfl, hC.move (by decide)⟩
    simp only [Act.put, List.setIfInBounds_toArray, List.set_cons_succ, List.set_cons_zero]
    refine' R6.WalkR.det (fun _ => rfl) (fun D ρ W hK hC => ?_) ?_
    rotate_left
    · have HC := Lib.hid hC
      clear hC hK
      go_simp
      go_at_call 68
      refine (HCK.out W HC.out.bel).mono ?_
      rintro e W1 ⟨rfl, hB1⟩
      exact ⟨_, rfl, rfl, (HC.out.next hB1).move (by decide)⟩
    simp only [Act.put, List.setIfInBounds_toArray, List.set_cons_succ, List.set_cons_zero]
    repeat (first
      | (refine' R6.WalkR.det (fun _ => rfl) (fun D ρ W hK hC => ?_) ?_
         rotate_left
         · have fh : W.cell? ⟨w.heap.size, 6, none⟩ = some (.int .i64 x.h) := cell_of_row W _ 6 _ _ _ ((hC.bel.block _ (lt_of_heap H1.out.2)).trans H1.out.2)
           have HC := Lib.hid hC
           clear hC hK
           go_simp
           with_reducible exact ⟨rfl, HC.out.move (by decide)⟩
         simp only [Act.put, List.setIfInBounds_toArray, List.set_cons_succ, List.set_cons_zero]))
    refine' R6.WalkR.det (fun _ => rfl) (fun D ρ W hK hC => ?_) ?_
    rotate_left
    · have HC := Lib.hid hC
      clear hC hK
      go_simp
      go_at_call 94
      refine (grUpTo_any 300 W).mono ?_
      rintro e W1 ⟨rfl, hB1⟩
      exact ⟨_, rfl, rfl, (HC.out.next hB1).move (by decide)⟩
    simp only [Act.put, List.setIfInBounds_toArray, List.set_cons_succ, List.set_cons_zero]
    repeat (first
      | (refine' R6.WalkR.det (fun _ => rfl) (fun D ρ W hK hC => ?_) ?_
         rotate_left
         · have fh : W.cell? ⟨w.heap.size, 6, none⟩ = some (.int .i64 x.h) := cell_of_row W _ 6 _ _ _ ((hC.bel.block _ (lt_of_heap H1.out.2)).trans H1.out.2)
           have HC := Lib.hid hC
           clear hC hK
           go_simp
           with_reducible exact ⟨rfl, HC.out.move (by decide)⟩
         simp only [Act.put, List.setIfInBounds_toArray, List.set_cons_succ, List.set_cons_zero]))
    refine' R6.WalkR.nd (fun _ => rfl) rfl (fun D ρ W hK hC => ?_) ?_
    · have fh : W.cell? ⟨w.heap.size, 6, none⟩ = some (.int .i64 x.h) := cell_of_row W _ 6 _ _ _ ((hC.bel.block _ (lt_of_heap H1.out.2)).trans H1.out.2)
      have HC := Lib.hid hC
      clear hC hK
      go_simp
      exact HC.out.made rfl
    simp only [Act.put, List.setIfInBounds_toArray, List.set_cons_succ, List.set_cons_zero]
    refine' R6.WalkR.det (fun _ => rfl) (fun D ρ W hK hC => ?_) ?_
    rotate_left
    · obtain ⟨b, hv0, hb0, hm⟩ := hC.mkd (hK.pre 8 (by decide +kernel))
      have HC := Lib.hid hC
      have HM := Lib.hid hm
      clear hC hK hm hb0
      go_simp
      go_at_call 93
      refine (grWithin_new 0 300 [x.h] W b 1 1 rfl HM.out (by simp)).mono ?_
      rintro e W1 ⟨rfl, hB1⟩
      exact ⟨_, rfl, rfl, (HC.out.next hB1).move (by decide)⟩
    simp only [Act.put, List.setIfInBounds_toArray, List.set_cons_succ, List.set_cons_zero]
    repeat (first
      | (refine' R6.WalkR.det (fun _ => rfl) (fun D ρ W hK hC => ?_) ?_
         rotate_left
         · have fh : W.cell? ⟨w.heap.size, 6, none⟩ = some (.int .i64 x.h) := cell_of_row W _ 6 _ _ _ ((hC.bel.block _ (lt_of_heap H1.out.2)).trans H1.out.2)
           have HC := Lib.hid hC
           clear hC hK
           go_simp
           with_reducible exact ⟨rfl, HC.out.move (by decide)⟩
         simp only [Act.put, List.setIfInBounds_toArray, List.set_cons_succ, List.set_cons_zero]))
    refine R6.WalkR.nil (fun D ρ W hD hC => ?_)
    have HB := Lib.hid (H1.out.1.trans (hC.bel.mono H1.out.1.size))
    clear hC hD
    go_wp2
    go_ret
    exact ⟨rfl, HB.out⟩

theorem ftOk_any (y : Sk) (B : Nat) (w : World) (hB : B ≤ w.heap.size) (hr : Rows w B y.A y.l) (hs : shortL y.l) : Calls Tryz.prog 85 #[.agg (skl y).toArray] w fun e w' => e = .returned (.bool (!okSk y)) ∧ Below w.heap.size w w' := by
  obtain ⟨w1, hw1⟩ : ∃ w1, w.alloc (.cells (skl y).toArray 65) = w1 := ⟨_, rfl⟩
  have hb1 : Below w.heap.size w w1 := by rw [← hw1]; exact grow1 _ _
  have m1 : w1.heap[w.heap.size]? = some (.cells (skl y).toArray 65 (0, 0)) := by rw [← hw1]; exact alloc_at0 _ _
  have hc := ftValidSoak_any y B w1 (Nat.le_trans hB hb1.size) (hr.below (hb1.mono hB)) hs
  have H1 := Lib.hid (And.intro hb1 m1)
  have HC := Lib.hid hc
  clear hb1 m1 hr hc
  generalize okSk y = v at HC
  unfold skl at hw1 ⊢
  go_enter Tryz.func85, Tryz.ntmps85
  go_wp2_with (first
    | (show wpList _ _ _ (Oper.mk (some 3) _ _ _ _ _ :: _) _ _
       refine wpList_load_blk 65 (.tmp 1) rfl rfl rfl H1.out.2 (skl y) at0 rowSoak ?_)
    | (go_at_call 86
       refine HC.out.mono ?_
       rintro e w2 ⟨rfl, hB2⟩
       have H2 := Lib.hid (H1.out.1.trans (hB2.mono H1.out.1.size))
       clear hB2))
  go_ret
  exact ⟨rfl, H2.out⟩

end Go.Proofs.YtpnnlmaipcjkmaaGreat

namespace Go.Proofs.YtpnnlmaipcjkmaaGreat
open Go.RowKit Go.Maps
open R6 (done done_ne done_me upd_ne upd_me)

attribute [local go_sem] gives

set_option maxRecDepth 100000 in
set_option maxHeartbeats 4000000 in
theorem ftS_index (l : List Sk) (A : Option Addr) (cap : Nat) (B : Nat) (w : World) (hB : B ≤ w.heap.size) (hz : SksAt w B l A) (hl : l.length ≤ 1000000) :
    Calls Tryz.prog 130 #[.slice A l.length cap, .func (.func 85) #[] #[]] w fun e w' => e = .returned (.int .i64 (idxL (fun x => !okSk x) l 0)) ∧ Below w.heap.size w w' := by
  have hff := fun (k : Nat) (hk : k < l.length) (W : World) (hW : Below w.heap.size w W) => ftOk_any l[k] B W (Nat.le_trans hB hW.size) ((hz.r _ (List.getElem_mem hk)).below (hW.mono hB)) (hz.s _ (List.getElem_mem hk))
  have HZ := Lib.hid hz.v
  have HFF := Lib.hid hff
  have HBB := Lib.hid hB
  obtain ⟨P, hP⟩ : ∃ P : Sk → Bool, (fun x => !okSk x) = P := ⟨_, rfl⟩
  rw [hP]
  have HP := Lib.hid hP
  clear hz hff hP hB
  go_enter Tryz.func130, Tryz.ntmps130
  go_wp2
  go_loopg [8] l.length (fun gg s8 wx => ∃ k : Nat, k + gg = l.length ∧ s8 = .int .i64 k ∧ Hid (idxL P (l.drop k) k = idxL P l 0) ∧ Hid (Below w.heap.size w wx))
  case atStart => exact ⟨0, by omega, rfl, rfl, Below.refl _ _⟩
  case round =>
    obtain ⟨k, hkg, rfl, hI, hBr⟩ := hrel
    cases gk with
    | zero =>
      obtain rfl : k = l.length := by omega
      go_wp2
      go_ret
      refine ⟨?_, hBr.out⟩
      rw [← hI.out, List.drop_length]
      rfl
    | succ gg =>
      have hk : k < l.length := by omega
      have hkz : (k : Int) < l.length := by omega
      obtain ⟨c, off, hA, hcB, hc⟩ := vals_elem skl_len HZ.out (by decide) hk
      subst hA
      have hc' : ∀ j v, (skl l[k])[j]? = some v → wr.cell? ⟨c, off + k * 7 + j, none⟩ = some v := fun j v hv => (hBr.out.cell (p := ⟨c, off + k * 7 + j, none⟩) (by have := HBB.out; simp; omega)).trans (hc j v hv)
      have hst := idxL_step (P := P) hk
      rw [hI.out] at hst
      have hy := HFF.out k hk wr hBr.out
      have hpy : P l[k] = !okSk l[k] := by rw [← HP.out]
      rw [← hpy] at hy
      clear hpy
      generalize l[k] = y at hc' hst hy
      have HY := Lib.hid hy
      have HST := Lib.hid hst
      have HCC := Lib.hid hc'
      clear hc hc' hst hy
      cases hp : P y
      all_goals
        rw [hp] at HY HST
        clear hp
        go_wp2_with (first
          | (show wpList _ _ _ (Oper.mk (some 15) _ _ _ _ _ :: _) _ _
             refine wpList_load_at 65 (.tmp 14) rfl rfl rfl (skl y) HCC.out rowSoak ?_)
          | (go_at_call 85; refine HY.out.mono ?_; rintro e w' ⟨rfl, hB1⟩; have HB1 := Lib.hid hB1; clear hB1))
      rotate_left
      · go_ret
        exact ⟨by rw [HST.out]; rfl, hBr.out.trans (HB1.out.mono hBr.out.size)⟩
      · go_roundg gg
        case measure => omega
        case rel => exact ⟨k + 1, by omega, by go_num, by rw [HST.out]; rfl, hBr.out.trans (HB1.out.mono hBr.out.size)⟩
theorem any_idx {α : Type} (P : α → Bool) (l : List α) : decide (0 ≤ idxL P l 0) = l.any P := by
  rcases idxL_find (P := P) l 0 with ⟨e1, _, e3⟩ | ⟨k, x, e1, _, _, e4⟩
  · rw [e1, e3]; rfl
  · rw [e1, e4]; exact decide_eq_true (by omega)

set_option maxRecDepth 100000 in
set_option maxHeartbeats 4000000 in
theorem ftS_any (l : List Sk) (A : Option Addr) (cap : Nat) (B : Nat) (w : World) (hB : B ≤ w.heap.size) (hz : SksAt w B l A) (hl : l.length ≤ 1000000) :
    Calls Tryz.prog 84 #[.slice A l.length cap, .func (.func 85) #[] #[]] w fun e w' => e = .returned (.bool (l.any fun x => !okSk x)) ∧ Below w.heap.size w w' := by
  have H := ftS_index l A cap B w hB hz hl
  rw [← any_idx]
  generalize idxL (fun x => !okSk x) l 0 = n at H ⊢
  have HH := Lib.hid H
  clear H hz
  go_enter Tryz.func84, Tryz.ntmps84
  go_wp2_with (go_at_call 130; refine HH.out.mono ?_; rintro e w' ⟨rfl, hB1⟩; have HB1 := Lib.hid hB1; clear hB1)
  go_ret
  exact ⟨rfl, HB1.out⟩
theorem all_any (l : List Sk) : (l.all okSk) = !(l.any fun x => !okSk x) := by
  induction l with
  | nil => rfl
  | cons x l ih => simp only [List.all_cons, List.any_cons, ih]; cases okSk x <;> simp

set_option maxRecDepth 100000 in
set_option maxHeartbeats 4000000 in
theorem ftValidSoaks_any (l : List Sk) (A : Option Addr) (cap : Nat) (B : Nat) (w : World) (hB : B ≤ w.heap.size) (hz : SksAt w B l A) (hl : l.length ≤ 1000000) :
    Calls Tryz.prog 48 #[.slice A l.length cap] w fun e w' => e = .returned (.bool (okSks l)) ∧ Below w.heap.size w w' := by
  have H := ftS_any l A cap B w hB hz hl
  unfold okSks
  rw [all_any]
  generalize (l.any fun x => !okSk x) = v at H ⊢
  have HH := Lib.hid H
  clear H hz
  by_cases h6 : (l.length : Int) ≤ 6
  · have h6d : decide ((l.length : Int) ≤ 6) = true := decide_eq_true h6
    have h7 : decide (l.length ≤ 6) = true := decide_eq_true (by omega)
    rw [h6d]
    go_enter Tryz.func48, Tryz.ntmps48
    go_wp2_with (go_at_call 84; refine HH.out.mono ?_; rintro e w' ⟨rfl, hB1⟩; have HB1 := Lib.hid hB1; clear hB1)
    go_ret
    exact ⟨rfl, HB1.out⟩
  · have h6d : decide ((l.length : Int) ≤ 6) = false := decide_eq_false h6
    have h7 : decide (l.length ≤ 6) = false := decide_eq_false (by omega)
    rw [h6d]
    go_enter Tryz.func48, Tryz.ntmps48
    go_wp2
    go_ret
    exact ⟨rfl, Below.refl _ _⟩

def zsl : Value := .slice none 0 0
theorem zeroU8L (w : World) : (zeroValue 34).run Tryz.prog w = .ok zsl w := by kernel_rfl
structure MapT (W : World) (mb base m n : Nat) (T : Nat → List Int) (D : DataW Value) : Prop where
  own : W.ownsMap Tryz.prog 3 rdE mb m D
  at_ : ∀ k : Nat, Maps.has D (.int .i64 (k : Int)) = true → k < n ∧ ∃ A c, D.atKey (.int .i64 (k : Int)) (.held zsl) = .held (.slice A (T k).length c) ∧ OwnU W base (.slice A (T k).length c) (T k)
theorem MapT.made {W : World} {mb base n : Nat} {T : Nat → List Int} (h : W.heap[mb]? = some (.map #[] 0)) : MapT W mb base 0 n T (.map []) := by
  refine ⟨⟨#[], 0, h, ?_⟩, fun k hk => by simp [Maps.has] at hk⟩
  have := World.ownsMap_made (H := Value) W Tryz.prog 3 rdE
  obtain ⟨es, cl, hb, r⟩ := this
  rw [World.alloc_heap_new] at hb
  simp only [Option.some.injEq, Obj.map.injEq] at hb
  obtain ⟨rfl, rfl⟩ := hb
  exact r
theorem ownU_at {W W' : World} {base : Nat} {v : Value} {zs : List Int} (h : OwnU W base v zs) (hk : ∀ k, base ≤ k → k < W.heap.size → W'.heap[k]? = W.heap[k]?) : OwnU W' base v zs := by
  refine ⟨h.1, ?_⟩
  rcases h.2 with h6 | ⟨g, cap, cur, hv, hb, hh, h7⟩
  · exact .inl h6
  · exact .inr ⟨g, cap, cur, hv, hb, (hk g hb (lt_of_heap hh)).trans hh, h7⟩
theorem MapT.same {W W' : World} {mb base m n : Nat} {T : Nat → List Int} {D : DataW Value} (h : MapT W mb base m n T D) (e : W'.heap[mb]? = W.heap[mb]?) (hk : ∀ k, base ≤ k → k < W.heap.size → W'.heap[k]? = W.heap[k]?) : MapT W' mb base m n T D := by
  refine ⟨?_, fun k hk2 => ?_⟩
  · have h1 := h.own
    unfold World.ownsMap at h1 ⊢
    rw [e]
    exact h1
  · obtain ⟨h3, A, c, h4, h5⟩ := h.at_ k hk2
    exact ⟨h3, A, c, h4, ownU_at h5 hk⟩
theorem MapT.lt {W : World} {mb base m n : Nat} {T : Nat → List Int} {D : DataW Value} (h : MapT W mb base m n T D) : mb < W.heap.size := h.own.lt
theorem MapT.grows {W W' : World} {mb base m n : Nat} {T : Nat → List Int} {D : DataW Value} (h : MapT W mb base m n T D) (hg : Grows W W') : MapT W' mb base m n T D := h.same (hg.block _ h.lt) (fun k _ hk => hg.block k hk)
theorem key6 (k : Nat) (hk : k ≤ 1000000) : keyOf Tryz.prog 3 (.int .i64 (k : Int)) = some (.int .i64 (k : Int)) := Maps.keyOf_int_mk Tryz.underlying3 (WalkArith.wf_i64 (n := (k : Int)) ⟨by omega, by omega⟩)
section
variable {op : Oper} {ops : Array Oper} {rest : List Oper} {a : Act} {w : World} {Q : Exit → Act → World → Prop} {R : Value → World → Prop} {M base m n : Nat} {T : Nat → List Int} {D : DataW Value}
theorem wpList_hasT (hg : op.guard = none) (mp x : Operand) (hop : op.op = Op.lookup 169 mp x true) (hm : a.eval mp = .map (some M)) (hO : MapT w M base m n T D) {k : Nat} (hk : k ≤ 1000000) (hx : a.eval x = .int .i64 (k : Int)) {b : Bool} (hb : Maps.has D (.int .i64 (k : Int)) = b)
    (h : ∀ v, wpList Tryz.prog ops Q rest (a.put op.dst (.tuple #[v, .bool b])) w) : wpList Tryz.prog ops Q (op :: rest) a w := by
  refine wpList_lookup_own_ok w hg mp x 169 hop 3 34 keyI5 Tryz.underlying169 rdE (zeroU8L w) (.held zsl) [] rfl M m D hm hO.own _ _ hx (key6 k hk) (fun v ps hv => ?_)
  rw [hb]
  exact h v
theorem wpList_lookT (hg : op.guard = none) (mp x : Operand) (hop : op.op = Op.lookup 169 mp x false) (hm : a.eval mp = .map (some M)) (hO : MapT w M base m n T D) {k : Nat} (hk : k ≤ 1000000) (hx : a.eval x = .int .i64 (k : Int)) {v : Value} (hat : D.atKey (.int .i64 (k : Int)) (.held zsl) = .held v)
    (h : wpList Tryz.prog ops Q rest (a.put op.dst v) w) : wpList Tryz.prog ops Q (op :: rest) a w := by
  obtain ⟨u, ps, hrun, hv⟩ := hO.own.lookup keyI5 Tryz.underlying169 (zeroU8L w) (zd := .held zsl) (zp := []) rfl (key6 k hk)
  simp only [rdE, Option.some.injEq, Prod.mk.injEq, hat, DataW.held.injEq] at hv
  rw [hv.1] at hrun
  refine wpList_plain hg fun K hK => ?_
  unfold Oper.wp
  simp [execOp, hop, hm, hx, hrun, Result.andThen]
  exact hK _ _ h
theorem gives_keepT (mp x v : Operand) (hop : op.op = Op.mapUpdate 169 mp x v) (hm : a.eval mp = .map (some M)) (hO : MapT w M base m n T D) (hn : m < maxLen) {k : Nat} (hk : k ≤ 1000000) (hkn : k < n) (hx : a.eval x = .int .i64 (k : Int)) {A : Option Addr} {c : Nat} (hv : a.eval v = .slice A (T k).length c) (hU : OwnU w base (.slice A (T k).length c) (T k)) (hMb : M < base)
    (h : ∀ w' D', MapT w' M base (m + 1) n T D' → Maps.has D' (.int .i64 (k : Int)) = true → w.grownBy w' (some M) → R undef w') : gives Tryz.prog op a w R := by
  obtain ⟨w', hrun, r1, r2⟩ := hO.own.update keyI5 Tryz.underlying169 hn (key6 k hk) (val := .slice A (T k).length c) (d := .held (.slice A (T k).length c)) (ps := []) rfl
  unfold gives
  simp [execOp, hop, hm, hx, hv, hrun, Result.andThen]
  have hkey := keyI5.key (key6 k hk)
  have hsm : ∀ g, base ≤ g → g < w.heap.size → w'.heap[g]? = w.heap[g]? := fun g hb hl => r2.block g hl (fun e => by simp only [Option.some.injEq] at e; omega)
  refine h w' _ ⟨r1, fun q hq => ?_⟩ (has_put_same hO.own.isMap hkey _) r2
  by_cases e : q = k
  · subst e
    exact ⟨hkn, A, c, atKey_put_same hO.own.isMap hkey _ _, ownU_at hU hsm⟩
  · have hne : (Lit.int IntKind.i64 (q : Int)) ≠ .int .i64 (k : Int) := fun h => by injection h with _ h2; omega
    rw [has_put_other hne] at hq
    obtain ⟨h3, A', c', h4, h5⟩ := hO.at_ q hq
    exact ⟨h3, A', c', by rw [atKey_put_other hne]; exact h4, ownU_at h5 hsm⟩
end

end Go.Proofs.YtpnnlmaipcjkmaaGreat
