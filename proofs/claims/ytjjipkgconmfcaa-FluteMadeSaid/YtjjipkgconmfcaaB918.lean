/-
  Texts laid together: FvC, FvD, FvE0, FvI, FrC.
-/
import Derived.Deep.QuietTactic
import Derived.BigQuiet
import Derived.Test.YtjjipkgconmfcaaB917
import Derived.Test.YtjjipkgconmfcaaB96
import Derived.Test.YtjjipkgconmfcaaB98
set_option linter.all false
namespace Go.Proofs.Ytjjipkgconmfcaa
open Go.RowKit Go.Maps
open R6 (done done_ne done_me upd_ne upd_me)

attribute [local go_sem] gives

theorem take_eq9 {α : Type} {xs ys : List α} {k : Nat} {z : α} (h : xs.take k = ys.take k) (h1 : k < xs.length) (h2 : k < ys.length) (he : xs[k]?.getD z = ys[k]?.getD z) : xs.take (k + 1) = ys.take (k + 1) := by
  rw [List.take_add_one, List.take_add_one, h]
  congr 1
  simp only [List.getElem?_eq_getElem h1, List.getElem?_eq_getElem h2, Option.getD_some] at he ⊢
  rw [he]

set_option maxHeartbeats 1000000 in
theorem sameInts9_any (A1 A2 : Option Addr) (c1 c2 : Nat) (xs ys : List Int) (B : Nat) (w : World) (h1 : Ints w B A1 xs) (h2 : Ints w B A2 ys) (l1 : xs.length ≤ 1000000) (l2 : ys.length ≤ 9223372036854775807) :
    Calls Try.prog 31 #[.slice A1 xs.length c1, .slice A2 ys.length c2] w fun e w' => e = .returned (.bool (decide (xs = ys))) ∧ Below w.heap.size w w' := by
  have H1 := Lib.hid h1
  have H2 := Lib.hid h2
  clear h1 h2
  rcases Nat.lt_trichotomy xs.length ys.length with hl | hl | hl
  case inr.inl =>
    have HE := Lib.hid hl
    rw [← hl]
    clear hl
    go_enter Try.func31, Try.ntmps31
    go_wp2
    go_loopw [5] (fun i wr => ∃ k : Nat, k ≤ xs.length ∧ i = .int .i64 k ∧ Hid (xs.take k = ys.take k) ∧ Hid (Below w.heap.size w wr) ∧ Hid (∀ a : Addr, wr.cell? a = w.cell? a)) (fun i _ => xs.length - (intOf i).toNat)
    case atStart => exact ⟨0, Nat.zero_le _, rfl, by simp [Hid], Below.refl _ _, fun _ => rfl⟩
    case round =>
      obtain ⟨k, hk, rfl, ht, hB, hcw⟩ := hrel
      by_cases hlt : k < xs.length
      · obtain ⟨b, off, hA, _, hc⟩ := H1.out (by omega)
        obtain ⟨b', off', hA', _, hc'⟩ := H2.out (by rw [← HE.out]; omega)
        subst hA hA'
        have cx := (hcw.out _).trans (hc k hlt)
        have cy := (hcw.out _).trans (hc' k (by rw [← HE.out]; omega))
        clear hc hc'
        have hstep := take_eq9 (z := 0) ht.out hlt (by rw [← HE.out]; exact hlt)
        have hno : xs[k]?.getD 0 ≠ ys[k]?.getD 0 → decide (xs = ys) = false := fun h => by
          simp only [decide_eq_false_iff_not]; rintro rfl; exact h rfl
        generalize xs[k]?.getD 0 = x at cx hstep hno
        generalize ys[k]?.getD 0 = y at cy hstep hno
        have Hs := Lib.hid hstep
        have Hn := Lib.hid hno
        have b1 : (0 : Int) ≤ (k : Int) := by omega
        have b2 : (k : Int) < xs.length := by omega
        clear hstep hno
        by_cases hxy : x = y
        · subst hxy
          go_wp2
          go_quiet (fail)
          go_wp2
          go_roundw
          case rel => exact ⟨k + 1, by omega, by go_num, Hs.out (by simp), below_drewN hB.out _, hcw.out⟩
          case measure => simp [intOf] <;> omega
        · go_wp2
          go_quiet (fail)
          go_wp2
          go_ret
          exact ⟨by rw [Hn.out hxy]; rfl, below_drewN hB.out _⟩
      · have hd : decide (xs = ys) = true := by
          have h := ht.out
          have e : k = xs.length := by omega
          rw [e, List.take_of_length_le (Nat.le_refl _), HE.out, List.take_of_length_le (Nat.le_refl _)] at h
          simp [h]
        have Hd := Lib.hid hd
        clear hd
        go_wp2
        go_ret
        exact ⟨by rw [Hd.out]; rfl, hB.out⟩
  all_goals
    have hd : decide (xs = ys) = false := by simp only [decide_eq_false_iff_not]; rintro rfl; omega
    have Hd := Lib.hid hd
    clear hd
    go_enter Try.func31, Try.ntmps31
    go_wp2
    go_ret
    exact ⟨by rw [Hd.out]; rfl, Below.refl _ _⟩

theorem ex_fin : finE (exFu none) (760000, 830000) = 0 ∧ finL (exFu none) (760000, 830000) = [1, 3] := by decide +kernel
theorem ex_dri : driE (exBk none) exOs = 0 ∧ driL (exBk none) exOs = [415, 325, 278] := by decide +kernel
theorem ex_t0 : tonE (exFu none) 0 = 0 ∧ tonV (exFu none) 0 = (404761, 419512) := by decide +kernel
theorem ex_t1 : tonE (exFu none) 1 = 0 ∧ tonV (exFu none) 1 = (765765, 807511) := by decide +kernel
theorem ex_p0 : plaE (exFu none) 0 (400000, 420000) = 0 ∧ plaV (exFu none) 0 (400000, 420000) = 2 := by decide +kernel
theorem ex_p1 : plaE (exFu none) 0 (410000, 420000) = 0 ∧ plaV (exFu none) 0 (410000, 420000) = 1 := by decide +kernel
theorem ex_p2 : plaE (exFu none) 0 (420000, 430000) = 0 ∧ plaV (exFu none) 0 (420000, 430000) = 0 := by decide +kernel

end Go.Proofs.Ytjjipkgconmfcaa

namespace Go.Proofs.Ytjjipkgconmfcaa
open Go.RowKit Go.Maps
open R6 (done done_ne done_me upd_ne upd_me)

attribute [local go_sem] gives

set_option maxRecDepth 100000 in
set_option maxHeartbeats 8000000 in
theorem alive_any (w : World) : Calls Try.prog 13 #[] w fun e w' => e = .returned (.bool true) ∧ Below w.heap.size w w' := by
  have hfi := fun A W (hz : FuAt W W.heap.size (exFu A)) => fingers_any (exFu A) (by simp [exFu]) (760000, 830000) W.heap.size W (Nat.le_refl _) hz
  unfold FinPost at hfi
  have e1 : ∀ A, finE (exFu A) (760000, 830000) = 0 := fun A => ex_fin.1
  have e2 : ∀ A, finL (exFu A) (760000, 830000) = [1, 3] := fun A => ex_fin.2
  simp only [e1, e2] at hfi
  have hdr := fun A A' W (hz : BkAt W W.heap.size (exBk A)) (ho : Vals W W.heap.size A' (pairs exOs)) => drill_any (exBk A) (by simp [exBk]) A' 3 exOs (by simp [exOs]) W.heap.size W (Nat.le_refl _) hz ho
  unfold DriPost at hdr
  have e3 : ∀ A, driE (exBk A) exOs = 0 := fun A => ex_dri.1
  have e4 : ∀ A, driL (exBk A) exOs = [415, 325, 278] := fun A => ex_dri.2
  simp only [e3, e4] at hdr
  have HFI := Lib.hid hfi
  have HDR := Lib.hid hdr
  have HTB := Lib.hid (fun W => tube_any W)
  have HBL := Lib.hid (fun W => blank_any W)
  have HSC := Lib.hid (fun W => scale_any W)
  have HS0 := Lib.hid (fun W => sounds_any 0 (by decide) 404761 419512 ex_t0 W)
  have HS1 := Lib.hid (fun W => sounds_any 1 (by decide) 765765 807511 ex_t1 W)
  have HP0 := Lib.hid (fun W => lawPlays_any 400000 420000 2 ex_p0 W)
  have HP1 := Lib.hid (fun W => lawPlays_any 410000 420000 1 ex_p1 W)
  have HP2 := Lib.hid (fun W => lawPlays_any 420000 430000 0 ex_p2 W)
  clear hfi hdr e1 e2 e3 e4
  unfold TubPost at HTB
  unfold BlaPost at HBL
  unfold ScaPost at HSC
  go_enter Try.func13, Try.ntmps13
  go_wp2_with (first
    | (go_at_call 31
       refine (sameInts9_any A5 _ c5 3 [415, 325, 278] [415, 325, 278] _ (w12.alloc (.cells #[.int .i64 415, .int .i64 325, .int .i64 278] 3)) (Ints.mono (Ints.below H12.out.1 (grow1 _ _)) (grow1 w12 (.cells #[.int .i64 415, .int .i64 325, .int .i64 278] 3)).size) (vals_in (L := ints [415, 325, 278]) (alloc_at0 w12 _) (lt_of_heap (alloc_at0 w12 _)) at0).ints (by decide) (by decide)).mono ?_
       rintro e w13 ⟨rfl, hB13⟩
       have H13 := Lib.hid (H12.out.2.trans (((grow1 w12 _).trans (hB13.mono (grow1 w12 _).size)).mono H12.out.2.size))
       clear hB13)
    | (go_at_call 41; (with_reducible show Calls _ _ #[.int .i64 420000, _, _] _ _); refine (HP2.out w11).mono ?_; rintro e w12 ⟨rfl, hB12⟩
       have hcv := conv_v9 (own_grows H11.out.2.2 hB12)
       rw [show strOfNums [1, 3] = { data := #[1, 3] } by rfl] at hcv
       have H12 := Lib.hid (And.intro (Ints.mono (Ints.below H11.out.1 hB12) hB12.size) (H11.out.2.1.trans (hB12.mono H11.out.2.1.size))); clear hB12)
    | (go_at_call 41; (with_reducible show Calls _ _ #[.int .i64 410000, _, _] _ _); refine (HP1.out w10).mono ?_; rintro e w11 ⟨rfl, hB11⟩; have H11 := Lib.hid (And.intro (Ints.mono (Ints.below H10.out.1 hB11) hB11.size) (And.intro (H10.out.2.1.trans (hB11.mono H10.out.2.1.size)) (own_grows H10.out.2.2 hB11))); clear hB11)
    | (go_at_call 41; refine (HP0.out w9).mono ?_; rintro e w10 ⟨rfl, hB10⟩; have H10 := Lib.hid (And.intro (Ints.mono (Ints.below H9.out.1 hB10) hB10.size) (And.intro (H9.out.2.1.trans (hB10.mono H9.out.2.1.size)) (own_grows H9.out.2.2 hB10))); clear hB10)
    | (go_at_call 14; (with_reducible show Calls _ _ #[_, .int .i64 765765, _] _ _); refine (HS1.out w8).mono ?_; rintro e w9 ⟨rfl, hB9⟩; have H9 := Lib.hid (And.intro (Ints.mono (Ints.below H8.out.1 hB9) hB9.size) (And.intro (H8.out.2.1.trans (hB9.mono H8.out.2.1.size)) (own_grows H8.out.2.2 hB9))); clear hB9)
    | (go_at_call 14; refine (HS0.out w7).mono ?_; rintro e w8 ⟨rfl, hB8⟩; have H8 := Lib.hid (And.intro (Ints.mono (Ints.below H7.out.1 hB8) hB8.size) (And.intro (H7.out.2.1.trans (hB8.mono H7.out.2.1.size)) (own_grows H7.out.2.2 hB8))); clear hB8)
    | (go_at_call 23
       refine (HDR.out _ _ w6 H6.out.1 H6.out.2.1).mono ?_
       rintro e w7 ⟨v, rfl, hU, hB7⟩
       obtain ⟨A5, c5, rfl⟩ := own_shape hU
       have H7 := Lib.hid (And.intro (OwnP.ints hU) (And.intro (H6.out.2.2.1.trans (hB7.mono H6.out.2.2.1.size)) (own_grows H6.out.2.2.2 hB7)))
       clear hU hB7)
    | (go_at_call 20; refine (HSC.out w5).mono ?_; rintro e w6 ⟨A6, rfl, hV, hB6⟩; have H6 := Lib.hid (And.intro (Ints.mono (Ints.below H5.out.1 hB6) hB6.size) (And.intro hV (And.intro (H5.out.2.1.trans (hB6.mono H5.out.2.1.size)) (own_grows H5.out.2.2 hB6)))); clear hV hB6)
    | (go_at_call 16; refine (HBL.out w4).mono ?_; rintro e w5 ⟨A4, rfl, hV, hB5⟩; have H5 := Lib.hid (And.intro hV (And.intro (H4.out.1.trans (hB5.mono H4.out.1.size)) (own_grows H4.out.2 hB5))); clear hV hB5)
    | (go_at_call 27
       refine (HFI.out _ w3 H3.out.1).mono ?_
       rintro e w4 ⟨u, rfl, hU, hB4⟩
       have H4 := Lib.hid (And.intro (H3.out.2.trans (hB4.mono H3.out.2.size)) hU)
       clear hU hB4)
    | (go_at_call 17; refine (span_any _ _ w2).mono ?_; rintro e w3 ⟨rfl, hB3⟩; have H3 := Lib.hid (And.intro (FuAt.mono (FuAt.below H2.out.1 hB3) hB3.size) (H2.out.2.trans (hB3.mono H2.out.2.size))); clear hB3)
    | (go_at_call 19; refine (HTB.out w).mono ?_; rintro e w2 ⟨A2, rfl, hz, hB2⟩; have H2 := Lib.hid (And.intro hz hB2); clear hz hB2))
  go_ret
  exact ⟨rfl, H13.out⟩

end Go.Proofs.Ytjjipkgconmfcaa

namespace Go.Proofs.Ytjjipkgconmfcaa
open Go.RowKit Go.Maps
open R6 (done done_ne done_me upd_ne upd_me)

attribute [local go_sem] gives

def rdyF (f : Fu) : Bool := !greatF f bk0 0 && okFu f
theorem rdy_ok {f : Fu} (h : rdyF f = true) : okFu f = true := by
  simp only [rdyF, Bool.and_eq_true] at h; exact h.2

set_option maxRecDepth 100000 in
set_option maxHeartbeats 4000000 in
theorem ready9_any (f : Fu) (hl : f.hs.length ≤ 1000000) (B : Nat) (w : World) (hB : B ≤ w.heap.size) (hz : FuAt w B f) :
    Calls Try.prog 32 #[.agg (fuc f).toArray] w fun e w' => e = .returned (.bool (rdyF f)) ∧ Below w.heap.size w w' := by
  obtain ⟨w1, hw1⟩ : ∃ w1, w.alloc (.cells (fuc f).toArray 28) = w1 := ⟨_, rfl⟩
  have hb1 : Below w.heap.size w w1 := by rw [← hw1]; exact grow1 _ _
  have m1 : w1.heap[w.heap.size]? = some (.cells (fuc f).toArray 28 (0, 0)) := by rw [← hw1]; exact alloc_at0 _ _
  have hcf := fun (W : World) (hW : Below w1.heap.size w1 W) i => cell_of_row W w.heap.size i _ _ _ ((hW.block _ (lt_of_heap m1)).trans m1)
  have HFL := Lib.hid (fun W (hW : Below w1.heap.size w1 W) => rfFlute_any f hl B W (Nat.le_trans hB (Nat.le_trans hb1.size hW.size)) ((hz.below (hb1.mono hB)).below (hW.mono (Nat.le_trans hB hb1.size))))
  have hgr := fun W => rfGreat_any f bk0 0 W
  have H1 := Lib.hid hb1
  clear hz hb1 m1
  unfold rdyF
  unfold fuc bkc bk0 at hgr
  dsimp only [List.length_nil] at hgr
  unfold fuc at hw1 hcf HFL ⊢
  have HCF := Lib.hid hcf
  have hc1 := HCF.out w1 (Below.refl _ _)
  clear hcf
  have hgx : greatF f ⟨0, 0, 0, 0, 0, 0, 0, 0, 0, none, 0, []⟩ 0 = greatF f bk0 0 := rfl
  rw [hgx] at hgr
  generalize greatF f bk0 0 = v0 at hgr ⊢
  generalize okFu f = v1 at HFL ⊢
  have HGR := Lib.hid hgr
  clear hgr hgx
  cases v0
  · cases v1
    all_goals
      go_enter Try.func32, Try.ntmps32
      go_wp2_with (first
        | (go_at_call 25; refine (HGR.out _).mono ?_; rintro e w2 ⟨rfl, hB2⟩; have hc2 := HCF.out w2 hB2; have H2 := Lib.hid hB2; clear hB2 hc1)
        | (go_at_call 37; refine (HFL.out w2 H2.out).mono ?_; rintro e w3 ⟨rfl, hB3⟩; have H3 := Lib.hid (H2.out.trans (hB3.mono H2.out.size)); clear hB3))
      go_ret
      exact ⟨rfl, H1.out.trans (H3.out.mono H1.out.size)⟩
  · go_enter Try.func32, Try.ntmps32
    go_wp2_with (go_at_call 25; refine (HGR.out _).mono ?_; rintro e w2 ⟨rfl, hB2⟩; have H2 := Lib.hid hB2; clear hB2 hc1)
    go_ret
    exact ⟨rfl, H1.out.trans (H2.out.mono H1.out.size)⟩

set_option maxRecDepth 100000 in
theorem ready9_big (f : Fu) (h12 : ¬ f.hs.length ≤ 12) (w : World) : Calls Try.prog 32 #[.agg (fuc f).toArray] w fun e w' => e = .returned (.bool false) ∧ Below w.heap.size w w' := by
  have hgt : greatF f bk0 0 = true := by simp [greatF]; omega
  have hgr := fun W => rfGreat_any f bk0 0 W
  rw [hgt] at hgr
  obtain ⟨w1, hw1⟩ : ∃ w1, w.alloc (.cells (fuc f).toArray 28) = w1 := ⟨_, rfl⟩
  have hb1 : Below w.heap.size w w1 := by rw [← hw1]; exact grow1 _ _
  have m1 : w1.heap[w.heap.size]? = some (.cells (fuc f).toArray 28 (0, 0)) := by rw [← hw1]; exact alloc_at0 _ _
  have hc1 := fun i => cell_of_row w1 w.heap.size i _ _ _ m1
  have H1 := Lib.hid hb1
  have HGR := Lib.hid hgr
  clear hb1 m1 hgr h12 hgt
  unfold fuc bkc bk0 at HGR
  dsimp only [List.length_nil] at HGR
  unfold fuc at hw1 hc1 ⊢
  go_enter Try.func32, Try.ntmps32
  go_wp2_with (go_at_call 25; refine (HGR.out _).mono ?_; rintro e w2 ⟨rfl, hB2⟩; have H2 := Lib.hid hB2; clear hB2 hc1)
  go_ret
  exact ⟨rfl, H1.out.trans (H2.out.mono H1.out.size)⟩

end Go.Proofs.Ytjjipkgconmfcaa

namespace Go.Proofs.Ytjjipkgconmfcaa
open Go.RowKit Go.Maps
open R6 (done done_ne done_me upd_ne upd_me)

attribute [local go_sem] gives

theorem at9_any (A : Option Addr) (k : Nat) (l : List Int) (i : Int) (h0 : 0 ≤ i) (B : Nat) (w : World) (hV : Vals w B A (u32s l)) (hl : l.length ≤ 9223372036854775807) :
    Calls Try.prog 40 #[.slice A l.length k, .int .i64 i] w fun e w' => e = .returned (.int .u32 (atL l i)) ∧ w = w' := by
  by_cases hz : l.length = 0
  · have e1 : atL l i = 0 := by simp [atL, hz]
    rw [e1, hz]
    go_enter Try.func40, Try.ntmps40
    go_wp2
    go_ret
    exact ⟨rfl, rfl⟩
  · obtain ⟨b, off, rfl, hlt, hc⟩ := hV (by simp [u32s]; omega)
    have hm0 := Int.emod_nonneg i (show (l.length : Int) ≠ 0 by omega)
    have hm1 := Int.emod_lt_of_pos i (show (0 : Int) < l.length by omega)
    have e1 : atL l i = l[(i % l.length).toNat]?.getD 0 := by simp only [atL]; rw [if_neg hz]
    have hx := hc (i % l.length).toNat (.int .u32 (l[(i % l.length).toNat]?.getD 0)) (by
      have : (i % l.length).toNat < l.length := by omega
      simp [u32s, this])
    rw [e1]
    generalize l[(i % l.length).toNat]?.getD 0 = v at hx ⊢
    have htm : i.tmod l.length = i % l.length := Int.tmod_eq_emod_of_nonneg h0
    go_enter Try.func40, Try.ntmps40
    go_wp2
    go_ret
    exact ⟨rfl, rfl⟩

set_option maxHeartbeats 1000000 in
theorem pick9_any (lo hi n : Int) (h0 : 0 ≤ lo) (h1 : lo ≤ hi) (h2 : hi ≤ 1000000) (n0 : 0 ≤ n) (n1 : n < 4294967296) (w : World) :
    Calls Try.prog 59 #[.agg #[.int .i64 lo, .int .i64 hi], .int .u32 n] w fun e w' => e = .returned (.int .i64 (pickL lo hi n)) ∧ Below w.heap.size w w' := by
  have hp := pickL_bnd (n := n) h1
  have htm : n.tmod (hi - lo + 1) = n % (hi - lo + 1) := Int.tmod_eq_emod_of_nonneg n0
  have hm0 := Int.emod_nonneg n (show hi - lo + 1 ≠ 0 by omega)
  have hm1 := Int.emod_lt_of_pos n (show 0 < hi - lo + 1 by omega)
  have hnz : ¬ hi - lo + 1 = 0 := by omega
  unfold pickL at hp ⊢
  have hx1 : IntKind.i64.wrap n = n := IntWalk.i64_in _ (by omega)
  have hx2 : IntKind.i64.wrap (hi - lo) = hi - lo := IntWalk.i64_in _ (by omega)
  have hx3 : IntKind.i64.wrap (hi - lo + 1) = hi - lo + 1 := IntWalk.i64_in _ (by omega)
  have hx4 : IntKind.i64.wrap (lo + n % (hi - lo + 1)) = lo + n % (hi - lo + 1) := IntWalk.i64_in _ (by omega)
  have hx5 : IntKind.i64.wrap (n % (hi - lo + 1)) = n % (hi - lo + 1) := IntWalk.i64_in _ (by omega)
  go_enter Try.func59, Try.ntmps59
  go_wp2
  obtain ⟨w1, hw1⟩ : ∃ w1, w.alloc (.cells #[.int .i64 lo, .int .i64 hi] 25) = w1 := ⟨_, rfl⟩
  have hb1 : Below w.heap.size w w1 := by rw [← hw1]; exact grow1 _ _
  have hm1' : w1.heap[w.heap.size]? = some (.cells #[.int .i64 lo, .int .i64 hi] 25 (0, 0)) := by rw [← hw1]; exact alloc_at0 w _
  have H1 := Lib.hid (And.intro hb1 hm1')
  rw [hw1]
  clear hw1 hb1 hm1'
  refine R6.wp_walk (C := fun _ _ W => Below w1.heap.size w1 W) 17 (by kernel_rfl) (by kernel_rfl) rfl (Below.refl _ _).drew ?_
  simp only []
  repeat
    (refine' R6.WalkR.det (fun _ => rfl) (fun D ρ W hK hC => ?_) ?_
     rotate_left
     · have hc := fun i => cell_of_row W w.heap.size i _ _ _ ((hC.block _ (lt_of_heap H1.out.2)).trans H1.out.2)
       have HC := Lib.hid hC
       clear hC hK
       go_simp
       with_reducible exact ⟨rfl, HC.out⟩
     simp only [Act.put, List.setIfInBounds_toArray, List.set_cons_succ, List.set_cons_zero])
  refine R6.WalkR.nil (fun D ρ W hD hC => ?_)
  have H9 := Lib.hid (H1.out.1.trans (hC.mono H1.out.1.size))
  clear hC hD
  go_wp2
  go_ret
  exact ⟨rfl, H9.out⟩

/-- What the crosses of some closed holes are together. -/
def crS (f : Fu) (us : List Int) (i : Nat) : Nat → Int
  | 0 => 0
  | c + 1 => crS f us i c + pickL f.c0 f.c1 (atL us ((i : Int) + 1 + c))
def soA (f : Fu) (us : List Int) (n : Nat) : Int :=
  if n = 0 then f.len + pickL f.e0 f.e1 (atL us 0) else
    (f.hs[tz8 n]?.getD ⟨0, 0, 0⟩).a + pickL (f.hs[tz8 n]?.getD ⟨0, 0, 0⟩).lo (f.hs[tz8 n]?.getD ⟨0, 0, 0⟩).hi (atL us 0) + crS f us (tz8 n) (cloF n (tz8 n) (f.hs.length - tz8 n - 1))
def soF (f : Fu) (us : List Int) (n : Nat) : Int := 500 * pickL f.s0 f.s1 (atL us 1) / soA f us n

theorem crS_bnd {f : Fu} (us : List Int) (h : f.c0 ≤ f.c1) (i : Nat) : ∀ c : Nat, (c : Int) * f.c0 ≤ crS f us i c ∧ crS f us i c ≤ c * f.c1
  | 0 => by simp [crS]
  | c + 1 => by
    have := crS_bnd us h i c
    have h2 := pickL_bnd (n := atL us ((i : Int) + 1 + c)) h
    have e1 : ((c + 1 : Nat) : Int) * f.c0 = c * f.c0 + f.c0 := by rw [show ((c + 1 : Nat) : Int) = (c : Int) + 1 by omega, Int.add_mul, Int.one_mul]
    have e2 : ((c + 1 : Nat) : Int) * f.c1 = c * f.c1 + f.c1 := by rw [show ((c + 1 : Nat) : Int) = (c : Int) + 1 by omega, Int.add_mul, Int.one_mul]
    rw [e1, e2]
    unfold crS
    omega
theorem soA_bnd {f : Fu} (hok : okFu f = true) (us : List Int) {n : Nat} (hn : n < 2 ^ f.hs.length) : (airF f n).1 ≤ soA f us n ∧ soA f us n ≤ (airF f n).2 := by
  obtain ⟨h1, h2, h3, h4, h5, h6⟩ := okFu_bnd hok
  unfold airF soA
  by_cases h0 : n = 0
  · rw [if_pos h0, if_pos h0]
    have := pickL_bnd (n := atL us 0) h2.2.1
    dsimp only
    omega
  · rw [if_neg h0, if_neg h0]
    dsimp only
    have hn8 : n < 256 := Nat.lt_of_lt_of_le hn (Nat.pow_le_pow_right (n := 2) (by omega) h5)
    have hi := tz8_lt hn8 h0 hn
    have hx := h6 _ (List.getElem_mem hi)
    have e : f.hs[tz8 n]?.getD ⟨0, 0, 0⟩ = f.hs[tz8 n] := by simp [hi]
    rw [e]
    have h7 := crS_bnd us h3.2.1 (tz8 n) (cloF n (tz8 n) (f.hs.length - tz8 n - 1))
    have h8 := pickL_bnd (n := atL us 0) hx.2.2.2.1
    omega

end Go.Proofs.Ytjjipkgconmfcaa

namespace Go.Proofs.Ytjjipkgconmfcaa
open Go.RowKit
open R6 (done done_ne done_me upd_ne upd_me)

attribute [local go_sem] gives

theorem mul_bnd {c : Nat} {x : Int} (hc : c ≤ 8) (hx : 0 ≤ x ∧ x ≤ 60) : 0 ≤ (c : Int) * x ∧ (c : Int) * x ≤ 480 :=
  ⟨Int.mul_nonneg (by omega) hx.1, Int.le_trans (Int.mul_le_mul_of_nonneg_right (show (c : Int) ≤ 8 by omega) hx.1) (by omega)⟩

set_option maxRecDepth 100000 in
set_option maxHeartbeats 8000000 in
theorem rfAir_any (f : Fu) (hok : okFu f = true) (n : Nat) (hn : n < 2 ^ f.hs.length) (B : Nat) (w : World) (hB : B ≤ w.heap.size) (hz : FuAt w B f) :
    Calls Try.prog 85 #[.agg (fuc f).toArray, .int .u8 (n : Int)] w fun e w' => e = .returned (.agg #[.int .i64 (airF f n).1, .int .i64 (airF f n).2]) ∧ Below w.heap.size w w' := by
  obtain ⟨b1, b2, b3, b4, hl, b6⟩ := okFu_bnd hok
  have hn8 : n < 256 := Nat.lt_of_lt_of_le hn (Nat.pow_le_pow_right (n := 2) (by omega) hl)
  obtain ⟨w1, hw1⟩ : ∃ w1, (w.alloc (.cells (fuc f).toArray 28)).alloc (.cells #[.int .i64 0, .int .i64 0] 25) = w1 := ⟨_, rfl⟩
  have hb1 : Below w.heap.size w w1 := by rw [← hw1]; exact ((Below.refl _ _).alloc (Nat.le_refl _) _).alloc (by simp) _
  have m0 : w1.heap[w.heap.size]? = some (.cells (fuc f).toArray 28 (0, 0)) := by rw [← hw1]; exact alloc2_at0 _ _ _
  have m1 : w1.heap[w.heap.size + 1]? = some (.cells #[.int .i64 0, .int .i64 0] 25 (0, 0)) := by rw [← hw1]; exact alloc2_at1 _ _ _
  have hz1 : Vals w1 B f.A (f.hs.flatMap hoc) := hz.below (hb1.mono hB)
  have hcA := fun i => cell_of_row w1 w.heap.size i _ _ _ m0
  have hcR := fun i => cell_of_row w1 (w.heap.size + 1) i _ _ _ m1
  have hfR := fun i => frozen_of_row w1 (w.heap.size + 1) i _ _ m1
  have HO := Lib.hid (fun i (hi : i < 20) W => rfOpen_any n i hn8 hi W)
  have hsz := lt_of_heap m1
  have hsz0 := lt_of_heap m0
  have HZ := Lib.hid hz1
  have H1 := Lib.hid (And.intro hb1 (And.intro m0 m1))
  have HB := Lib.hid hB
  have HBN := Lib.hid (And.intro b1 (And.intro b2 (And.intro b3 b6)))
  have hair0 : n = 0 → airF f n = (f.len + f.e0, f.len + f.e1) := fun h => by simp only [airF, if_pos h]
  have hair1 : ∀ (i c : Nat) (hi : i < f.hs.length), n.testBit i = true → (∀ j, j < i → n.testBit j = false) → i + 1 + c ≤ f.hs.length → (∀ j, i < j → j < i + 1 + c → n.testBit j = false) → (i + 1 + c = f.hs.length ∨ n.testBit (i + 1 + c) = true) →
      airF f n = (f.hs[i].a + f.hs[i].lo + c * f.c0, f.hs[i].a + f.hs[i].hi + c * f.c1) := fun i c hi h1 h2 h3 h4 h5 => by
    have h0 : n ≠ 0 := fun e => by rw [e, Nat.zero_testBit] at h1; cases h1
    have ht := tz8_at hn8 h1 h2
    have hc := cloF_at (i := i) (L := f.hs.length - i - 1) hn8 (c := c) (by omega) h4 (by rcases h5 with h5 | h5; exact .inl (by omega); exact .inr h5) (by omega)
    have e : f.hs[i]?.getD ⟨0, 0, 0⟩ = f.hs[i] := by simp [hi]
    simp only [airF, if_neg h0, ht, hc, e]
  have HA := Lib.hid (And.intro hair0 hair1)
  have hzn : (∀ j, j < f.hs.length → n.testBit j = false) → n = 0 := fun h => Nat.eq_of_testBit_eq fun j => by
    rw [Nat.zero_testBit]
    by_cases hj : j < f.hs.length
    · exact h j hj
    · exact Nat.testBit_lt_two_pow (Nat.lt_of_lt_of_le hn (Nat.pow_le_pow_right (by omega) (by omega)))
  have HZN := Lib.hid hzn
  have hlz : (f.hs.length : Int) ≤ 8 := by omega
  generalize airF f n = R at HA ⊢
  have b11 := b1.1
  have b12 := b1.2
  have b21 := b2.1
  have b22 := b2.2.1
  have b23 := b2.2.2
  clear hz hz1 hb1 m0 m1 hair0 hair1 hzn b1 b2 b3 b4 b6 hok
  unfold fuc at hw1 hcA ⊢
  generalize f.A = A at hw1 hcA HZ ⊢
  go_enter Try.func85, Try.ntmps85
  go_wp2
  go_loopg [5] f.hs.length (fun gg s5 wx => ∃ i : Nat, i + gg = f.hs.length ∧ s5 = .int .i64 i ∧ Hid (∀ j, j < i → n.testBit j = false) ∧ wx = w1)
  case atStart => exact ⟨0, by omega, rfl, fun j hj => absurd hj (Nat.not_lt_zero _), rfl⟩
  case round =>
    obtain ⟨i, hig, rfl, hcl, rfl⟩ := hrel
    cases gk with
    | zero =>
      obtain rfl : i = f.hs.length := by omega
      have hR := HA.out.1 (HZN.out hcl.out)
      have HR := Lib.hid hR
      clear hR
      go_wp2
      refine bodyPost_ret (v := .agg #[.int .i64 (f.len + f.e0), .int .i64 (f.len + f.e1)]) (by simp [results, Try.results85, go_sem, hcR]) rfl ⟨by rw [HR.out], ?_⟩
      exact (H1.out.1.setCell (by simp) _).setCell (by simp) _
    | succ gg =>
      have hi : i < f.hs.length := by omega
      have hiz : (i : Int) < f.hs.length := by omega
      obtain ⟨c, off, hA, hcB, hc⟩ := vals_elem hoc_len HZ.out (by decide) hi
      subst hA
      cases hop : n.testBit i
      · have HOP := Lib.hid hop
        clear hop
        go_wp2_with (go_at_call 93; refine (HO.out i (by omega) _).mono ?_; rintro e w2 ⟨rfl, rfl⟩; rw [HOP.out])
        go_roundg gg
        case measure => omega
        case rel => exact ⟨i + 1, by omega, by go_num, fun j hj => by rcases Nat.lt_succ_iff_lt_or_eq.1 hj with hj | rfl; exact hcl.out j hj; exact HOP.out, rfl⟩
      · have HOP := Lib.hid hop
        have hY := hc
        clear hop hc
        go_wp2_with (go_at_call 93; refine (HO.out i (by omega) _).mono ?_; rintro e w2 ⟨rfl, rfl⟩; rw [HOP.out])
        obtain ⟨wo, rfl⟩ : ∃ wo : World, wo = wr := ⟨_, rfl⟩
        go_loopg [6, 7] f.hs.length (fun gh s6 s7 wz => ∃ m : Nat, i + 1 + m + gh = f.hs.length + (i + 1) ∧ i + 1 + m ≤ f.hs.length ∧ s6 = .int .i64 m ∧ s7 = .int .i64 ((i + 1 + m : Nat) : Int) ∧ Hid (∀ j, i < j → j < i + 1 + m → n.testBit j = false) ∧ wz = wo)
        case atStart => exact ⟨0, by omega, by omega, rfl, by go_num, fun j h1 h2 => absurd h2 (by omega), rfl⟩
        case round =>
          obtain ⟨m, hmg, hml, rfl, rfl, HCC, rfl⟩ := hrel
          by_cases hend : i + 1 + m = f.hs.length
          · have hez : ((i + 1 + m : Nat) : Int) = (f.hs.length : Int) := by rw [hend]
            have HEND := Lib.hid hend
            rw [hez]
            clear hez hend
            have hR := HA.out.2 i m hi (HOP.out) hcl.out (by omega) HCC.out (.inl HEND.out)
            have hm1 := mul_bnd (c := m) (by omega) (show 0 ≤ f.c0 ∧ f.c0 ≤ 60 by have := HBN.out.2.2.1; omega)
            have hm2 := mul_bnd (c := m) (by omega) (show 0 ≤ f.c1 ∧ f.c1 ≤ 60 by have := HBN.out.2.2.1; omega)
            have hbx := HBN.out.2.2.2 _ (List.getElem_mem hi)
            generalize f.hs[i] = h at hR hY hbx
            have HR := Lib.hid hR
            have HY := Lib.hid hY
            have hx1 := hbx.1
            have hx2 := hbx.2.1
            have hx3 := hbx.2.2.1
            have hx4 := hbx.2.2.2.1
            have hx5 := hbx.2.2.2.2
            have hm11 := hm1.1
            have hm12 := hm1.2
            have hm21 := hm2.1
            have hm22 := hm2.2
            clear hR hY hm1 hm2 hbx hmg hig hml
            go_wp2_with (first
              | (show wpList _ _ _ (Oper.mk (some 41) _ _ _ _ _ :: _) _ _
                 refine wpList_load_at 38 (.tmp 40) rfl rfl (by simp [Act.eval]) [.int .i64 h.a, .int .i64 h.lo, .int .i64 h.hi] HY.out rowHole ?_))
            have hcE := fun i => cell_of_row _ (w.heap.size + 1) i _ _ _ (set_two H1.out.2.2 (.int .i64 (h.a + h.lo + m * f.c0)) (.int .i64 (h.a + h.hi + m * f.c1)) (.cells #[.int .i64 h.a, .int .i64 h.lo, .int .i64 h.hi] 38))
            refine bodyPost_ret (v := .agg #[.int .i64 (h.a + h.lo + m * f.c0), .int .i64 (h.a + h.hi + m * f.c1)]) (by simp [results, Try.results85, go_sem, hcE]) rfl ⟨by rw [HR.out], ?_⟩
            exact ((H1.out.1.setCell (by simp) _).setCell (by simp) _).alloc (by simp; omega) _
          · have hlt : i + 1 + m < f.hs.length := by omega
            have hltz : ((i + 1 + m : Nat) : Int) < f.hs.length := by omega
            cases hoc2 : n.testBit (i + 1 + m)
            · have HOC := Lib.hid hoc2
              clear hoc2 hend hY
              go_wp2_with (go_at_call 93; refine (HO.out (i + 1 + m) (by omega) _).mono ?_; rintro e w2 ⟨rfl, rfl⟩; rw [HOC.out])
              go_roundg (gk - 1)
              case measure => omega
              case rel => exact ⟨m + 1, by omega, by omega, by go_num, by go_num, fun j h1 h2 => by rcases Nat.lt_or_ge j (i + 1 + m) with h | h; exact HCC.out j h1 h; rw [show j = i + 1 + m by omega]; exact HOC.out, rfl⟩
            · have HOC := Lib.hid hoc2
              clear hoc2 hend
              have hR := HA.out.2 i m hi (HOP.out) hcl.out (by omega) HCC.out (.inr HOC.out)
              have hm1 := mul_bnd (c := m) (by omega) (show 0 ≤ f.c0 ∧ f.c0 ≤ 60 by have := HBN.out.2.2.1; omega)
              have hm2 := mul_bnd (c := m) (by omega) (show 0 ≤ f.c1 ∧ f.c1 ≤ 60 by have := HBN.out.2.2.1; omega)
              have hbx := HBN.out.2.2.2 _ (List.getElem_mem hi)
              generalize f.hs[i] = h at hR hY hbx
              have HR := Lib.hid hR
              have HY := Lib.hid hY
              have hx1 := hbx.1
              have hx2 := hbx.2.1
              have hx3 := hbx.2.2.1
              have hx4 := hbx.2.2.2.1
              have hx5 := hbx.2.2.2.2
              have hm11 := hm1.1
              have hm12 := hm1.2
              have hm21 := hm2.1
              have hm22 := hm2.2
              clear hR hY hm1 hm2 hbx hmg hig
              go_wp2_with (first
                | (go_at_call 93; refine (HO.out (i + 1 + m) (by omega) _).mono ?_; rintro e w2 ⟨rfl, rfl⟩; rw [HOC.out])
                | (show wpList _ _ _ (Oper.mk (some 41) _ _ _ _ _ :: _) _ _
                   refine wpList_load_at 38 (.tmp 40) rfl rfl (by simp [Act.eval]) [.int .i64 h.a, .int .i64 h.lo, .int .i64 h.hi] HY.out rowHole ?_))
              have hcE := fun i => cell_of_row _ (w.heap.size + 1) i _ _ _ (set_two H1.out.2.2 (.int .i64 (h.a + h.lo + m * f.c0)) (.int .i64 (h.a + h.hi + m * f.c1)) (.cells #[.int .i64 h.a, .int .i64 h.lo, .int .i64 h.hi] 38))
              refine bodyPost_ret (v := .agg #[.int .i64 (h.a + h.lo + m * f.c0), .int .i64 (h.a + h.hi + m * f.c1)]) (by simp [results, Try.results85, go_sem, hcE]) rfl ⟨by rw [HR.out], ?_⟩
              exact ((H1.out.1.setCell (by simp) _).setCell (by simp) _).alloc (by simp; omega) _

end Go.Proofs.Ytjjipkgconmfcaa
