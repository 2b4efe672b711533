/-
  Texts laid together: FrD, FrL, G2.
-/
import Derived.ProofKit
import Derived.ReadAgain
import Derived.Deep.SlicePairs
import Derived.Deep.QuietTactic
import Derived.BigQuiet
import Derived.Test.YtjjipkgconmfcaaB918
import Derived.Test.YtjjipkgconmfcaaB916
import Derived.Test.YtjjipkgconmfcaaB917
import Derived.Test.YtjjipkgconmfcaaB919
import Derived.Test.YtjjipkgconmfcaaB91
set_option linter.all false
namespace Go.Proofs.Ytjjipkgconmfcaa
open Go.RowKit
open R6 (done done_ne done_me upd_ne upd_me)

attribute [local go_sem] gives

theorem quo_bnd {s a : Int} (hs : 0 ≤ s ∧ s ≤ 500000) (ha : 50 ≤ a) : 0 ≤ 500 * s / a ∧ 500 * s / a ≤ 250000000 :=
  ⟨Int.ediv_nonneg (by omega) (by omega), Int.le_trans (Int.ediv_le_self _ (by omega)) (by omega)⟩
theorem quo_wrap {s a : Int} (hs : 0 ≤ s ∧ s ≤ 500000) (ha : 50 ≤ a) : IntKind.i64.wrap ((500 * s).tdiv a) = 500 * s / a ∧ IntKind.i64.wrap (500 * s) = 500 * s := by
  have h := quo_bnd hs ha
  rw [Int.tdiv_eq_ediv_of_nonneg (by omega), IntKind.wrap_i64, IntKind.wrap_i64]
  generalize 500 * s / a = q at h ⊢
  omega

set_option maxRecDepth 100000 in
set_option maxHeartbeats 4000000 in
theorem rfTone_any (f : Fu) (hok : okFu f = true) (n : Nat) (hn : n < 2 ^ f.hs.length) (B : Nat) (w : World) (hB : B ≤ w.heap.size) (hz : FuAt w B f) :
    Calls Try.prog 54 #[.agg (fuc f).toArray, .int .u8 (n : Int)] w fun e w' => e = .returned (.agg #[.int .i64 (tonF f n).1, .int .i64 (tonF f n).2]) ∧ Below w.heap.size w w' := by
  obtain ⟨b1, b2, b3, b4, hl, b6⟩ := okFu_bnd hok
  have hab := airF_bnd hok hn
  obtain ⟨w1, hw1⟩ : ∃ w1, (w.alloc (.cells (fuc f).toArray 28)).alloc (.cells #[.int .i64 0, .int .i64 0] 25) = w1 := ⟨_, rfl⟩
  have hb1 : Below w.heap.size w w1 := by rw [← hw1]; exact ((Below.refl _ _).alloc (Nat.le_refl _) _).alloc (by simp) _
  have m0 : w1.heap[w.heap.size]? = some (.cells (fuc f).toArray 28 (0, 0)) := by rw [← hw1]; exact alloc2_at0 _ _ _
  have m1 : w1.heap[w.heap.size + 1]? = some (.cells #[.int .i64 0, .int .i64 0] 25 (0, 0)) := by rw [← hw1]; exact alloc2_at1 _ _ _
  have HA := Lib.hid (rfAir_any f hok n hn B w1 (Nat.le_trans hB hb1.size) (hz.below (hb1.mono hB)))
  have hcA := fun i => cell_of_row w1 w.heap.size i _ _ _ m0
  have hT0 : (tonF f n).1 = 500 * f.s0 / (airF f n).2 := rfl
  have hT1 : (tonF f n).2 = 500 * f.s1 / (airF f n).1 := rfl
  have H1 := Lib.hid (And.intro hb1 (And.intro m0 m1))
  rw [hT0, hT1]
  generalize (airF f n).1 = a0 at hab HA ⊢
  generalize (airF f n).2 = a1 at hab HA ⊢
  have x1 := b4.1
  have x2 := b4.2.1
  have x3 := b4.2.2
  have y1 := hab.1
  have y2 := hab.2.1
  have y3 := hab.2.2
  have y4 : a1 ≠ 0 := by omega
  have y5 : a0 ≠ 0 := by omega
  have y6 : 0 ≤ a0 := by omega
  have y7 : 0 ≤ a1 := by omega
  have HQ0 := Lib.hid (quo_wrap (s := f.s0) (a := a1) (by omega) (by omega))
  have HQ1 := Lib.hid (quo_wrap (s := f.s1) (a := a0) (by omega) (by omega))
  clear hz hb1 m0 m1 hT0 hT1 b1 b2 b3 b4 b6 hab hok
  unfold fuc at hw1 HA hcA ⊢
  go_enter Try.func54, Try.ntmps54
  go_wp2_with (go_at_call 85; refine HA.out.mono ?_; rintro e w2 ⟨rfl, hB2⟩; have H2 := Lib.hid hB2; clear hB2)
  obtain ⟨w3, hw3⟩ : ∃ w3, w2.alloc (.cells #[.int .i64 a0, .int .i64 a1] 25) = w3 := ⟨_, rfl⟩
  have hb3 : Below w1.heap.size w1 w3 := by rw [← hw3]; exact H2.out.alloc H2.out.size _
  have m3 : w3.heap[w2.heap.size]? = some (.cells #[.int .i64 a0, .int .i64 a1] 25 (0, 0)) := by rw [← hw3]; exact alloc_at0 _ _
  have h30 := (hb3.block _ (lt_of_heap H1.out.2.1)).trans H1.out.2.1
  have h31 := (hb3.block _ (lt_of_heap H1.out.2.2)).trans H1.out.2.2
  have hne : w.heap.size + 1 < w2.heap.size := Nat.lt_of_lt_of_le (lt_of_heap H1.out.2.2) H2.out.size
  have HM := Lib.hid (And.intro (H1.out.1.trans (hb3.mono H1.out.1.size)) (And.intro h30 (And.intro h31 (And.intro m3 hne))))
  rw [hw3]
  clear hb3 m3 h30 h31 hne hcA hw1 hw3
  refine R6.wp_walk (C := OneW w3 (w.heap.size + 1) (.cells #[.int .i64 0, .int .i64 0] 25 (0, 0)) (.cells #[.int .i64 (500 * f.s0 / a1), .int .i64 (500 * f.s1 / a0)] 25 (0, 0)) 15) 24 (by kernel_rfl) (by kernel_rfl) rfl (OneW.start HM.out.2.2.1 rfl) ?_
  simp only []
  iterate 15
    (refine' R6.WalkR.det (fun _ => rfl) (fun D ρ W hK hC => ?_) ?_
     rotate_left
     · have f0 := fun i => cell_of_row W w.heap.size i _ _ _ ((hC.other (lt_of_heap HM.out.2.1) (by omega)).trans HM.out.2.1)
       unfold fuc at f0
       have f1 := fun i => cell_of_row W w2.heap.size i _ _ _ ((hC.other (lt_of_heap HM.out.2.2.2.1) (by have := HM.out.2.2.2.2; omega)).trans HM.out.2.2.2.1)
       have HC := Lib.hid hC
       clear hC hK
       have q0 := HQ0.out.1
       have q1 := HQ0.out.2
       have q2 := HQ1.out.1
       have q3 := HQ1.out.2
       go_simp
       with_reducible exact ⟨rfl, HC.out.move rfl⟩
     simp only [Act.put, List.setIfInBounds_toArray, List.set_cons_succ, List.set_cons_zero])
  refine' R6.WalkR.det (c := undef) (fun _ => rfl) (fun D ρ W hK hC => ?_) ?_
  · have h7 := hC.no hK.me
    refine gives_store_blk 25 (.tmp 4) (.tmp 23) rfl rfl (cs := [.int .i64 (500 * f.s0 / a1), .int .i64 (500 * f.s1 / a0)]) (L := [.int .i64 0, .int .i64 0]) rfl h7 (Nat.le_refl 2) (by simp [Value.oneCell']) rowSpan ?_
    intro W1 hP hM
    exact ⟨rfl, hC.put hP hM⟩
  simp only [Act.put]
  refine R6.WalkR.nil (fun D ρ W hD hC => ?_)
  have hM7 := hC.yes (hD 15 (by decide))
  have hB7 := HM.out.1.grown hC.gb HM.out.1.size (fun k e => by cases e; omega)
  have H7 := Lib.hid (And.intro hM7 hB7)
  have hc7 := fun i => cell_of_row W (w.heap.size + 1) i _ _ _ hM7
  clear hC hD hM7 hB7
  go_wp2
  refine bodyPost_ret (v := .agg #[.int .i64 (500 * f.s0 / a1), .int .i64 (500 * f.s1 / a0)]) (by simp [results, Try.results54, go_sem, hc7]) rfl ⟨rfl, H7.out.2⟩

theorem own_btF2 {W : World} {base : Nat} {e : TypeId} {size n : Nat} {v : Value} {xs : List Value} (h : W.ownsRow base e size v n xs) {b : Nat} (hb : v.ownBlock = some b) : base ≤ b := by
  rcases h.2 with ⟨rfl, _⟩ | ⟨g, cap, cur, rfl, h2, h3, _⟩
  · cases hb
  · simp only [Value.ownBlock, Option.some.injEq] at hb
    omega
def FinPostR (w : World) (f : Fu) (o : Int × Int) (e : Ending) (w' : World) : Prop := ∃ v, e = .returned (.tuple #[v, .int .i64 (finE f o)]) ∧ OwnU w' w.heap.size v (finL f o) ∧ Below w.heap.size w w'

set_option maxRecDepth 100000 in
set_option maxHeartbeats 8000000 in
theorem rfFingers_any (w : World) (f : Fu) (hl12 : f.hs.length ≤ 12) (hv : ∀ W, Below w.heap.size w W → Calls Try.prog 37 #[.agg (fuc f).toArray] W fun e w' => e = .returned (.bool (okFu f)) ∧ Below W.heap.size W w') (o : Int × Int) (B : Nat) (hB : B ≤ w.heap.size) (hz : FuAt w B f) :
    Calls Try.prog 28 #[.agg (fuc f).toArray, .agg #[.int .i64 o.1, .int .i64 o.2]] w (FinPostR w f o) := by
  unfold FinPostR finE finL
  obtain ⟨o0, o1⟩ := o
  dsimp only
  obtain ⟨w1, hw1⟩ : ∃ w1, (w.alloc (.cells (fuc f).toArray 28)).alloc (.cells #[.int .i64 o0, .int .i64 o1] 25) = w1 := ⟨_, rfl⟩
  have hb1 : Below w.heap.size w w1 := by rw [← hw1]; exact ((Below.refl _ _).alloc (Nat.le_refl _) _).alloc (by simp) _
  have m0 : w1.heap[w.heap.size]? = some (.cells (fuc f).toArray 28 (0, 0)) := by rw [← hw1]; exact alloc2_at0 _ _ _
  have m1 : w1.heap[w.heap.size + 1]? = some (.cells #[.int .i64 o0, .int .i64 o1] 25 (0, 0)) := by rw [← hw1]; exact alloc2_at1 _ _ _
  have HFV := Lib.hid (hv w1 hb1)
  have HNO := Lib.hid (fun W => rfNote_any o0 o1 W)
  have hno : okNo (o0, o1) = okS o0 o1 1 10000000 := rfl
  have hcf := fun (W : World) (hW : Below w1.heap.size w1 W) => And.intro (fun i => cell_of_row W w.heap.size i _ _ _ ((hW.block _ (lt_of_heap m0)).trans m0)) (fun i => cell_of_row W (w.heap.size + 1) i _ _ _ ((hW.block _ (lt_of_heap m1)).trans m1))
  have hton := fun (hok : okFu f = true) n (hn : n < 2 ^ f.hs.length) W (hW : Below w1.heap.size w1 W) => rfTone_any f hok n hn B W (Nat.le_trans hB (Nat.le_trans hb1.size hW.size)) ((hz.below (hb1.mono hB)).below (hW.mono (Nat.le_trans hB hb1.size)))
  have hlen := fun (hok : okFu f = true) => (okFu_bnd hok).2.2.2.2.1
  have H1 := Lib.hid hb1
  rw [hno]
  clear hz hb1 m0 m1 hno hv
  unfold fuc at hw1 HFV hton hcf ⊢
  have HCF := Lib.hid hcf
  obtain ⟨hc0, hc1⟩ := HCF.out w1 (Below.refl _ _)
  clear hcf
  generalize okS o0 o1 1 10000000 = v2 at HNO ⊢
  generalize okFu f = v1 at HFV hton hlen ⊢
  have HTN := Lib.hid hton
  have HLN := Lib.hid hlen
  clear hton hlen
  cases v1
  · go_enter Try.func28, Try.ntmps28
    go_wp2_with (go_at_call 37; refine HFV.out.mono ?_; rintro e w2 ⟨rfl, hB2⟩; have H2 := Lib.hid hB2; clear hB2 hc0 hc1)
    go_ret2
    exact ⟨_, rfl, ownU_none _ _, H1.out.trans (H2.out.mono H1.out.size)⟩
  cases v2
  · go_enter Try.func28, Try.ntmps28
    go_wp2_with (first
      | (go_at_call 37; refine HFV.out.mono ?_; rintro e w2 ⟨rfl, hB2⟩; obtain ⟨hc2, hc3⟩ := HCF.out w2 hB2; have H2 := Lib.hid hB2; clear hB2 hc0 hc1)
      | (go_at_call 33; refine (HNO.out _).mono ?_; rintro e w3 ⟨rfl, hB3⟩; have H3 := Lib.hid (H2.out.trans (hB3.mono H2.out.size)); clear hB3 hc2 hc3))
    go_ret2
    exact ⟨_, rfl, ownU_none _ _, H1.out.trans (H3.out.mono H1.out.size)⟩
  have hl8 := HLN.out (by first | trivial | rfl)
  have htn := HTN.out (by first | trivial | rfl)
  obtain ⟨N, hN⟩ : ∃ N, N = 2 ^ f.hs.length := ⟨_, rfl⟩
  have hN8 : N ≤ 256 := by rw [hN]; exact Nat.pow_le_pow_right (n := 2) (by omega) hl8
  have hNz : ((2 : Int) ^ f.hs.length) = (N : Int) := by rw [hN]; simp
  have hNw : wrap64 ((2 : Int) ^ f.hs.length) = (N : Int) := by rw [hNz]; unfold wrap64; omega
  have hlz : (f.hs.length : Int) ≤ 8 := by omega
  rw [← hN] at htn ⊢
  have HT := Lib.hid htn
  have HNW := Lib.hid hNw
  clear HTN HLN htn hN hNz hNw
  have hNi : (N : Int) ≤ 256 := by omega
  go_enter Try.func28, Try.ntmps28
  go_wp2_with (first
    | (go_at_call 37; refine HFV.out.mono ?_; rintro e w2 ⟨rfl, hB2⟩; obtain ⟨hc2, hc3⟩ := HCF.out w2 hB2; have H2 := Lib.hid hB2; clear hB2 hc0 hc1)
    | (go_at_call 33; refine (HNO.out _).mono ?_; rintro e w3 ⟨rfl, hB3⟩; obtain ⟨hc4, hc5⟩ := HCF.out w3 (H2.out.trans (hB3.mono H2.out.size)); have H3 := Lib.hid (H2.out.trans (hB3.mono H2.out.size)); clear hB3 hc2 hc3))
  go_loopg [6, 7] N (fun gg s6 s7 wx => ∃ (k : Nat) (v : Value), k + gg = N ∧ s6 = v ∧ s7 = .int .i64 k ∧ Hid (OwnU wx w1.heap.size v (fingZ f (o0, o1) (List.range k))) ∧ Hid (Below w1.heap.size w1 wx))
  case atStart => exact ⟨0, _, by omega, rfl, rfl, ownU_none _ _, H3.out⟩
  case round =>
    obtain ⟨k, v, hkg, hs6, rfl, hU, hBr⟩ := hrel
    obtain rfl := hs6.symm
    have hws := hBr.out.size
    clear hc4 hc5
    obtain ⟨hcA, hcB⟩ := HCF.out wr hBr.out
    cases gk with
    | zero =>
      obtain rfl : k = N := by omega
      have hNw := HNW.out
      go_wp2
      go_ret2
      exact ⟨v, rfl, own_base hU.out H1.out.size, H1.out.trans (hBr.out.mono H1.out.size)⟩
    | succ gg =>
      have hk : k < N := by omega
      have hkz : (k : Int) < N := by omega
      have hk8 : IntKind.u8.wrap (k : Int) = k := by rw [IntKind.wrap_u8]; omega
      have hNw := HNW.out
      have HTK := Lib.hid (fun W hW => HT.out k hk W hW)
      have hPL := fun W => rfPlays_any (tonF f k).1 (tonF f k).2 o0 o1 W
      have HPL := Lib.hid hPL
      have hp2 : (plaF ((tonF f k).1, (tonF f k).2) (o0, o1) == 2) = insB (o0, o1) (tonF f k) := plaF_two _ _
      have hsn := fingZ_snoc f (o0, o1) (List.range k) k
      rw [← List.range_succ] at hsn
      have hln := fingZ_len f (o0, o1) (List.range k)
      rw [List.length_range] at hln
      generalize fingZ f (o0, o1) (List.range k) = M at hU hsn hln
      generalize plaF ((tonF f k).1, (tonF f k).2) (o0, o1) = pv at HPL hp2
      have HSN := Lib.hid hsn
      clear hPL hsn
      cases hin : insB (o0, o1) (tonF f k)
      all_goals
        rw [hin] at hp2 HSN
        clear hin
        go_wp2
        refine R6.wp_walk (C := fun _ _ W => Below wr.heap.size wr W) 35 (by kernel_rfl) (by kernel_rfl) rfl (Below.refl _ _).drew ?_
        simp only []
        repeat (first
          | (refine' R6.WalkR.det (fun _ => rfl) (fun D ρ W hK hC => ?_) ?_
             rotate_left
             · obtain ⟨f0, f1⟩ := HCF.out W (hBr.out.trans (hC.mono hws))
               have HC := Lib.hid hC
               clear hC hK
               go_simp
               first
                 | with_reducible exact ⟨rfl, HC.out⟩
                 | (go_at_call 54; refine (HTK.out W (hBr.out.trans (HC.out.mono hws))).mono ?_; rintro e W1 ⟨rfl, hB1⟩; exact ⟨_, rfl, rfl, HC.out.trans (hB1.mono HC.out.size)⟩)
                 | (go_at_call 53; refine (HPL.out W).mono ?_; rintro e W1 ⟨rfl, hB1⟩; exact ⟨_, rfl, rfl, HC.out.trans (hB1.mono HC.out.size)⟩)
             simp only [Act.put, List.setIfInBounds_toArray, List.set_cons_succ, List.set_cons_zero]))
        refine R6.WalkR.nil (fun D ρ w9 hD hC => ?_)
        have H9 := Lib.hid hC
        have hw9 := hC.size
        clear hC hD hcA hcB hNw hp2
      · go_wp2
        go_roundg gg
        case measure => omega
        case rel => exact ⟨k + 1, v, by omega, rfl, by go_num, by rw [HSN.out, if_neg (by simp), List.append_nil]; exact own_grows hU.out H9.out, hBr.out.trans (H9.out.mono hws)⟩
      · obtain ⟨i0, hi, hz0, hz1, hz2⟩ := info_parts infoU8
        have HF := Lib.hid (And.intro hi (And.intro hz0 (And.intro hz1 hz2)))
        obtain ⟨wx, hwx⟩ : ∃ wx, w9.alloc (.cells #[.int .u8 (k : Int)] 5) = wx := ⟨_, rfl⟩
        have hbx : Below w9.heap.size w9 wx := by rw [← hwx]; exact grow1 _ _
        have hvn : Vals wx (w9.heap.size + 1) (some ⟨w9.heap.size, 0, none⟩) [.int .u8 (k : Int)] := by rw [← hwx]; exact vals_new (alloc_at0 _ _) (by omega)
        have hox := own_grows (own_grows hU.out H9.out) hbx
        have HX := Lib.hid (And.intro hbx (And.intro hvn hox))
        clear hi hz0 hz1 hz2 hbx hvn hox
        go_wp2_with
          (at_builtin
           refine wpl_app (by rfl) (.tmp 29) (.tmp 32) 52 (by rfl) w1.heap.size 5 i0 _ 1 1 Try.underlying52 HF.out.1 HF.out.2.1 HF.out.2.2.1 HF.out.2.2.2 rfl (by omega) v M.length (u8s M) (by rfl) HX.out.2.2
             (w9.heap.size + 1) (some ⟨w9.heap.size, 0, none⟩) 1 1 [.int .u8 (k : Int)] (by rfl) HX.out.2.1 rfl (by simp [Value.oneCell']) (by simp only [maxLen]; omega) (by omega) (by have := HX.out.1.size; omega) ?_
           intro v9 w10 hown hgrow _
           have hBW : Below w1.heap.size w1 w10 := (hBr.out.trans ((H9.out.trans (HX.out.1.mono hw9)).mono hws)).grown hgrow (by have := HX.out.1.size; omega) (fun k' e => (own_btF2 HX.out.2.2 e))
           have H10 := Lib.hid (And.intro hown hBW)
           clear hown hgrow hBW)
        go_roundg gg
        case measure => omega
        case rel =>
          refine ⟨k + 1, v9, by omega, rfl, by go_num, ?_, H10.out.2⟩
          rw [HSN.out, if_pos (by simp)]
          have e2 : u8s (M ++ [(k : Int)]) = u8s M ++ [.int .u8 (k : Int)] := by simp [u8s]
          show OwnU _ _ _ _
          unfold OwnU
          rw [List.length_append, e2]
          exact H10.out.1

end Go.Proofs.Ytjjipkgconmfcaa

namespace Go.Proofs.Ytjjipkgconmfcaa
open Go.RowKit

theorem great_small {f : Fu} {b : Bk} {n : Int} (h : greatF f b n = false) : f.hs.length ≤ 12 ∧ b.zs.length ≤ 20 ∧ n ≤ 15 := by
  simp only [greatF, Bool.or_eq_false_iff, decide_eq_false_iff_not] at h
  omega

set_option maxRecDepth 100000 in
theorem conv_v {W : World} {B : Nat} {v : Value} {zs : List Int} (h : OwnU W B v zs) : (convert 52 9 v).run Try.prog W = .ok (.string (strOfNums zs)) W := by
  rcases h.2 with ⟨rfl, h0⟩ | ⟨g, cap, cur, rfl, _⟩
  · have hz : zs = [] := List.eq_nil_of_length_eq_zero h0
    subst hz
    exact conv_u8 (A := none) (c := 0) h
  · exact conv_u8 h

set_option maxRecDepth 100000 in
set_option maxHeartbeats 8000000 in
theorem fluteFingers_some (f : Fu) (hl : f.hs.length ≤ 1000000) (o : Int × Int) (B : Nat) (w : World) (hB : B ≤ w.heap.size) (hz : FuAt w B f) :
    Calls Try.prog 4 #[.agg (fuc f).toArray, .agg #[.int .i64 o.1, .int .i64 o.2]] w fun e w' => e = .returned (.bool true) ∧ Below w.heap.size w w' := by
  obtain ⟨o0, o1⟩ := o
  dsimp only
  obtain ⟨w1, hw1⟩ : ∃ w1, (w.alloc (.cells (fuc f).toArray 28)).alloc (.cells #[.int .i64 o0, .int .i64 o1] 25) = w1 := ⟨_, rfl⟩
  have hb1 : Below w.heap.size w w1 := by rw [← hw1]; exact ((Below.refl _ _).alloc (Nat.le_refl _) _).alloc (by simp) _
  have m0 : w1.heap[w.heap.size]? = some (.cells (fuc f).toArray 28 (0, 0)) := by rw [← hw1]; exact alloc2_at0 _ _ _
  have m1 : w1.heap[w.heap.size + 1]? = some (.cells #[.int .i64 o0, .int .i64 o1] 25 (0, 0)) := by rw [← hw1]; exact alloc2_at1 _ _ _
  have hz1 := hz.below (hb1.mono hB)
  have hB1 := Nat.le_trans hB hb1.size
  have hgr := fun W => rfGreat_any f bk0 0 W
  have hsm : greatF f bk0 0 = false → f.hs.length ≤ 12 := fun h => (great_small h).1
  generalize greatF f bk0 0 = v0 at hgr hsm
  have HGR := Lib.hid hgr
  have HSM := Lib.hid hsm
  clear hgr hsm
  have hcf := fun (W : World) (hW : Below w1.heap.size w1 W) => And.intro (fun i => cell_of_row W w.heap.size i _ _ _ ((hW.block _ (lt_of_heap m0)).trans m0)) (fun i => cell_of_row W (w.heap.size + 1) i _ _ _ ((hW.block _ (lt_of_heap m1)).trans m1))
  have HTW := Lib.hid (fun W (hW : Below w1.heap.size w1 W) => rfTwin_any f hl B W (Nat.le_trans hB1 hW.size) (hz1.below (hW.mono hB1)))
  have hfi : ∀ A' c' B' W (_ : B' ≤ W.heap.size) (_ : FuAt W B' (fuAt' f A' c')), Calls Try.prog 27 #[.agg (fuc (fuAt' f A' c')).toArray, .agg #[.int .i64 o0, .int .i64 o1]] W (FinPost W f (o0, o1)) := fun A' c' B' W hB' hz' => fingers_any (fuAt' f A' c') hl (o0, o1) B' W hB' hz'
  have hfr : ∀ (hl12 : f.hs.length ≤ 12) W (hW : Below w1.heap.size w1 W), Calls Try.prog 28 #[.agg (fuc f).toArray, .agg #[.int .i64 o0, .int .i64 o1]] W (FinPost W f (o0, o1)) := fun hl12 W (hW : Below w1.heap.size w1 W) => rfFingers_any W f hl12 (fun W2 hW2 => rfFlute_any f hl B W2 (Nat.le_trans hB1 (Nat.le_trans hW.size hW2.size)) ((hz1.below (hW.mono hB1)).below (hW2.mono (Nat.le_trans hB1 hW.size)))) (o0, o1) B (Nat.le_trans hB1 hW.size) (hz1.below (hW.mono hB1))
  unfold FinPost at hfi hfr
  generalize finE f (o0, o1) = er at hfi hfr
  generalize finL f (o0, o1) = L at hfi hfr
  have HFI := Lib.hid hfi
  have HFR := Lib.hid hfr
  clear hfi hfr
  have HSA := Lib.hid (fun A' c' B' W (hW : Below w1.heap.size w1 W) hB' hz' => rfSame_any f A' c' hl B B' W (Nat.le_trans hB1 hW.size) hB' (hz1.below (hW.mono hB1)) hz')
  have H1 := Lib.hid hb1
  clear hz hb1 m0 m1 hz1
  unfold TwinPostF at HTW
  unfold fuc bkc bk0 at HGR
  dsimp only [List.length_nil] at HGR
  unfold fuc at hw1 hcf HTW HFI HFR HSA ⊢
  unfold fuAt' at HTW HFI HSA
  dsimp only at HTW HFI HSA
  have HCF := Lib.hid hcf
  obtain ⟨hc0, hc1⟩ := HCF.out w1 (Below.refl _ _)
  clear hcf
  cases v0
  · have hl12 := HSM.out rfl
    go_enter Try.func4, Try.ntmps4
    go_wp2_with (first
      | (go_at_call 25; refine (HGR.out _).mono ?_; rintro e w2 ⟨rfl, hB2⟩; obtain ⟨hc2, hc3⟩ := HCF.out w2 hB2; have H2 := Lib.hid hB2; clear hB2 hc0 hc1)
      | (go_at_call 26
         refine (HTW.out _ H2.out).mono ?_
         rintro e w3 ⟨g, c, rfl, hF3, hg3, hB3⟩
         obtain ⟨w4, hw4⟩ : ∃ w4, w3.alloc (.cells #[.int .i64 f.len, .int .i64 f.e0, .int .i64 f.e1, .int .i64 f.c0, .int .i64 f.c1, .int .i64 f.s0, .int .i64 f.s1, .slice (some ⟨g, 0, none⟩) f.hs.length c] 28) = w4 := ⟨_, rfl⟩
         have hb4 : Below w3.heap.size w3 w4 := by rw [← hw4]; exact grow1 _ _
         have m4 : w4.heap[w3.heap.size]? = some (.cells #[.int .i64 f.len, .int .i64 f.e0, .int .i64 f.e1, .int .i64 f.c0, .int .i64 f.c1, .int .i64 f.s0, .int .i64 f.s1, .slice (some ⟨g, 0, none⟩) f.hs.length c] 28 (0, 0)) := by rw [← hw4]; exact alloc_at0 _ _
         have hB4 := H2.out.trans ((hB3.trans (hb4.mono hB3.size)).mono H2.out.size)
         obtain ⟨hc4, hc5⟩ := HCF.out w4 hB4
         have hc6 := fun i => cell_of_row w4 w3.heap.size i _ _ _ m4
         have hF4 := hF3.below hb4
         have H4 := Lib.hid (And.intro hB4 (And.intro m4 (And.intro hF4 hb4.size)))
         clear hF3 hg3 hB3 hb4 m4 hB4 hF4 hc2 hc3)
      | (go_at_call 27
         refine (HFI.out _ _ _ _ H4.out.2.2.2 H4.out.2.2.1).mono ?_
         rintro e w5 ⟨v, rfl, hU, hB5⟩
         have hB5' := H4.out.1.trans (hB5.mono H4.out.1.size)
         obtain ⟨hc7, hc8⟩ := HCF.out w5 hB5'
         have H5 := Lib.hid (And.intro hU (And.intro hB5 hB5'))
         clear hU hB5 hB5' hc4 hc5 hc6 hw4)
      | (go_at_call 28
         refine (HFR.out hl12 _ H5.out.2.2).mono ?_
         rintro e w6 ⟨u, rfl, hU, hB6⟩
         have hB6' := H5.out.2.2.trans (hB6.mono H5.out.2.2.size)
         obtain ⟨hc9, hc10⟩ := HCF.out w6 hB6'
         have hgg := H5.out.2.1.trans (hB6.mono H5.out.2.1.size)
         have hc11 := fun i => cell_of_row w6 w3.heap.size i _ _ _ ((hgg.block _ (lt_of_heap H4.out.2.1)).trans H4.out.2.1)
         have hcv1 := conv_v (own_grows H5.out.1 hB6)
         have hcv2 := conv_v hU
         have H6 := Lib.hid (And.intro hgg hB6')
         clear hU hB6 hB6' hgg hc7 hc8)
      | (go_at_call 18
         refine (HSA.out _ _ _ _ H6.out.2 (Nat.le_trans H4.out.2.2.2 H6.out.1.size) (H4.out.2.2.1.below (H6.out.1.mono H4.out.2.2.2))).mono ?_
         rintro e w7 ⟨rfl, hB7⟩
         have H7 := Lib.hid (H6.out.2.trans (hB7.mono H6.out.2.size))
         clear hB7 hc9 hc10 hc11 hcv1 hcv2))
    go_ret
    exact ⟨rfl, H1.out.trans (H7.out.mono H1.out.size)⟩
  · go_enter Try.func4, Try.ntmps4
    go_wp2_with (go_at_call 25; refine (HGR.out _).mono ?_; rintro e w2 ⟨rfl, hB2⟩; have H2 := Lib.hid hB2; clear hB2 hc0 hc1)
    go_ret
    exact ⟨rfl, H1.out.trans (H2.out.mono H1.out.size)⟩

set_option maxRecDepth 100000 in
set_option maxHeartbeats 8000000 in
theorem fluteFingers_law (f : Fu) (o : Int × Int) (B : Nat) (w : World) (hB : B ≤ w.heap.size) (hz : FuAt w B f) :
    Calls Try.prog 4 #[.agg (fuc f).toArray, .agg #[.int .i64 o.1, .int .i64 o.2]] w fun e w' => e = .returned (.bool true) ∧ Below w.heap.size w w' := by
  by_cases h12 : f.hs.length ≤ 12
  · exact fluteFingers_some f (by omega) o B w hB hz
  have hgt : greatF f bk0 0 = true := by simp [greatF]; omega
  have hgr := fun W => rfGreat_any f bk0 0 W
  rw [hgt] at hgr
  clear hgt hz
  obtain ⟨o0, o1⟩ := o
  dsimp only
  obtain ⟨w1, hw1⟩ : ∃ w1, (w.alloc (.cells (fuc f).toArray 28)).alloc (.cells #[.int .i64 o0, .int .i64 o1] 25) = w1 := ⟨_, rfl⟩
  have hb1 : Below w.heap.size w w1 := by rw [← hw1]; exact ((Below.refl _ _).alloc (Nat.le_refl _) _).alloc (by simp) _
  have m0 : w1.heap[w.heap.size]? = some (.cells (fuc f).toArray 28 (0, 0)) := by rw [← hw1]; exact alloc2_at0 _ _ _
  have hc0 := fun i => cell_of_row w1 w.heap.size i _ _ _ m0
  have H1 := Lib.hid hb1
  have HGR := Lib.hid hgr
  clear hb1 m0 hgr h12
  unfold fuc bkc bk0 at HGR
  dsimp only [List.length_nil] at HGR
  unfold fuc at hw1 hc0 ⊢
  go_enter Try.func4, Try.ntmps4
  go_wp2_with (go_at_call 25; refine (HGR.out _).mono ?_; rintro e w2 ⟨rfl, hB2⟩; have H2 := Lib.hid hB2; clear hB2 hc0)
  go_ret
  exact ⟨rfl, H1.out.trans (H2.out.mono H1.out.size)⟩

end Go.Proofs.Ytjjipkgconmfcaa

namespace Go.Proofs.Ytjjipkgconmfcaa
open Go.ChangeShapes Go.WideShapes Go.ChangeAt Go.RowKit Go.Deep

section
variable {H : Type} {enc : TypeId × Value → H} {w : World} {base : Nat} {spare : Nat → Bool} {held : Bool}

theorem open_int_raw {fuel : Nat} {c : Value} {x : DataW H × List MemPlace} (h : DataW.trod enc Try.prog w base spare held fuel 3 [c] = some x) : ∃ n : Int, c = .int .i64 n := by
  obtain ⟨n, hc, _, _⟩ := DataW.trod_int Try.underlying3 h
  simp only [List.cons.injEq, and_true] at hc
  exact ⟨n, hc⟩

theorem lt_of_cell {w : World} {a : Addr} {v : Value} (h : w.cell? a = some v) : a.block < w.heap.size := by
  obtain ⟨o, ho, _⟩ := cells_of_cell h
  exact (Array.getElem?_eq_some_iff.1 ho).1

theorem open_ints_raw {fuel : Nat} {c : Value} {x : DataW H × List MemPlace} (h : DataW.trod enc Try.prog w base spare held fuel 32 [c] = some x) :
    ∃ (A : Option Addr) (zs : List Int) (cap : Nat), c = .slice A zs.length cap ∧ zs.length ≤ cap ∧ zs.length ≤ maxLen ∧ Ints w w.heap.size A zs := by
  rcases open_ints Try.underlying32 Try.underlying3 (by kernel_rfl) h with ⟨hc, _⟩ | ⟨a, len, cap, zs, hc, _, hl, hm, hz, _, hcell, _⟩
  · simp only [List.cons.injEq, and_true] at hc
    exact ⟨none, [], 0, hc, Nat.le_refl _, by simp, fun h => by simp at h⟩
  · simp only [List.cons.injEq, and_true] at hc
    have hle : len ≤ zs.length := by rw [hz]; split <;> omega
    have hl2 : (zs.take len).length = len := by simp; omega
    refine ⟨some a, zs.take len, cap, by rw [hl2]; exact hc, by rw [hl2]; exact hl, by rw [hl2]; omega, fun h0 => ?_⟩
    rw [hl2] at h0 ⊢
    have h1 := hcell 0 (by omega)
    obtain ⟨b, off, spot⟩ := a
    have hs1 : spot = none := by
      have e0 : (⟨b, off, spot⟩ : Addr).add 0 = ⟨b, off, spot⟩ := by simp [Addr.add]
      rw [e0] at h1
      exact World.cell?_spot h1
    subst hs1
    rw [Addr.add_mid] at h1
    refine ⟨b, off, rfl, lt_of_cell h1, fun k hk => ?_⟩
    have h2 := hcell k (by omega)
    rw [Addr.add_mid] at h2
    rw [h2]
    simp [hk, List.getD]

theorem cellsI : Try.prog.cellsOf 3 = 1 := by kernel_rfl

theorem cellsSp : Try.prog.cellsOf 25 = 2 := by kernel_rfl

theorem cellsSl : Try.prog.cellsOf 32 = 1 := by kernel_rfl

theorem open_spans_raw {fuel : Nat} {c : Value} {x : DataW H × List MemPlace} (h : DataW.trod enc Try.prog w base spare held fuel 41 [c] = some x) :
    ∃ (A : Option Addr) (ss : List (Int × Int)) (cap : Nat), c = .slice A ss.length cap ∧ ss.length ≤ maxLen ∧ Vals w w.heap.size A (pairs ss) := by
  rcases open_slice_pairs Try.underlying41 Try.underlying25 (by kernel_rfl) rfl rfl (by kernel_rfl) (by kernel_rfl) h with ⟨hc, _⟩ | ⟨a, len, cap, m, n, V0, V1, D0, D1, P0, P1, hc, _, hl, hm, hmm, _, hi⟩
  · simp only [List.cons.injEq, and_true] at hc
    exact ⟨none, [], 0, hc, by simp, fun h => by simp [pairs] at h⟩
  · simp only [List.cons.injEq, and_true] at hc
    have hle : len ≤ m := by rw [hmm]; split <;> omega
    have hv : ∀ i, i < len → ∃ p : Int × Int, w.cell? (a.add (i * 2)) = some (.int .i64 p.1) ∧ w.cell? (a.add (i * 2 + 1)) = some (.int .i64 p.2) := fun i h => by
      obtain ⟨h1, h2, h3, h4⟩ := hi i (by omega)
      obtain ⟨x, hx⟩ := open_int_raw h3
      obtain ⟨y, hy⟩ := open_int_raw h4
      exact ⟨(x, y), by rw [h1, hx], by rw [h2, hy]⟩
    obtain ⟨f, hf⟩ : ∃ f : Nat → Int × Int, ∀ i, i < len → w.cell? (a.add (i * 2)) = some (.int .i64 (f i).1) ∧ w.cell? (a.add (i * 2 + 1)) = some (.int .i64 (f i).2) :=
      ⟨fun i => if h : i < len then (hv i h).choose else (0, 0), fun i h => by simp only [h, dif_pos]; exact (hv i h).choose_spec⟩
    have hl2 : ((List.range len).map f).length = len := by simp
    refine ⟨some a, (List.range len).map f, cap, by rw [hl2]; exact hc, by rw [hl2]; omega, fun h0 => ?_⟩
    rw [pairs_len, hl2] at h0
    have h1 := (hf 0 (by omega)).1
    obtain ⟨b, off, spot⟩ := a
    have hs1 : spot = none := by
      have e0 : (⟨b, off, spot⟩ : Addr).add (0 * 2) = ⟨b, off, spot⟩ := by simp [Addr.add]
      rw [e0] at h1
      exact World.cell?_spot h1
    subst hs1
    rw [Addr.add_mid] at h1
    refine ⟨b, off, rfl, lt_of_cell h1, fun j u hj => ?_⟩
    have hjl : j < (pairs ((List.range len).map f)).length := (List.getElem?_eq_some_iff.1 hj).1
    rw [pairs_len, hl2] at hjl
    have hk : j / 2 < len := by omega
    have hp := pairs_at ((List.range len).map f) (j / 2) (by rw [hl2]; exact hk)
    have hq := hf (j / 2) hk
    rw [Addr.add_mid, Addr.add_mid] at hq
    have hg : ((List.range len).map f)[j / 2]?.getD (0, 0) = f (j / 2) := by simp [hk]
    rw [hg] at hp
    rcases Nat.mod_two_eq_zero_or_one j with hm2 | hm2
    · rw [show j = j / 2 * 2 by omega] at hj ⊢
      rw [hp.1] at hj
      rw [← hj]; exact hq.1
    · rw [show j = j / 2 * 2 + 1 by omega] at hj ⊢
      rw [hp.2] at hj
      rw [← hj]; exact hq.2

set_option maxRecDepth 100000 in
theorem open_spans_arg {r : Reach} {b0 : Nat} {v : Value} {d : DataW H} {p : List MemPlace} (hv : Value.okWide Try.prog w r b0 41 v) (h : DataW.Trod enc Try.prog w base spare held 41 v d p) :
    ∃ (A : Option Addr) (ss : List (Int × Int)) (cap : Nat), v = .slice A ss.length cap ∧ ss.length ≤ maxLen ∧ Vals w w.heap.size A (pairs ss) := by
  obtain ⟨a, len, cap, rfl⟩ := okWide_slice Try.underlying41 hv
  obtain ⟨fuel, hf⟩ := h
  exact open_spans_raw hf

theorem open_u32s_raw {fuel : Nat} {c : Value} {x : DataW H × List MemPlace} (h : DataW.trod enc Try.prog w base spare held fuel 64 [c] = some x) :
    ∃ (A : Option Addr) (zs : List Int) (cap : Nat), c = .slice A zs.length cap ∧ zs.length ≤ maxLen ∧ ByAt w w.heap.size A zs := by
  rcases open_ints Try.underlying64 Try.underlying74 (by kernel_rfl) h with ⟨hc, _⟩ | ⟨a, len, cap, zs, hc, _, hl, hm, hz, _, hcell, hwf⟩
  · simp only [List.cons.injEq, and_true] at hc
    exact ⟨none, [], 0, hc, by simp, ⟨fun h => by simp [u32s] at h, fun k hk => absurd hk (by simp), by simp⟩⟩
  · simp only [List.cons.injEq, and_true] at hc
    have hle : len ≤ zs.length := by rw [hz]; split <;> omega
    have hl2 : (zs.take len).length = len := by simp; omega
    have hmx : maxLen ≤ 9223372036854775807 := by simp [maxLen]
    refine ⟨some a, zs.take len, cap, by rw [hl2]; exact hc, by rw [hl2]; omega, ⟨fun h0 => ?_, fun k hk => ?_, by rw [hl2]; omega⟩⟩
    · have h0' : 0 < len := by simp [u32s] at h0; omega
      have h1 := hcell 0 (by omega)
      obtain ⟨b, off, spot⟩ := a
      have hs1 : spot = none := by
        have e0 : (⟨b, off, spot⟩ : Addr).add 0 = ⟨b, off, spot⟩ := by simp [Addr.add]
        rw [e0] at h1
        exact World.cell?_spot h1
      subst hs1
      rw [Addr.add_mid] at h1
      refine ⟨b, off, rfl, lt_of_cell h1, fun k v hk => ?_⟩
      have hkl : k < len := by
        have := (List.getElem?_eq_some_iff.1 hk).1
        simp [u32s] at this
        omega
      have h2 := hcell k (by omega)
      rw [Addr.add_mid] at h2
      rw [h2]
      simp only [u32s, List.getElem?_map, List.getElem?_take, hkl, if_true] at hk
      have hkz : k < zs.length := by omega
      simp only [List.getElem?_eq_getElem hkz, Option.map_some, Option.some.injEq] at hk
      rw [← hk]
      simp [List.getD, hkz]
    · rw [hl2] at hk
      have hkz : k < zs.length := by omega
      have := hwf zs[k] (List.getElem_mem hkz)
      simp only [List.getElem?_take, hk, if_true, List.getElem?_eq_getElem hkz, Option.getD_some]
      simp [Lit.wf, IntKind.min, IntKind.max, IntKind.signed, IntKind.bits] at this
      omega

set_option maxRecDepth 100000 in
theorem open_u32s_arg {r : Reach} {b0 : Nat} {v : Value} {d : DataW H} {p : List MemPlace} (hv : Value.okWide Try.prog w r b0 64 v) (h : DataW.Trod enc Try.prog w base spare held 64 v d p) :
    ∃ (A : Option Addr) (zs : List Int) (cap : Nat), v = .slice A zs.length cap ∧ zs.length ≤ maxLen ∧ ByAt w w.heap.size A zs := by
  obtain ⟨a, len, cap, rfl⟩ := okWide_slice Try.underlying64 hv
  obtain ⟨fuel, hf⟩ := h
  exact open_u32s_raw hf

set_option maxRecDepth 100000 in
theorem open_ints_arg2 {r : Reach} {b0 : Nat} {v : Value} {d : DataW H} {p : List MemPlace} (hv : Value.okWide Try.prog w r b0 32 v) (h : DataW.Trod enc Try.prog w base spare held 32 v d p) :
    ∃ (A : Option Addr) (zs : List Int) (cap : Nat), v = .slice A zs.length cap ∧ zs.length ≤ maxLen ∧ zs.length ≤ cap ∧ Ints w w.heap.size A zs := by
  obtain ⟨a, len, cap, rfl⟩ := okWide_slice Try.underlying32 hv
  obtain ⟨fuel, hf⟩ := h
  obtain ⟨A, zs, q, h1, h0, h2, h3⟩ := open_ints_raw hf
  exact ⟨A, zs, q, h1, h2, h0, h3⟩

theorem open_span_raw {fuel : Nat} {c0 c1 : Value} {x : DataW H × List MemPlace} (h : DataW.trod enc Try.prog w base spare held fuel 25 [c0, c1] = some x) :
    ∃ lo hi : Int, c0 = .int .i64 lo ∧ c1 = .int .i64 hi := by
  obtain ⟨zs, n', _, _, _, hlen', hg'⟩ := DataW.trod_struct Try.underlying25 h
  have at2 : ∀ i, i < zs.length → ∃ y, zs[i]? = some y := fun i hi => ⟨_, List.getElem?_eq_getElem hi⟩
  have hlen2 : zs.length = 2 := hlen'
  obtain ⟨z0, hz0⟩ := at2 0 (by omega)
  obtain ⟨z1, hz1⟩ := at2 1 (by omega)
  have k0 : DataW.trod enc Try.prog w base spare held n' 3 ((List.drop 0 [c0, c1]).take (Try.prog.cellsOf 3)) = some z0 := (hg' 0 _ rfl).trans hz0
  have k1 : DataW.trod enc Try.prog w base spare held n' 3 ((List.drop 1 [c0, c1]).take (Try.prog.cellsOf 3)) = some z1 := (hg' 1 _ rfl).trans hz1
  simp only [cellsI, List.drop_zero, List.drop_succ_cons, List.take_succ_cons, List.take_zero] at k0 k1
  obtain ⟨lo, rfl⟩ := open_int_raw k0
  obtain ⟨hi, rfl⟩ := open_int_raw k1
  exact ⟨lo, hi, rfl, rfl⟩
end

end Go.Proofs.Ytjjipkgconmfcaa

namespace Go.Proofs.Ytjjipkgconmfcaa
open Go.RowKit

theorem take_eq_succ {α : Type} {xs ys : List α} {k : Nat} {z : α} (h : xs.take k = ys.take k) (h1 : k < xs.length) (h2 : k < ys.length) (he : xs[k]?.getD z = ys[k]?.getD z) : xs.take (k + 1) = ys.take (k + 1) := by
  rw [List.take_add_one, List.take_add_one, h]
  congr 1
  simp only [List.getElem?_eq_getElem h1, List.getElem?_eq_getElem h2, Option.getD_some] at he ⊢
  rw [he]

end Go.Proofs.Ytjjipkgconmfcaa
