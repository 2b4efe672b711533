/-
  Texts laid together: FvH, FvP0.
-/
import Derived.Test.YtjjipkgconmfcaaQW91
set_option linter.all false
namespace Go.Proofs.Ytjjipkgconmfcaa
open Go.RowKit Go.Maps
open R6 (done done_ne done_me upd_ne upd_me)

attribute [local go_sem] gives

theorem bit_and {n k : Nat} (hn : n < 256) (hk : k < 8) : bits .and .u8 ((n : Int) / 2 ^ k) 1 = if n.testBit k = true then 1 else 0 := by
  obtain ⟨m, rfl⟩ : ∃ m : Fin 256, m.val = n := ⟨⟨n, hn⟩, rfl⟩
  obtain ⟨j, rfl⟩ : ∃ j : Fin 8, j.val = k := ⟨⟨k, hk⟩, rfl⟩
  clear hn hk
  revert m j
  decide +kernel

theorem ofInt_nat (a : Nat) (ha : a < 256) : (BitVec.ofInt 8 (a : Int)).toNat = a := by
  rw [BitVec.ofInt_natCast, BitVec.toNat_ofNat]; exact Nat.mod_eq_of_lt (by omega)
theorem bits_and8 (a b : Nat) (ha : a < 256) (hb : b < 256) : bits .and .u8 (a : Int) (b : Int) = ((a &&& b : Nat) : Int) := by
  have hx : a &&& b < 2 ^ 8 := Nat.and_lt_two_pow _ (by omega)
  show IntKind.u8.wrap ((BitVec.ofInt 8 (a : Int) &&& BitVec.ofInt 8 (b : Int)).toNat : Int) = _
  rw [BitVec.toNat_and, ofInt_nat a ha, ofInt_nat b hb, IntKind.wrap_u8]
  omega
theorem bits_or8 (a b : Nat) (ha : a < 256) (hb : b < 256) : bits .or .u8 (a : Int) (b : Int) = ((a ||| b : Nat) : Int) := by
  have hx : a ||| b < 2 ^ 8 := Nat.or_lt_two_pow (by omega) (by omega)
  show IntKind.u8.wrap ((BitVec.ofInt 8 (a : Int) ||| BitVec.ofInt 8 (b : Int)).toNat : Int) = _
  rw [BitVec.toNat_or, ofInt_nat a ha, ofInt_nat b hb, IntKind.wrap_u8]
  omega
theorem bits_not8 (a b : Nat) (ha : a < 256) (hb : b < 256) : ∃ c : Nat, bits .andNot .u8 (a : Int) (b : Int) = (c : Int) ∧ c ≤ a ∧ ∀ k, c.testBit k = (a.testBit k && !b.testBit k) := by
  refine ⟨(BitVec.ofInt 8 (a : Int) &&& ~~~ BitVec.ofInt 8 (b : Int)).toNat, ?_, ?_, fun k => ?_⟩
  · show IntKind.u8.wrap ((BitVec.ofInt 8 (a : Int) &&& ~~~ BitVec.ofInt 8 (b : Int)).toNat : Int) = _
    have h : (BitVec.ofInt 8 (a : Int) &&& ~~~ BitVec.ofInt 8 (b : Int)).toNat ≤ a := by
      rw [BitVec.toNat_and, ofInt_nat a ha]; exact Nat.and_le_left
    rw [IntKind.wrap_u8]
    omega
  · rw [BitVec.toNat_and, ofInt_nat a ha]; exact Nat.and_le_left
  · have hbk : b.testBit k = (BitVec.ofInt 8 (b : Int)).getLsbD k := by rw [← BitVec.testBit_toNat, ofInt_nat b hb]
    have hak : a.testBit k = (BitVec.ofInt 8 (a : Int)).getLsbD k := by rw [← BitVec.testBit_toNat, ofInt_nat a ha]
    rw [BitVec.testBit_toNat, BitVec.getLsbD_and, BitVec.getLsbD_not, hbk, hak]
    by_cases h64 : k < 8
    · simp [h64]
    · simp [h64, BitVec.getLsbD_of_ge _ _ (show 8 ≤ k by omega)]
theorem kept_val {j : Nat} (hj : j ≤ 7) : wrap64 (wrap64 (2 * 2 ^ j) - 1) % 256 = ((2 ^ (j + 1) - 1 : Nat) : Int) := by
  obtain ⟨m, rfl⟩ : ∃ m : Fin 8, m.val = j := ⟨⟨j, by omega⟩, rfl⟩
  clear hj
  revert m
  decide +kernel
/-- The fingering that is like another one up to its second open hole. -/
theorem mix_val {n q j N : Nat} (hn : n < 256) (hq : q < 256) (hj : j ≤ 7) {L : Nat} (hnl : n < 2 ^ L) (hql : q < 2 ^ L) :
    ∃ m : Nat, bits .or .u8 (bits .and .u8 (n : Int) ((2 ^ (j + 1) - 1 : Nat) : Int)) (bits .andNot .u8 (q : Int) ((2 ^ (j + 1) - 1 : Nat) : Int)) = (m : Int) ∧ m < 256 ∧ m < 2 ^ L ∧ ∀ k, k ≤ j → m.testBit k = n.testBit k := by
  have hk : 2 ^ (j + 1) - 1 < 256 := by have : 2 ^ (j + 1) ≤ 2 ^ 8 := Nat.pow_le_pow_right (by omega) (by omega); omega
  obtain ⟨c, hc, hcq, hcb⟩ := bits_not8 q (2 ^ (j + 1) - 1) hq hk
  have ha : n &&& (2 ^ (j + 1) - 1) ≤ n := Nat.and_le_left
  rw [hc, bits_and8 n _ hn hk, bits_or8 _ c (by omega) (by omega)]
  refine ⟨_, rfl, Nat.or_lt_two_pow (n := 8) (by omega) (by omega), Nat.or_lt_two_pow (by omega) (by omega), fun k hkj => ?_⟩
  rw [Nat.testBit_or, Nat.testBit_and, hcb k, Nat.testBit_two_pow_sub_one]
  have h1 : decide (k < j + 1) = true := decide_eq_true (by omega)
  rw [h1]; simp

set_option maxRecDepth 100000 in
set_option maxHeartbeats 16000000 in
theorem fluteAfter_some (f : Fu) (hl : f.hs.length ≤ 1000000) (n0 q0 : Nat) (hn0 : n0 < 256) (hq0 : q0 < 256) (B : Nat) (w : World) (hB : B ≤ w.heap.size) (hz : FuAt w B f) :
    Calls Try.prog 11 #[.agg (fuc f).toArray, .int .u8 (n0 : Int), .int .u8 (q0 : Int)] w fun e w' => e = .returned (.bool true) ∧ Below w.heap.size w w' := by
  obtain ⟨w1, hw1⟩ : ∃ w1, w.alloc (.cells (fuc f).toArray 28) = w1 := ⟨_, rfl⟩
  have hb1 : Below w.heap.size w w1 := by rw [← hw1]; exact grow1 _ _
  have m0 : w1.heap[w.heap.size]? = some (.cells (fuc f).toArray 28 (0, 0)) := by rw [← hw1]; exact alloc_at0 _ _
  have hz1 := hz.below (hb1.mono hB)
  have hB1 := Nat.le_trans hB hb1.size
  have HAL := Lib.hid (fun W => alive_any W)
  have hrd := fun W (hW : Below w1.heap.size w1 W) => ready9_any f hl B W (Nat.le_trans hB1 hW.size) (hz1.below (hW.mono hB1))
  have htn := fun n (h256 : n < 256) W (hW : Below w1.heap.size w1 W) => tone_any9 f hl n h256 B W (Nat.le_trans hB1 hW.size) (hz1.below (hW.mono hB1))
  unfold TonePost at htn
  have hte : okFu f = true → ∀ n, n < 2 ^ f.hs.length → tonE f n = 0 ∧ tonV f n = tonF f n := fun h1 n h3 => ⟨by simp [tonE, h1, h3], by simp [tonV, h1, h3]⟩
  have hcf := fun (W : World) (hW : Below w1.heap.size w1 W) i => cell_of_row W w.heap.size i _ _ _ ((hW.block _ (lt_of_heap m0)).trans m0)
  have hfg := fun (h8 : f.hs.length ≤ 8) n (hn : n < 256) W => fingered_any f h8 n hn W
  have H1 := Lib.hid hb1
  have HLT := Lib.hid (lt_of_heap m0)
  clear hz hb1 m0 hz1
  unfold fuc at hw1 hcf hrd htn hfg ⊢
  have HCF := Lib.hid hcf
  clear hcf
  have hrk := fun (h : rdyF f = true) => rdy_ok h
  generalize rdyF f = v1 at hrd hrk
  have HRD := Lib.hid hrd
  clear hrd
  cases v1
  · clear hrk htn hte hfg
    go_enter Try.func11, Try.ntmps11
    go_wp2_with (first
      | (go_at_call 13; refine (HAL.out _).mono ?_; rintro e w2 ⟨rfl, hB2⟩; have hc2 := HCF.out w2 hB2; have H2 := Lib.hid hB2; clear hB2)
      | (go_at_call 32; refine (HRD.out w2 H2.out).mono ?_; rintro e w3 ⟨rfl, hB3⟩; have H3 := Lib.hid (H2.out.trans (hB3.mono H2.out.size)); clear hB3))
    go_ret
    exact ⟨rfl, H1.out.trans (H3.out.mono H1.out.size)⟩
  have hok := hrk rfl
  have hlen8 := (okFu_bnd hok).2.2.2.2.1
  have HFG := Lib.hid (hfg hlen8)
  have HTE := Lib.hid (And.intro (hte hok) htn)
  have hN8 : 2 ^ f.hs.length ≤ 256 := Nat.pow_le_pow_right (n := 2) (by omega) hlen8
  have hnlt : n0 % 2 ^ f.hs.length < 2 ^ f.hs.length := Nat.mod_lt _ (Nat.pow_pos (by omega))
  have hqlt : q0 % 2 ^ f.hs.length < 2 ^ f.hs.length := Nat.mod_lt _ (Nat.pow_pos (by omega))
  obtain ⟨n, hn⟩ : ∃ n, n = n0 % 2 ^ f.hs.length := ⟨_, rfl⟩
  obtain ⟨q, hq⟩ : ∃ q, q = q0 % 2 ^ f.hs.length := ⟨_, rfl⟩
  have hfgn := HFG.out n0 hn0
  have hfgq := HFG.out q0 hq0
  rw [← hn] at hfgn hnlt
  rw [← hq] at hfgq hqlt
  have HFN := Lib.hid hfgn
  have HFQ := Lib.hid hfgq
  have hn256 : n < 256 := by omega
  have hq256 : q < 256 := by omega
  have HOK := Lib.hid (And.intro hok (And.intro hlen8 (And.intro hnlt (And.intro hqlt (And.intro hn256 hq256)))))
  have hlz : (f.hs.length : Int) ≤ 8 := by omega
  clear hrk htn hte hfg hfgn hfgq hn hq hok hlen8 hnlt hqlt hn256 hq256 hN8 HFG
  go_enter Try.func11, Try.ntmps11
  go_wp2_with (first
    | (go_at_call 13; refine (HAL.out _).mono ?_; rintro e w2 ⟨rfl, hB2⟩; have hc2 := HCF.out w2 hB2; have H2 := Lib.hid hB2; clear hB2)
    | (go_at_call 32; refine (HRD.out w2 H2.out).mono ?_; rintro e w3 ⟨rfl, hB3⟩; have hc3 := HCF.out w3 (H2.out.trans (hB3.mono H2.out.size)); have H3 := Lib.hid (H2.out.trans (hB3.mono H2.out.size)); clear hB3 hc2))
  refine R6.wp_walk (C := fun _ _ W => Below w1.heap.size w1 W) 88 (by kernel_rfl) (by kernel_rfl) rfl H3.out.drew ?_
  simp only []
  repeat
    (refine' R6.WalkR.det (fun _ => rfl) (fun D ρ W hK hC => ?_) ?_
     rotate_left
     · have f0 := HCF.out W hC
       have HC := Lib.hid hC
       clear hC hK
       go_simp
       first
         | with_reducible exact ⟨rfl, HC.out⟩
         | (go_at_call 34; (with_reducible refine (HFN.out W).mono ?_); rintro e W1 ⟨rfl, hB1⟩; exact ⟨_, rfl, rfl, HC.out.trans (hB1.mono HC.out.size)⟩)
         | (go_at_call 34; (with_reducible refine (HFQ.out W).mono ?_); rintro e W1 ⟨rfl, hB1⟩; exact ⟨_, rfl, rfl, HC.out.trans (hB1.mono HC.out.size)⟩)
     simp only [Act.put, List.setIfInBounds_toArray, List.set_cons_succ, List.set_cons_zero])
  refine R6.WalkR.nil (fun D ρ W hD hC => ?_)
  obtain ⟨w4, hw4⟩ : ∃ w4, W = w4 := ⟨_, rfl⟩
  rw [hw4] at hC ⊢
  have H4 := Lib.hid hC
  clear hC hD hw4 hc3
  clear D ρ W
  have hc4 := HCF.out w4 H4.out
  go_wp2
  refine R6.wp_walk (C := fun _ _ W => Below w1.heap.size w1 W) 88 (by kernel_rfl) (by kernel_rfl) rfl H4.out.drew ?_
  simp only []
  repeat
    (refine' R6.WalkR.det (fun _ => rfl) (fun D ρ W hK hC => ?_) ?_
     rotate_left
     · have f0 := HCF.out W hC
       have HC := Lib.hid hC
       clear hC hK
       go_simp
       with_reducible exact ⟨rfl, HC.out⟩
     simp only [Act.put, List.setIfInBounds_toArray, List.set_cons_succ, List.set_cons_zero])
  refine R6.WalkR.nil (fun D ρ W hD hC => ?_)
  obtain ⟨w5, hw5⟩ : ∃ w5, W = w5 := ⟨_, rfl⟩
  rw [hw5] at hC ⊢
  have H5 := Lib.hid hC
  clear hC hD hw5 hc4
  clear D ρ W
  have hc5 := HCF.out w5 H5.out
  go_wp2
  go_loopg [8, 9, 35] f.hs.length (fun gg s8 s9 s35 wx => ∃ k : Nat, k + gg = f.hs.length ∧ s8 = .int .i64 ((opn n f.hs.length k).1 : Int) ∧ s9 = .int .i64 ((opn n f.hs.length k).2 : Int) ∧ s35 = .int .i64 k ∧ wx = w5)
  case atStart => exact ⟨0, by omega, by go_num, rfl, by go_num, rfl⟩
  case round =>
    obtain ⟨k, hkg, rfl, rfl, rfl, rfl⟩ := hrel
    cases gk with
    | zero =>
      obtain rfl : k = f.hs.length := by omega
      have hsp := (opn_spec n f.hs.length f.hs.length).2.2
      have hle := opn_le n f.hs.length f.hs.length
      generalize opn n f.hs.length f.hs.length = st at hsp hle ⊢
      obtain ⟨op, nx⟩ := st
      dsimp only at hsp hle ⊢
      by_cases h2 : op < 2
      · have hd : decide ((op : Int) < 2) = true := decide_eq_true (by omega)
        go_wp2
        go_ret
        exact ⟨rfl, H1.out.trans (H5.out.mono H1.out.size)⟩
      · have hd : decide ((op : Int) < 2) = false := decide_eq_false (by omega)
        have HSP := Lib.hid (hsp (by omega))
        have hnx : (nx : Int) ≤ 7 := by obtain ⟨i, _, h⟩ := HSP.out; omega
        clear hsp
        obtain ⟨ht1, ht2⟩ := HTE.out.1 n HOK.out.2.2.1
        have htn := HTE.out.2 n HOK.out.2.2.2.2.1
        rw [ht1, ht2] at htn
        have HT1 := Lib.hid htn
        clear htn ht1 ht2
        obtain ⟨i, htw, hnxl⟩ := HSP.out
        obtain ⟨m, hm, hm256, hml, hmb⟩ := mix_val (N := 0) HOK.out.2.2.2.2.1 HOK.out.2.2.2.2.2 (show nx ≤ 7 by omega) HOK.out.2.2.1 HOK.out.2.2.2.1
        have htf := tonF_after f HOK.out.2.2.2.2.1 hm256 HOK.out.2.1 hnxl htw hmb
        obtain ⟨hu1, hu2⟩ := HTE.out.1 m hml
        have htm := HTE.out.2 m hm256
        rw [hu1, hu2, htf] at htm
        have HT2 := Lib.hid htm
        have HMX := Lib.hid (And.intro hm (kept_val (show nx ≤ 7 by omega)))
        clear htm hu1 hu2 htf hm hm256 hml hmb htw hnxl
        generalize (tonF f n).1 = t0 at HT1 HT2
        generalize (tonF f n).2 = t1 at HT1 HT2
        go_wp2_with (first
          | (go_at_call 21; (with_reducible refine (HT1.out wr H5.out).mono ?_); rintro e w6 ⟨rfl, hB6⟩; have hc6 := HCF.out w6 (H5.out.trans (hB6.mono H5.out.size)); have hl6 : w.heap.size < w6.heap.size := Nat.lt_of_lt_of_le HLT.out (H5.out.trans (hB6.mono H5.out.size)).size; have H6 := Lib.hid (H5.out.trans (hB6.mono H5.out.size)); clear hB6 hc5)
          | (go_at_call 21
             rw [HMX.out.2, HMX.out.1]
             refine (HT2.out _ (H6.out.alloc H6.out.size (.cells #[.int .i64 t0, .int .i64 t1] 25))).mono ?_
             rintro e w7 ⟨rfl, hB7⟩
             have hc7 : ∀ i, w7.cell? ⟨w6.heap.size, i, none⟩ = _ := fun i => cell_of_row w7 w6.heap.size i _ _ _ ((hB7.block _ (by simp)).trans (alloc_at0 w6 (.cells #[.int .i64 t0, .int .i64 t1] 25)))
             have hl7 : w6.heap.size < w7.heap.size := by have := hB7.size; simp at this; omega
             have H7 := Lib.hid ((H6.out.alloc H6.out.size (.cells #[.int .i64 t0, .int .i64 t1] 25)).trans (hB7.mono (by have := H6.out.size; simp; omega)))
             clear hB7 hc6))
        go_ret
        exact ⟨rfl, H1.out.trans ((H7.out.alloc H7.out.size _).mono H1.out.size)⟩
    | succ gg =>
      have hk : k < f.hs.length := by omega
      have hkz : (k : Int) ≤ 7 := by omega
      have hop := opn_le n f.hs.length k
      have hopz : ((opn n f.hs.length k).1 : Int) ≤ 7 := by omega
      have hba := bit_and HOK.out.2.2.2.2.1 (show k < 8 by omega)
      cases hb : n.testBit k
      · have e : opn n f.hs.length (k + 1) = opn n f.hs.length k := by simp [opn, hb]
        rw [hb] at hba
        simp only [Bool.false_eq_true, if_false] at hba
        have HE := Lib.hid e
        clear e hb
        go_wp2
        go_roundg gg
        case measure => omega
        case rel => exact ⟨k + 1, by omega, by rw [HE.out], by rw [HE.out], by go_num, rfl⟩
      · have e : opn n f.hs.length (k + 1) = ((opn n f.hs.length k).1 + 1, if (opn n f.hs.length k).1 + 1 = 2 then k else (opn n f.hs.length k).2) := by simp [opn, hb]
        rw [hb] at hba
        simp only [if_true] at hba
        by_cases h2 : (opn n f.hs.length k).1 + 1 = 2
        · rw [if_pos h2] at e
          have HE := Lib.hid e
          have h2z : (((opn n f.hs.length k).1 : Int) + 1 == 2) = true := by simp; omega
          clear e hb h2
          go_wp2
          go_roundg gg
          case measure => omega
          case rel => exact ⟨k + 1, by omega, by rw [HE.out]; go_num, by rw [HE.out], by go_num, rfl⟩
        · rw [if_neg h2] at e
          have HE := Lib.hid e
          have h2z : (((opn n f.hs.length k).1 : Int) + 1 == 2) = false := by simp; omega
          clear e hb h2
          go_wp2
          go_roundg gg
          case measure => omega
          case rel => exact ⟨k + 1, by omega, by rw [HE.out]; go_num, by rw [HE.out], by go_num, rfl⟩

set_option maxRecDepth 100000 in
set_option maxHeartbeats 4000000 in
theorem fluteAfter_law (f : Fu) (n q : Nat) (hn : n < 256) (hq : q < 256) (B : Nat) (w : World) (hB : B ≤ w.heap.size) (hz : FuAt w B f) :
    Calls Try.prog 11 #[.agg (fuc f).toArray, .int .u8 (n : Int), .int .u8 (q : Int)] w fun e w' => e = .returned (.bool true) ∧ Below w.heap.size w w' := by
  by_cases h12 : f.hs.length ≤ 12
  · exact fluteAfter_some f (by omega) n q hn hq B w hB hz
  clear hz hB
  obtain ⟨w1, hw1⟩ : ∃ w1, w.alloc (.cells (fuc f).toArray 28) = w1 := ⟨_, rfl⟩
  have hb1 : Below w.heap.size w w1 := by rw [← hw1]; exact grow1 _ _
  have m0 : w1.heap[w.heap.size]? = some (.cells (fuc f).toArray 28 (0, 0)) := by rw [← hw1]; exact alloc_at0 _ _
  have HAL := Lib.hid (fun W => alive_any W)
  have HRD := Lib.hid (fun W => ready9_big f h12 W)
  have hcf := fun (W : World) (hW : Below w1.heap.size w1 W) i => cell_of_row W w.heap.size i _ _ _ ((hW.block _ (lt_of_heap m0)).trans m0)
  have H1 := Lib.hid hb1
  clear hb1 m0 h12
  unfold fuc at hw1 hcf HRD ⊢
  have HCF := Lib.hid hcf
  clear hcf
  go_enter Try.func11, Try.ntmps11
  go_wp2_with (first
    | (go_at_call 13; refine (HAL.out _).mono ?_; rintro e w2 ⟨rfl, hB2⟩; have hc2 := HCF.out w2 hB2; have H2 := Lib.hid hB2; clear hB2)
    | (go_at_call 32; refine (HRD.out w2).mono ?_; rintro e w3 ⟨rfl, hB3⟩; have H3 := Lib.hid (H2.out.trans (hB3.mono H2.out.size)); clear hB3))
  go_ret
  exact ⟨rfl, H1.out.trans (H3.out.mono H1.out.size)⟩

end Go.Proofs.Ytjjipkgconmfcaa

namespace Go.Proofs.Ytjjipkgconmfcaa
open Go.RowKit Go.Maps
open R6 (done done_ne done_me upd_ne upd_me)

attribute [local go_sem] gives

def oneB (k : Nat) (L L' : List Value) (D : Nat → Bool) : List Value := if D k = true then L' else L
theorem oneB_off {k : Nat} {L L' : List Value} {D : Nat → Bool} (h : D k = false) : oneB k L L' D = L := by simp [oneB, h]
theorem oneB_on {k : Nat} {L L' : List Value} {D : Nat → Bool} (h : D k = true) : oneB k L L' D = L' := by simp [oneB, h]
theorem oneB_move {k j : Nat} {L L' : List Value} {D : Nat → Bool} (h : (j == k) = false) : oneB k L L' (done D j) = oneB k L L' D := by
  unfold oneB
  rw [done_ne (fun e => by rw [e] at h; simp at h)]
theorem oneB_me {k : Nat} {L L' : List Value} {D : Nat → Bool} : oneB k L L' (done D k) = L' := by simp [oneB, done]
/-- A box and holes of its own. -/
structure WdS (w0 : World) (b g : Nat) (x : List Value) (h : List Ho) (tl : List Value) (W : World) : Prop where
  bel : Below w0.heap.size w0 W
  m : W.heap[b]? = some (.cells x.toArray 28 (0, 0))
  o : OwnHo W g h tl
section
variable {w0 W W' : World} {b g : Nat} {x y : List Value} {h h' : List Ho} {tl : List Value}
theorem WdS.putB (hT : WdS w0 b g x h tl W) (hb0 : w0.heap.size ≤ b) (hn : b ≠ g) (hb : Below b W W') (ho : ∀ k, k ≠ b → W'.heap[k]? = W.heap[k]?) (hM : W'.heap[b]? = some (.cells y.toArray 28 (0, 0))) : WdS w0 b g y h tl W' :=
  ⟨hT.bel.trans (hb.mono hb0), hM, (ho _ (Ne.symm hn)).trans hT.o⟩
theorem WdS.putG (hT : WdS w0 b g x h tl W) (hg0 : w0.heap.size ≤ g) (hn : b ≠ g) (hb : Below g W W') (ho : ∀ k, k ≠ g → W'.heap[k]? = W.heap[k]?) (hM : OwnHo W' g h' tl) : WdS w0 b g x h' tl W' :=
  ⟨hT.bel.trans (hb.mono hg0), (ho _ hn).trans hT.m, hM⟩
theorem WdS.grows (hT : WdS w0 b g x h tl W) (hg : Grows W W') : WdS w0 b g x h tl W' :=
  ⟨hT.bel.trans (hg.mono hT.bel.size), (hg.block _ (lt_of_heap hT.m)).trans hT.m, (hg.block _ (lt_of_heap hT.o)).trans hT.o⟩
end
/-- A box that is made and then written, at a place that is not told. -/
structure BxC (w0 : World) (t : TypeId) (z y : List Value) (ka d ks : Nat) (D : Nat → Bool) (σ : Nat → Value) (W : World) : Prop where
  bel : Below w0.heap.size w0 W
  box : D ka = true → ∃ b, σ d = .pointer (some ⟨b, 0, none⟩) ∧ w0.heap.size ≤ b ∧ W.heap[b]? = some (.cells (oneB ks z y D).toArray t (0, 0))
section
variable {w0 W W' : World} {t : TypeId} {z y : List Value} {ka d ks : Nat} {D : Nat → Bool} {σ : Nat → Value}
theorem BxC.start (hD : ∀ k, D k = false) : BxC w0 t z y ka d ks D σ w0.drew := ⟨(Below.refl _ _).drew, fun h => by rw [hD] at h; cases h⟩
theorem BxC.next (h : BxC w0 t z y ka d ks D σ W) (hg : Grows W W') : BxC w0 t z y ka d ks D σ W' :=
  ⟨h.bel.trans (hg.mono h.bel.size), fun hd => let ⟨b, e, hb, hm⟩ := h.box hd; ⟨b, e, hb, (hg.block _ (lt_of_heap hm)).trans hm⟩⟩
theorem BxC.move (h : BxC w0 t z y ka d ks D σ W) {k d' : Nat} {v : Value} (hk : (k == ka || k == ks) = false) (hd : (d' == d) = false) : BxC w0 t z y ka d ks (done D k) (R4.upd σ (some d') v) W := by
  simp only [Bool.or_eq_false_iff, beq_eq_false_iff_ne, ne_eq] at hk hd
  refine ⟨h.bel, ?_⟩
  rw [done_ne (Ne.symm hk.1), oneB_move (by simpa using hk.2), upd_ne (fun e => hd (Option.some.inj e))]
  exact h.box
theorem BxC.alloc (h : BxC w0 t z y ka d ks D σ W) (hn : (ka == ks) = false) (h2 : D ks = false) : BxC w0 t z y ka d ks (done D ka) (R4.upd σ (some d) (.pointer (some ⟨W.heap.size, 0, none⟩))) (W.alloc (.cells z.toArray t)) :=
  ⟨h.bel.alloc h.bel.size _, fun _ => ⟨W.heap.size, upd_me, h.bel.size, by rw [oneB_move hn, oneB_off h2]; exact alloc_at0 W _⟩⟩
theorem BxC.store (h : BxC w0 t z y ka d ks D σ W) (h1 : D ka = true) {b : Nat} (hb0 : w0.heap.size ≤ b) (hb : σ d = .pointer (some ⟨b, 0, none⟩)) (hP : Put W W' b) (hM : W'.heap[b]? = some (.cells y.toArray t (0, 0))) : BxC w0 t z y ka d ks (done D ks) (R4.upd σ none undef) W' :=
  ⟨h.bel.trans (hP.below hb0), fun _ => ⟨b, hb, hb0, by rw [oneB_me]; exact hM⟩⟩
end

theorem mapK_cell {g : Nat → Ho → Ho} {k j : Nat} {hs : List Ho} {tl : List Value} (hk : k < hs.length) (hj : j < 3) : ((mapK g k hs).flatMap hoc ++ tl)[k * 3 + j]? = (hoc hs[k])[j]? := by
  have hl : (((hs.take k).mapIdx g).flatMap hoc).length = k * 3 := by rw [flat_len hoc_len]; simp; omega
  rw [mapK_at hk]
  simp only [List.flatMap_append, List.flatMap_cons, List.append_assoc]
  rw [List.getElem?_append_right (by omega), hl, show k * 3 + j - k * 3 = j by omega, List.getElem?_append_left (by rw [hoc_len]; exact hj)]
theorem mapK_first {h0 : Ho} {k : Nat} {hs : List Ho} {tl : List Value} (h : 0 < hs.length) (he : h0 = hs[0]) : ∀ j v, ([.int .i64 h0.lo, .int .i64 h0.hi] : List Value)[j]? = some v → ((mapK (samH h0) k hs).flatMap hoc ++ tl)[1 + j]? = some v := by
  obtain ⟨x, l, rfl⟩ : ∃ x l, hs = x :: l := by cases hs with
    | nil => exact absurd h (Nat.lt_irrefl _)
    | cons x l => exact ⟨x, l, rfl⟩
  have he : h0 = x := he
  subst he
  have e : ∃ l', mapK (samH h0) k (h0 :: l) = ⟨h0.a, h0.lo, h0.hi⟩ :: l' := by
    cases k with
    | zero => exact ⟨l, by simp [mapK]⟩
    | succ k => exact ⟨_, by simp [mapK, List.mapIdx_cons, samH]; rfl⟩
  obtain ⟨l', e⟩ := e
  rw [e]
  intro j v hj
  match j with
  | 0 => simpa [hoc] using hj
  | 1 => simpa [hoc] using hj
  | j + 2 => simp at hj
theorem mapK_splice {g : Nat → Ho → Ho} {k : Nat} {hs : List Ho} {tl : List Value} (hk : k < hs.length) (a b : Value) (h : hoc (g k hs[k]) = [.int .i64 hs[k].a, a, b]) :
    splice ((mapK g k hs).flatMap hoc ++ tl) (k * 3 + 1) [a, b] = (mapK g (k + 1) hs).flatMap hoc ++ tl := by
  have hl : (((hs.take k).mapIdx g).flatMap hoc).length = k * 3 := by rw [flat_len hoc_len]; simp; omega
  rw [mapK_at hk, mapK_next hk]
  simp only [List.flatMap_append, List.flatMap_cons, List.append_assoc, h]
  generalize ((hs.take k).mapIdx g).flatMap hoc = P at hl
  unfold splice
  have e1 : (P ++ (hoc hs[k] ++ ((hs.drop (k + 1)).flatMap hoc ++ tl))).take (k * 3 + 1) = P ++ [.int .i64 hs[k].a] := by
    rw [List.take_append, hl, List.take_of_length_le (by omega), show k * 3 + 1 - k * 3 = 1 by omega]
    simp [hoc]
  have e2 : (P ++ (hoc hs[k] ++ ((hs.drop (k + 1)).flatMap hoc ++ tl))).drop (k * 3 + 1 + [a, b].length) = (hs.drop (k + 1)).flatMap hoc ++ tl := by
    rw [List.drop_append, hl, List.drop_eq_nil_of_le (by simp; omega), show k * 3 + 1 + [a, b].length - k * 3 = 3 by simp; omega]
    simp [hoc]
  rw [e1, e2]
  simp
/-- Which hole is the first open one, as far as it is known. -/
def fstK (fi k : Nat) : Int := if k ≤ fi then -1 else fi
theorem fstK_le {fi k : Nat} (h : k ≤ fi) : fstK fi k = -1 := if_pos h
theorem fstK_gt {fi k : Nat} (h : fi < k) : fstK fi k = fi := if_neg (by omega)
theorem pow_u8 {j : Nat} (hj : j < 8) : IntKind.u8.wrap ((2 : Int) ^ j) = ((2 ^ j : Nat) : Int) := by
  obtain ⟨m, rfl⟩ : ∃ m : Fin 8, m.val = j := ⟨⟨j, hj⟩, rfl⟩
  clear hj
  revert m
  decide +kernel
/-- What a remainder needs. -/
theorem rem_facts {a m : Int} (ha : 0 ≤ a ∧ a < 4294967296) (hm : 0 ≤ m ∧ m ≤ 1000000) : IntKind.i64.wrap a = a ∧ IntKind.i64.wrap m = m ∧ IntKind.i64.wrap (m + 1) = m + 1 ∧ ¬ m + 1 = 0 ∧ a.tmod (m + 1) = remL a m ∧ IntKind.i64.wrap (remL a m) = remL a m ∧ 0 ≤ remL a m ∧ remL a m ≤ m := by
  have hr := remL_bnd (a := a) hm.1
  exact ⟨IntWalk.i64_in _ (by omega), IntWalk.i64_in _ (by omega), IntWalk.i64_in _ (by omega), by omega, Int.tmod_eq_emod_of_nonneg ha.1, IntWalk.i64_in _ (by omega), hr.1, hr.2⟩

end Go.Proofs.Ytjjipkgconmfcaa
