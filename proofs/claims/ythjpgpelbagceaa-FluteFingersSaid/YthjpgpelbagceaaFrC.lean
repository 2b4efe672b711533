/-
  The reference's air and tones.
-/
import Derived.Test.YthjpgpelbagceaaFrA
import Derived.Test.YthjpgpelbagceaaFuD
set_option linter.all false
namespace Go.Proofs.Ythjpgpelbagceaa
open Go.RowKit
open R6 (done done_ne done_me upd_ne upd_me)

attribute [local go_sem] gives

theorem mul_bnd {c : Nat} {x : Int} (hc : c ≤ 8) (hx : 0 ≤ x ∧ x ≤ 60) : 0 ≤ (c : Int) * x ∧ (c : Int) * x ≤ 480 :=
  ⟨Int.mul_nonneg (by omega) hx.1, Int.le_trans (Int.mul_le_mul_of_nonneg_right (show (c : Int) ≤ 8 by omega) hx.1) (by omega)⟩

set_option maxRecDepth 100000 in
set_option maxHeartbeats 8000000 in
theorem rfAir_any (f : Fu) (hok : okFu f = true) (n : Nat) (hn : n < 2 ^ f.hs.length) (B : Nat) (w : World) (hB : B ≤ w.heap.size) (hz : FuAt w B f) :
    Calls Try.prog 85 #[.agg (fuc f).toArray, .int .u8 (n : Int)] w fun e w' => e = .returned (.agg #[.int .i64 (airF f n).1, .int .i64 (airF f n).2]) ∧ Below w.heap.size w w' := by
  obtain ⟨b1, b2, b3, b4, hl, b6⟩ := okFu_bnd hok
  have hn8 : n < 256 := Nat.lt_of_lt_of_le hn (Nat.pow_le_pow_right (n := 2) (by omega) hl)
  obtain ⟨w1, hw1⟩ : ∃ w1, (w.alloc (.cells (fuc f).toArray 28)).alloc (.cells #[.int .i64 0, .int .i64 0] 25) = w1 := ⟨_, rfl⟩
  have hb1 : Below w.heap.size w w1 := by rw [← hw1]; exact ((Below.refl _ _).alloc (Nat.le_refl _) _).alloc (by simp) _
  have m0 : w1.heap[w.heap.size]? = some (.cells (fuc f).toArray 28 (0, 0)) := by rw [← hw1]; exact alloc2_at0 _ _ _
  have m1 : w1.heap[w.heap.size + 1]? = some (.cells #[.int .i64 0, .int .i64 0] 25 (0, 0)) := by rw [← hw1]; exact alloc2_at1 _ _ _
  have hz1 : Vals w1 B f.A (f.hs.flatMap hoc) := hz.below (hb1.mono hB)
  have hcA := fun i => cell_of_row w1 w.heap.size i _ _ _ m0
  have hcR := fun i => cell_of_row w1 (w.heap.size + 1) i _ _ _ m1
  have hfR := fun i => frozen_of_row w1 (w.heap.size + 1) i _ _ m1
  have HO := Lib.hid (fun i (hi : i < 20) W => rfOpen_any n i hn8 hi W)
  have hsz := lt_of_heap m1
  have hsz0 := lt_of_heap m0
  have HZ := Lib.hid hz1
  have H1 := Lib.hid (And.intro hb1 (And.intro m0 m1))
  have HB := Lib.hid hB
  have HBN := Lib.hid (And.intro b1 (And.intro b2 (And.intro b3 b6)))
  have hair0 : n = 0 → airF f n = (f.len + f.e0, f.len + f.e1) := fun h => by simp only [airF, if_pos h]
  have hair1 : ∀ (i c : Nat) (hi : i < f.hs.length), n.testBit i = true → (∀ j, j < i → n.testBit j = false) → i + 1 + c ≤ f.hs.length → (∀ j, i < j → j < i + 1 + c → n.testBit j = false) → (i + 1 + c = f.hs.length ∨ n.testBit (i + 1 + c) = true) →
      airF f n = (f.hs[i].a + f.hs[i].lo + c * f.c0, f.hs[i].a + f.hs[i].hi + c * f.c1) := fun i c hi h1 h2 h3 h4 h5 => by
    have h0 : n ≠ 0 := fun e => by rw [e, Nat.zero_testBit] at h1; cases h1
    have ht := tz8_at hn8 h1 h2
    have hc := cloF_at (i := i) (L := f.hs.length - i - 1) hn8 (c := c) (by omega) h4 (by rcases h5 with h5 | h5; exact .inl (by omega); exact .inr h5) (by omega)
    have e : f.hs[i]?.getD ⟨0, 0, 0⟩ = f.hs[i] := by simp [hi]
    simp only [airF, if_neg h0, ht, hc, e]
  have HA := Lib.hid (And.intro hair0 hair1)
  have hzn : (∀ j, j < f.hs.length → n.testBit j = false) → n = 0 := fun h => Nat.eq_of_testBit_eq fun j => by
    rw [Nat.zero_testBit]
    by_cases hj : j < f.hs.length
    · exact h j hj
    · exact Nat.testBit_lt_two_pow (Nat.lt_of_lt_of_le hn (Nat.pow_le_pow_right (by omega) (by omega)))
  have HZN := Lib.hid hzn
  have hlz : (f.hs.length : Int) ≤ 8 := by omega
  generalize airF f n = R at HA ⊢
  have b11 := b1.1
  have b12 := b1.2
  have b21 := b2.1
  have b22 := b2.2.1
  have b23 := b2.2.2
  clear hz hz1 hb1 m0 m1 hair0 hair1 hzn b1 b2 b3 b4 b6 hok
  unfold fuc at hw1 hcA ⊢
  generalize f.A = A at hw1 hcA HZ ⊢
  go_enter Try.func85, Try.ntmps85
  go_wp2
  go_loopg [5] f.hs.length (fun gg s5 wx => ∃ i : Nat, i + gg = f.hs.length ∧ s5 = .int .i64 i ∧ Hid (∀ j, j < i → n.testBit j = false) ∧ wx = w1)
  case atStart => exact ⟨0, by omega, rfl, fun j hj => absurd hj (Nat.not_lt_zero _), rfl⟩
  case round =>
    obtain ⟨i, hig, rfl, hcl, rfl⟩ := hrel
    cases gk with
    | zero =>
      obtain rfl : i = f.hs.length := by omega
      have hR := HA.out.1 (HZN.out hcl.out)
      have HR := Lib.hid hR
      clear hR
      go_wp2
      refine bodyPost_ret (v := .agg #[.int .i64 (f.len + f.e0), .int .i64 (f.len + f.e1)]) (by simp [results, Try.results85, go_sem, hcR]) rfl ⟨by rw [HR.out], ?_⟩
      exact (H1.out.1.setCell (by simp) _).setCell (by simp) _
    | succ gg =>
      have hi : i < f.hs.length := by omega
      have hiz : (i : Int) < f.hs.length := by omega
      obtain ⟨c, off, hA, hcB, hc⟩ := vals_elem hoc_len HZ.out (by decide) hi
      subst hA
      cases hop : n.testBit i
      · have HOP := Lib.hid hop
        clear hop
        go_wp2_with (go_at_call 93; refine (HO.out i (by omega) _).mono ?_; rintro e w2 ⟨rfl, rfl⟩; rw [HOP.out])
        go_roundg gg
        case measure => omega
        case rel => exact ⟨i + 1, by omega, by go_num, fun j hj => by rcases Nat.lt_succ_iff_lt_or_eq.1 hj with hj | rfl; exact hcl.out j hj; exact HOP.out, rfl⟩
      · have HOP := Lib.hid hop
        have hY := hc
        clear hop hc
        go_wp2_with (go_at_call 93; refine (HO.out i (by omega) _).mono ?_; rintro e w2 ⟨rfl, rfl⟩; rw [HOP.out])
        obtain ⟨wo, rfl⟩ : ∃ wo : World, wo = wr := ⟨_, rfl⟩
        go_loopg [6, 7] f.hs.length (fun gh s6 s7 wz => ∃ m : Nat, i + 1 + m + gh = f.hs.length + (i + 1) ∧ i + 1 + m ≤ f.hs.length ∧ s6 = .int .i64 m ∧ s7 = .int .i64 ((i + 1 + m : Nat) : Int) ∧ Hid (∀ j, i < j → j < i + 1 + m → n.testBit j = false) ∧ wz = wo)
        case atStart => exact ⟨0, by omega, by omega, rfl, by go_num, fun j h1 h2 => absurd h2 (by omega), rfl⟩
        case round =>
          obtain ⟨m, hmg, hml, rfl, rfl, HCC, rfl⟩ := hrel
          by_cases hend : i + 1 + m = f.hs.length
          · have hez : ((i + 1 + m : Nat) : Int) = (f.hs.length : Int) := by rw [hend]
            have HEND := Lib.hid hend
            rw [hez]
            clear hez hend
            have hR := HA.out.2 i m hi (HOP.out) hcl.out (by omega) HCC.out (.inl HEND.out)
            have hm1 := mul_bnd (c := m) (by omega) (show 0 ≤ f.c0 ∧ f.c0 ≤ 60 by have := HBN.out.2.2.1; omega)
            have hm2 := mul_bnd (c := m) (by omega) (show 0 ≤ f.c1 ∧ f.c1 ≤ 60 by have := HBN.out.2.2.1; omega)
            have hbx := HBN.out.2.2.2 _ (List.getElem_mem hi)
            generalize f.hs[i] = h at hR hY hbx
            have HR := Lib.hid hR
            have HY := Lib.hid hY
            have hx1 := hbx.1
            have hx2 := hbx.2.1
            have hx3 := hbx.2.2.1
            have hx4 := hbx.2.2.2.1
            have hx5 := hbx.2.2.2.2
            have hm11 := hm1.1
            have hm12 := hm1.2
            have hm21 := hm2.1
            have hm22 := hm2.2
            clear hR hY hm1 hm2 hbx hmg hig hml
            go_wp2_with (first
              | (show wpList _ _ _ (Oper.mk (some 41) _ _ _ _ _ :: _) _ _
                 refine wpList_load_at 38 (.tmp 40) rfl rfl (by simp [Act.eval]) [.int .i64 h.a, .int .i64 h.lo, .int .i64 h.hi] HY.out rowHole ?_))
            have hcE := fun i => cell_of_row _ (w.heap.size + 1) i _ _ _ (set_two H1.out.2.2 (.int .i64 (h.a + h.lo + m * f.c0)) (.int .i64 (h.a + h.hi + m * f.c1)) (.cells #[.int .i64 h.a, .int .i64 h.lo, .int .i64 h.hi] 38))
            refine bodyPost_ret (v := .agg #[.int .i64 (h.a + h.lo + m * f.c0), .int .i64 (h.a + h.hi + m * f.c1)]) (by simp [results, Try.results85, go_sem, hcE]) rfl ⟨by rw [HR.out], ?_⟩
            exact ((H1.out.1.setCell (by simp) _).setCell (by simp) _).alloc (by simp; omega) _
          · have hlt : i + 1 + m < f.hs.length := by omega
            have hltz : ((i + 1 + m : Nat) : Int) < f.hs.length := by omega
            cases hoc2 : n.testBit (i + 1 + m)
            · have HOC := Lib.hid hoc2
              clear hoc2 hend hY
              go_wp2_with (go_at_call 93; refine (HO.out (i + 1 + m) (by omega) _).mono ?_; rintro e w2 ⟨rfl, rfl⟩; rw [HOC.out])
              go_roundg (gk - 1)
              case measure => omega
              case rel => exact ⟨m + 1, by omega, by omega, by go_num, by go_num, fun j h1 h2 => by rcases Nat.lt_or_ge j (i + 1 + m) with h | h; exact HCC.out j h1 h; rw [show j = i + 1 + m by omega]; exact HOC.out, rfl⟩
            · have HOC := Lib.hid hoc2
              clear hoc2 hend
              have hR := HA.out.2 i m hi (HOP.out) hcl.out (by omega) HCC.out (.inr HOC.out)
              have hm1 := mul_bnd (c := m) (by omega) (show 0 ≤ f.c0 ∧ f.c0 ≤ 60 by have := HBN.out.2.2.1; omega)
              have hm2 := mul_bnd (c := m) (by omega) (show 0 ≤ f.c1 ∧ f.c1 ≤ 60 by have := HBN.out.2.2.1; omega)
              have hbx := HBN.out.2.2.2 _ (List.getElem_mem hi)
              generalize f.hs[i] = h at hR hY hbx
              have HR := Lib.hid hR
              have HY := Lib.hid hY
              have hx1 := hbx.1
              have hx2 := hbx.2.1
              have hx3 := hbx.2.2.1
              have hx4 := hbx.2.2.2.1
              have hx5 := hbx.2.2.2.2
              have hm11 := hm1.1
              have hm12 := hm1.2
              have hm21 := hm2.1
              have hm22 := hm2.2
              clear hR hY hm1 hm2 hbx hmg hig
              go_wp2_with (first
                | (go_at_call 93; refine (HO.out (i + 1 + m) (by omega) _).mono ?_; rintro e w2 ⟨rfl, rfl⟩; rw [HOC.out])
                | (show wpList _ _ _ (Oper.mk (some 41) _ _ _ _ _ :: _) _ _
                   refine wpList_load_at 38 (.tmp 40) rfl rfl (by simp [Act.eval]) [.int .i64 h.a, .int .i64 h.lo, .int .i64 h.hi] HY.out rowHole ?_))
              have hcE := fun i => cell_of_row _ (w.heap.size + 1) i _ _ _ (set_two H1.out.2.2 (.int .i64 (h.a + h.lo + m * f.c0)) (.int .i64 (h.a + h.hi + m * f.c1)) (.cells #[.int .i64 h.a, .int .i64 h.lo, .int .i64 h.hi] 38))
              refine bodyPost_ret (v := .agg #[.int .i64 (h.a + h.lo + m * f.c0), .int .i64 (h.a + h.hi + m * f.c1)]) (by simp [results, Try.results85, go_sem, hcE]) rfl ⟨by rw [HR.out], ?_⟩
              exact ((H1.out.1.setCell (by simp) _).setCell (by simp) _).alloc (by simp; omega) _

end Go.Proofs.Ythjpgpelbagceaa
