/-
  Texts laid together: FvJ, FrF, FrG, FvK.
-/
import Derived.Test.YtjjipkgconmfcaaB918
import Derived.Test.YtjjipkgconmfcaaB96
import Derived.Test.YtjjipkgconmfcaaB95
set_option linter.all false
namespace Go.Proofs.Ytjjipkgconmfcaa
open Go.RowKit Go.Maps
open R6 (done done_ne done_me upd_ne upd_me)

attribute [local go_sem] gives

theorem bit_and9 {n k : Nat} (hn : n < 256) (hk : k < 8) : bits .and .u8 ((n : Int) / 2 ^ k) 1 = if n.testBit k = true then 1 else 0 := by
  obtain ⟨m, rfl⟩ : ∃ m : Fin 256, m.val = n := ⟨⟨n, hn⟩, rfl⟩
  obtain ⟨j, rfl⟩ : ∃ j : Fin 8, j.val = k := ⟨⟨k, hk⟩, rfl⟩
  clear hn hk
  revert m j
  decide +kernel

theorem div_facts {s a : Int} (hs : 0 ≤ s ∧ s ≤ 500000) (ha : 50 ≤ a) : (500 * s).tdiv a = 500 * s / a ∧ ¬ a = 0 ∧ IntKind.i64.wrap (500 * s / a) = 500 * s / a := by
  have h0 := Int.ediv_nonneg (show 0 ≤ 500 * s by omega) (show 0 ≤ a by omega)
  have h1 := Int.ediv_le_self a (show 0 ≤ 500 * s by omega)
  exact ⟨Int.tdiv_eq_ediv_of_nonneg (by omega), by omega, IntWalk.i64_in _ (by omega)⟩

set_option maxRecDepth 100000 in
set_option maxHeartbeats 16000000 in
theorem sound_any (f : Fu) (hok : okFu f = true) (n : Nat) (hn : n < 2 ^ f.hs.length) (A : Option Addr) (cap : Nat) (us : List Int) (B : Nat) (w : World) (hB : B ≤ w.heap.size) (hz : FuAt w B f) (hby : ByAt w B A us) :
    Calls Try.prog 35 #[.agg (fuc f).toArray, .int .u8 (n : Int), .slice A us.length cap] w fun e w' => e = .returned (.int .i64 (soF f us n)) ∧ Below w.heap.size w w' := by
  obtain ⟨b1, b2, b3, b4, hl, b6⟩ := okFu_bnd hok
  have hn8 : n < 256 := Nat.lt_of_lt_of_le hn (Nat.pow_le_pow_right (n := 2) (by omega) hl)
  obtain ⟨w1, hw1⟩ : ∃ w1, w.alloc (.cells (fuc f).toArray 28) = w1 := ⟨_, rfl⟩
  have hb1 : Below w.heap.size w w1 := by rw [← hw1]; exact grow1 _ _
  have m0 : w1.heap[w.heap.size]? = some (.cells (fuc f).toArray 28 (0, 0)) := by rw [← hw1]; exact alloc_at0 _ _
  have hz1 : Vals w1 B f.A (f.hs.flatMap hoc) := hz.below (hb1.mono hB)
  have hby1 := hby.below (hb1.mono hB)
  have hB1 := Nat.le_trans hB hb1.size
  have hat := fun (i : Int) (h0 : 0 ≤ i) W (hW : Below w1.heap.size w1 W) => at9_any A cap us i h0 B W (hby1.below (hW.mono hB1)).va hby.ln
  have hpk := fun (lo hi : Int) (h : 0 ≤ lo ∧ lo ≤ hi ∧ hi ≤ 1000000) (i : Int) W => pick9_any lo hi (atL us i) h.1 h.2.1 h.2.2 (atL_bnd hby).1 (atL_bnd hby).2 W
  have hcf := fun (W : World) (hW : Below w1.heap.size w1 W) i => cell_of_row W w.heap.size i _ _ _ ((hW.block _ (lt_of_heap m0)).trans m0)
  have hair0 : n = 0 → soA f us n = f.len + pickL f.e0 f.e1 (atL us 0) := fun h => by simp only [soA, if_pos h]
  have hair1 : ∀ (i c : Nat) (hi : i < f.hs.length), n.testBit i = true → (∀ j, j < i → n.testBit j = false) → i + 1 + c ≤ f.hs.length → (∀ j, i < j → j < i + 1 + c → n.testBit j = false) → (i + 1 + c = f.hs.length ∨ n.testBit (i + 1 + c) = true) →
      soA f us n = f.hs[i].a + pickL f.hs[i].lo f.hs[i].hi (atL us 0) + crS f us i c := fun i c hi h1 h2 h3 h4 h5 => by
    have h0 : n ≠ 0 := fun e => by rw [e, Nat.zero_testBit] at h1; cases h1
    have ht := tz8_at hn8 h1 h2
    have hc := cloF_at (i := i) (L := f.hs.length - i - 1) hn8 (c := c) (by omega) h4 (by rcases h5 with h5 | h5; exact .inl (by omega); exact .inr h5) (by omega)
    have e : f.hs[i]?.getD ⟨0, 0, 0⟩ = f.hs[i] := by simp [hi]
    simp only [soA, if_neg h0, ht, hc, e]
  have HA := Lib.hid (And.intro hair0 hair1)
  have hzn : (∀ j, j < f.hs.length → n.testBit j = false) → n = 0 := fun h => Nat.eq_of_testBit_eq fun j => by
    rw [Nat.zero_testBit]
    by_cases hj : j < f.hs.length
    · exact h j hj
    · exact Nat.testBit_lt_two_pow (Nat.lt_of_lt_of_le hn (Nat.pow_le_pow_right (by omega) (by omega)))
  have HZN := Lib.hid hzn
  have hlz : (f.hs.length : Int) ≤ 8 := by omega
  have hpe := pickL_bnd (n := atL us 0) b2.2.1
  have hps := pickL_bnd (n := atL us 1) b4.2.1
  have HPE := Lib.hid (fun W => hpk f.e0 f.e1 (by omega) 0 W)
  have HPS := Lib.hid (fun W => hpk f.s0 f.s1 (by omega) 1 W)
  have HPC := Lib.hid (fun i W => hpk f.c0 f.c1 (by omega) i W)
  have HPK := Lib.hid hpk
  have HAT := Lib.hid hat
  have HBN := Lib.hid (And.intro b1 (And.intro b2 (And.intro b3 b6)))
  have HCR := Lib.hid (fun i c => crS_bnd (f := f) us b3.2.1 i c)
  have H1 := Lib.hid hb1
  have HZ := Lib.hid hz1
  have HCF := Lib.hid hcf
  have hc1 := HCF.out w1 (Below.refl _ _)
  obtain ⟨pe, hpe0⟩ : ∃ pe, pickL f.e0 f.e1 (atL us 0) = pe := ⟨_, rfl⟩
  obtain ⟨ps, hps0⟩ : ∃ ps, pickL f.s0 f.s1 (atL us 1) = ps := ⟨_, rfl⟩
  have hq : soF f us n = 500 * ps / soA f us n := by unfold soF; rw [hps0]
  rw [hq]
  rw [hpe0] at hpe HPE HA
  rw [hps0] at hps HPS
  have hpe1 : 0 ≤ pe := by omega
  have hpe2 : pe ≤ 60 := by omega
  have hps1 : 0 ≤ ps := by omega
  have hps2 : ps ≤ 500000 := by omega
  have b11 := b1.1
  have b12 := b1.2
  have hx1 : IntKind.i64.wrap (f.len + pe) = f.len + pe := IntWalk.i64_in _ (by omega)
  have hx2 : IntKind.i64.wrap (500 * ps) = 500 * ps := IntWalk.i64_in _ (by omega)
  clear hz hz1 hb1 m0 hair0 hair1 hzn b1 b2 b3 b4 b6 hok hby hby1 hat hpk hcf hpe hps hq hpe0 hps0
  generalize soA f us n = R at HA ⊢
  unfold fuc at hw1 hc1 HCF ⊢
  generalize f.A = A0 at hw1 hc1 HCF HZ ⊢
  go_enter Try.func35, Try.ntmps35
  go_wp2
  refine R6.wp_walk (C := fun _ _ W => Below w1.heap.size w1 W) 73 (by kernel_rfl) (by kernel_rfl) rfl (Below.refl _ _).drew ?_
  simp only []
  repeat
    (refine' R6.WalkR.det (fun _ => rfl) (fun D ρ W hK hC => ?_) ?_
     rotate_left
     · have f0 := HCF.out W hC
       have HC := Lib.hid hC
       clear hC hK
       go_simp
       first
         | with_reducible exact ⟨rfl, HC.out⟩
         | (go_at_call 40; (with_reducible refine (HAT.out 0 (by decide) W HC.out).mono ?_); rintro e W1 ⟨rfl, rfl⟩; exact ⟨_, rfl, rfl, HC.out⟩)
         | (go_at_call 59; (with_reducible refine (HPE.out W).mono ?_); rintro e W1 ⟨rfl, hB1⟩; exact ⟨_, rfl, rfl, HC.out.trans (hB1.mono HC.out.size)⟩)
     simp only [Act.put, List.setIfInBounds_toArray, List.set_cons_succ, List.set_cons_zero])
  refine R6.WalkR.nil (fun D ρ W hD hC => ?_)
  obtain ⟨w4, hw4⟩ : ∃ w4, W = w4 := ⟨_, rfl⟩
  rw [hw4] at hC ⊢
  have H4 := Lib.hid hC
  clear hC hD hw4 hc1
  clear D ρ W
  have hc4 := HCF.out w4 H4.out
  go_wp2
  go_loopg [7, 22] f.hs.length (fun gg s7 s22 wx => ∃ i : Nat, i + gg = f.hs.length ∧ s7 = .int .i64 (f.len + pe) ∧ s22 = .int .i64 i ∧ Hid (∀ j, j < i → n.testBit j = false) ∧ Hid (Below w1.heap.size w1 wx))
  case atStart => exact ⟨0, by omega, by go_num, rfl, fun j hj => absurd hj (Nat.not_lt_zero _), H4.out⟩
  case round =>
    obtain ⟨i, hig, rfl, rfl, hcl, hBr⟩ := hrel
    clear hc4
    have hc5 := HCF.out wr hBr.out
    cases gk with
    | zero =>
      obtain rfl : i = f.hs.length := by omega
      have hR := HA.out.1 (HZN.out hcl.out)
      have HR := Lib.hid hR
      clear hR
      obtain ⟨hd1, hd2, hd3⟩ := div_facts (s := ps) (a := f.len + pe) ⟨hps1, hps2⟩ (by omega)
      go_wp2
      refine R6.wp_walk (C := fun _ _ W => Below w1.heap.size w1 W) 73 (by kernel_rfl) (by kernel_rfl) rfl hBr.out.drew ?_
      simp only []
      repeat
        (refine' R6.WalkR.det (fun _ => rfl) (fun D ρ W hK hC => ?_) ?_
         rotate_left
         · have f0 := HCF.out W hC
           have HC := Lib.hid hC
           clear hC hK
           go_simp
           first
             | with_reducible exact ⟨rfl, HC.out⟩
             | (go_at_call 40; (with_reducible refine (HAT.out 1 (by decide) W HC.out).mono ?_); rintro e W1 ⟨rfl, rfl⟩; exact ⟨_, rfl, rfl, HC.out⟩)
             | (go_at_call 59; (with_reducible refine (HPS.out W).mono ?_); rintro e W1 ⟨rfl, hB1⟩; exact ⟨_, rfl, rfl, HC.out.trans (hB1.mono HC.out.size)⟩)
         simp only [Act.put, List.setIfInBounds_toArray, List.set_cons_succ, List.set_cons_zero])
      refine R6.WalkR.nil (fun D ρ W hD hC => ?_)
      have H9 := Lib.hid (H1.out.trans (hC.mono H1.out.size))
      clear hC hD
      go_wp2
      go_ret
      exact ⟨by rw [HR.out]; rfl, H9.out⟩
    | succ gg =>
      have hi : i < f.hs.length := by omega
      have hiz : (i : Int) < f.hs.length := by omega
      have hiz7 : (i : Int) ≤ 7 := by omega
      obtain ⟨c, off, hA, hcB, hc⟩ := vals_elem hoc_len HZ.out (by decide) hi
      have hY := fun j v hv => ((hBr.out.cell (p := ⟨c, off + i * 3 + j, none⟩) (by simp; omega)).trans (hc j v hv))
      subst hA
      have hbx := HBN.out.2.2.2 _ (List.getElem_mem hi)
      have hba := bit_and9 hn8 (show i < 8 by omega)
      cases hop : n.testBit i
      · rw [hop] at hba
        simp only [Bool.false_eq_true, if_false] at hba
        have HOP := Lib.hid hop
        generalize f.hs[i] = h at hY hbx
        have HY := Lib.hid hY
        clear hop hY hc hbx
        go_wp2_with (show wpList _ _ _ (Oper.mk (some 26) _ _ _ _ _ :: _) _ _
                     refine wpList_load_at 38 (.tmp 25) rfl rfl (by simp [Act.eval]) [.int .i64 h.a, .int .i64 h.lo, .int .i64 h.hi] HY.out rowHole ?_)
        go_roundg gg
        case measure => omega
        case rel => exact ⟨i + 1, by omega, rfl, by go_num, fun j hj => by rcases Nat.lt_succ_iff_lt_or_eq.1 hj with hj | rfl; exact hcl.out j hj; exact HOP.out, hBr.out.alloc hBr.out.size _⟩
      · rw [hop] at hba
        simp only [if_true] at hba
        have HOP := Lib.hid hop
        have hA1 := fun c => HA.out.2 i c hi hop hcl.out
        have hph := pickL_bnd (n := atL us 0) hbx.2.2.2.1
        have hpq := fun W => HPK.out f.hs[i].lo f.hs[i].hi (by omega) 0 W
        generalize f.hs[i] = h at hY hbx hA1 hph hpq
        have HY := Lib.hid hY
        have HA1 := Lib.hid hA1
        generalize pickL h.lo h.hi (atL us 0) = ph at HA1 hph hpq
        have HPQ := Lib.hid hpq
        have hx1 := hbx.1
        have hx2 := hbx.2.1
        have hx3 : 0 ≤ ph := by omega
        have hx4 : ph ≤ 60 := by omega
        have HBX := Lib.hid hbx
        clear hop hY hc hbx hA1 hph hpq
        go_wp2_with (show wpList _ _ _ (Oper.mk (some 26) _ _ _ _ _ :: _) _ _
                     refine wpList_load_at 38 (.tmp 25) rfl rfl (by simp [Act.eval]) [.int .i64 h.a, .int .i64 h.lo, .int .i64 h.hi] HY.out rowHole ?_)
        have hle : wr.heap.size < (wr.alloc (.cells #[.int .i64 h.a, .int .i64 h.lo, .int .i64 h.hi] 38)).heap.size := by simp
        have m5 := alloc_at0 wr (.cells #[.int .i64 h.a, .int .i64 h.lo, .int .i64 h.hi] 38)
        have hb5 := hBr.out.alloc hBr.out.size (.cells #[.int .i64 h.a, .int .i64 h.lo, .int .i64 h.hi] 38)
        obtain ⟨w5, hw5⟩ : ∃ w5, wr.alloc (.cells #[.int .i64 h.a, .int .i64 h.lo, .int .i64 h.hi] 38) = w5 := ⟨_, rfl⟩
        rw [hw5] at hle m5 hb5 ⊢
        have H5 := Lib.hid (And.intro hb5 (And.intro m5 hle))
        have hx3 : IntKind.i64.wrap (h.a + ph) = h.a + ph := IntWalk.i64_in _ (by omega)
        clear hle m5 hb5 hw5 hc5
        refine R6.wp_walk (C := fun _ _ W => Below w5.heap.size w5 W) 73 (by kernel_rfl) (by kernel_rfl) rfl (Below.refl _ _).drew ?_
        simp only []
        repeat
          (refine' R6.WalkR.det (fun _ => rfl) (fun D ρ W hK hC => ?_) ?_
           rotate_left
           · have f0 := HCF.out W (H5.out.1.trans (hC.mono H5.out.1.size))
             have f1 := fun i => cell_of_row W wr.heap.size i _ _ _ ((hC.block _ H5.out.2.2).trans H5.out.2.1)
             have HC := Lib.hid hC
             clear hC hK
             go_simp
             first
               | with_reducible exact ⟨rfl, HC.out⟩
               | (go_at_call 40; (with_reducible refine (HAT.out 0 (by decide) W (H5.out.1.trans (HC.out.mono H5.out.1.size))).mono ?_); rintro e W1 ⟨rfl, rfl⟩; exact ⟨_, rfl, rfl, HC.out⟩)
               | (go_at_call 59; (with_reducible refine (HPQ.out W).mono ?_); rintro e W1 ⟨rfl, hB1⟩; exact ⟨_, rfl, rfl, HC.out.trans (hB1.mono HC.out.size)⟩)
           simp only [Act.put, List.setIfInBounds_toArray, List.set_cons_succ, List.set_cons_zero])
        refine R6.WalkR.nil (fun D ρ W hD hC => ?_)
        obtain ⟨w6, hw6⟩ : ∃ w6, W = w6 := ⟨_, rfl⟩
        rw [hw6] at hC ⊢
        have H6 := Lib.hid (H5.out.1.trans (hC.mono H5.out.1.size))
        clear hC hD hw6
        clear D ρ W
        have hc6 := HCF.out w6 H6.out
        go_wp2
        obtain ⟨wo, rfl⟩ : ∃ wo : World, wo = wr := ⟨_, rfl⟩
        go_loopg [7, 10] f.hs.length (fun gh s7 s10 wz => ∃ m : Nat, i + 1 + m + gh = f.hs.length + (i + 1) ∧ i + 1 + m ≤ f.hs.length ∧ s7 = .int .i64 (h.a + ph + crS f us i m) ∧ s10 = .int .i64 ((i + 1 + m : Nat) : Int) ∧ Hid (∀ j, i < j → j < i + 1 + m → n.testBit j = false) ∧ Hid (Below w1.heap.size w1 wz))
        case atStart => exact ⟨0, by omega, by omega, by simp [crS], by go_num, fun j h1 h2 => absurd h2 (by omega), H6.out⟩
        case round =>
          obtain ⟨m, hmg, hml, rfl, rfl, HCC, HBi⟩ := hrel
          have hc7 := HCF.out wr HBi.out
          clear hc6
          have hcr := HCR.out i m
          have hcr1 := mul_bnd (c := m) (by omega) (show 0 ≤ f.c0 ∧ f.c0 ≤ 60 by have := HBN.out.2.2.1; omega)
          have hcr2 := mul_bnd (c := m) (by omega) (show 0 ≤ f.c1 ∧ f.c1 ≤ 60 by have := HBN.out.2.2.1; omega)
          have hcs1 : 0 ≤ crS f us i m := by omega
          have hcs2 : crS f us i m ≤ 480 := by omega
          have hsn : crS f us i (m + 1) = crS f us i m + pickL f.c0 f.c1 (atL us ((i : Int) + 1 + m)) := rfl
          have hR := HA1.out m
          clear hcr hcr1 hcr2
          generalize crS f us i m = cs at hcs1 hcs2 hsn hR ⊢
          by_cases hend : i + 1 + m = f.hs.length
          · replace hR := hR (by omega) HCC.out (.inl hend)
            have hez : ((i + 1 + m : Nat) : Int) = (f.hs.length : Int) := by rw [hend]
            rw [hez]
            clear hez hend hsn hmg hml hig
            have HR := Lib.hid hR
            clear hR
            obtain ⟨hd1, hd2, hd3⟩ := div_facts (s := ps) (a := h.a + ph + cs) ⟨hps1, hps2⟩ (by omega)
            go_wp2
            refine R6.wp_walk (C := fun _ _ W => Below w1.heap.size w1 W) 73 (by kernel_rfl) (by kernel_rfl) rfl HBi.out.drew ?_
            simp only []
            repeat
              (refine' R6.WalkR.det (fun _ => rfl) (fun D ρ W hK hC => ?_) ?_
               rotate_left
               · have f0 := HCF.out W hC
                 have HC := Lib.hid hC
                 clear hC hK
                 go_simp
                 first
                   | with_reducible exact ⟨rfl, HC.out⟩
                   | (go_at_call 40; (with_reducible refine (HAT.out 1 (by decide) W HC.out).mono ?_); rintro e W1 ⟨rfl, rfl⟩; exact ⟨_, rfl, rfl, HC.out⟩)
                   | (go_at_call 59; (with_reducible refine (HPS.out W).mono ?_); rintro e W1 ⟨rfl, hB1⟩; exact ⟨_, rfl, rfl, HC.out.trans (hB1.mono HC.out.size)⟩)
               simp only [Act.put, List.setIfInBounds_toArray, List.set_cons_succ, List.set_cons_zero])
            refine R6.WalkR.nil (fun D ρ W hD hC => ?_)
            have H9 := Lib.hid (H1.out.trans (hC.mono H1.out.size))
            clear hC hD
            go_wp2
            go_ret
            exact ⟨by rw [HR.out]; rfl, H9.out⟩
          · have hlt : i + 1 + m < f.hs.length := by omega
            have hltz : ((i + 1 + m : Nat) : Int) < f.hs.length := by omega
            have hlt7 : ((i + 1 + m : Nat) : Int) ≤ 7 := by omega
            have hbb := bit_and9 hn8 (show i + 1 + m < 8 by omega)
            cases hoc2 : n.testBit (i + 1 + m)
            · rw [hoc2] at hbb
              simp only [Bool.false_eq_true, if_false] at hbb
              have HOC := Lib.hid hoc2
              have hpc := pickL_bnd (n := atL us ((i : Int) + 1 + m)) (show f.c0 ≤ f.c1 by have := HBN.out.2.2.1; omega)
              have hpw := fun W => HPC.out ((i : Int) + 1 + m) W
              have hpa := fun W hW => HAT.out ((i : Int) + 1 + m) (by omega) W hW
              generalize atL us ((i : Int) + 1 + m) = az at hpc hpw hpa hsn
              generalize pickL f.c0 f.c1 az = pc at hpc hpw hsn
              have HSN := Lib.hid hsn
              have HPW := Lib.hid hpw
              have HPA := Lib.hid hpa
              have hpc1 : 0 ≤ pc := by have := HBN.out.2.2.1; omega
              have hpc2 : pc ≤ 60 := by have := HBN.out.2.2.1; omega
              have hx4 : IntKind.i64.wrap (h.a + ph + cs + pc) = h.a + ph + cs + pc := IntWalk.i64_in _ (by omega)
              clear hoc2 hend hpc hpw hpa hsn hR
              go_wp2
              refine R6.wp_walk (C := fun _ _ W => Below w1.heap.size w1 W) 73 (by kernel_rfl) (by kernel_rfl) rfl HBi.out.drew ?_
              simp only []
              repeat
                (refine' R6.WalkR.det (fun _ => rfl) (fun D ρ W hK hC => ?_) ?_
                 rotate_left
                 · have f0 := HCF.out W hC
                   have HC := Lib.hid hC
                   clear hC hK
                   go_simp
                   first
                     | with_reducible exact ⟨rfl, HC.out⟩
                     | (go_at_call 40; (with_reducible refine (HPA.out W HC.out).mono ?_); rintro e W1 ⟨rfl, rfl⟩; exact ⟨_, rfl, rfl, HC.out⟩)
                     | (go_at_call 59; (with_reducible refine (HPW.out W).mono ?_); rintro e W1 ⟨rfl, hB1⟩; exact ⟨_, rfl, rfl, HC.out.trans (hB1.mono HC.out.size)⟩)
                 simp only [Act.put, List.setIfInBounds_toArray, List.set_cons_succ, List.set_cons_zero])
              refine R6.WalkR.nil (fun D ρ W hD hC => ?_)
              have H9 := Lib.hid hC
              clear hC hD
              go_wp2
              go_roundg (gk - 1)
              case measure => omega
              case rel => exact ⟨m + 1, by omega, by omega, by rw [HSN.out]; congr 1; omega, by go_num, fun j h1 h2 => by rcases Nat.lt_or_ge j (i + 1 + m) with h | h; exact HCC.out j h1 h; rw [show j = i + 1 + m by omega]; exact HOC.out, H9.out⟩
            · rw [hoc2] at hbb
              simp only [if_true] at hbb
              replace hR := hR (by omega) HCC.out (.inr hoc2)
              clear hsn hoc2 hend
              have HR := Lib.hid hR
              clear hR
              obtain ⟨hd1, hd2, hd3⟩ := div_facts (s := ps) (a := h.a + ph + cs) ⟨hps1, hps2⟩ (by omega)
              go_wp2
              refine R6.wp_walk (C := fun _ _ W => Below w1.heap.size w1 W) 73 (by kernel_rfl) (by kernel_rfl) rfl HBi.out.drew ?_
              simp only []
              repeat
                (refine' R6.WalkR.det (fun _ => rfl) (fun D ρ W hK hC => ?_) ?_
                 rotate_left
                 · have f0 := HCF.out W hC
                   have HC := Lib.hid hC
                   clear hC hK
                   go_simp
                   first
                     | with_reducible exact ⟨rfl, HC.out⟩
                     | (go_at_call 40; (with_reducible refine (HAT.out 1 (by decide) W HC.out).mono ?_); rintro e W1 ⟨rfl, rfl⟩; exact ⟨_, rfl, rfl, HC.out⟩)
                     | (go_at_call 59; (with_reducible refine (HPS.out W).mono ?_); rintro e W1 ⟨rfl, hB1⟩; exact ⟨_, rfl, rfl, HC.out.trans (hB1.mono HC.out.size)⟩)
                 simp only [Act.put, List.setIfInBounds_toArray, List.set_cons_succ, List.set_cons_zero])
              refine R6.WalkR.nil (fun D ρ W hD hC => ?_)
              have H9 := Lib.hid (H1.out.trans (hC.mono H1.out.size))
              clear hC hD
              go_wp2
              go_ret
              exact ⟨by rw [HR.out]; rfl, H9.out⟩


end Go.Proofs.Ytjjipkgconmfcaa

namespace Go.Proofs.Ytjjipkgconmfcaa
open Go.RowKit
open R6 (done done_ne done_me upd_ne upd_me)

attribute [local go_sem] gives

/-- A flute at another place. -/
def fuAt' (f : Fu) (A : Option Addr) (c : Nat) : Fu := { f with A := A, cap := c }

set_option maxRecDepth 100000 in
set_option maxHeartbeats 8000000 in
theorem rfSame_any (f : Fu) (A' : Option Addr) (c' : Nat) (hl : f.hs.length ≤ 1000000) (B B' : Nat) (w : World) (hB : B ≤ w.heap.size) (hB' : B' ≤ w.heap.size) (hz : FuAt w B f) (hz' : FuAt w B' (fuAt' f A' c')) :
    Calls Try.prog 18 #[.agg (fuc (fuAt' f A' c')).toArray, .agg (fuc f).toArray] w fun e w' => e = .returned (.bool true) ∧ Below w.heap.size w w' := by
  have h1 : Vals w B f.A (f.hs.flatMap hoc) := hz
  have h2 : Vals w B' A' (f.hs.flatMap hoc) := hz'
  clear hz hz'
  unfold fuAt' fuc
  dsimp only
  obtain ⟨w1, hw1⟩ : ∃ w1, (w.alloc (.cells #[.int .i64 f.len, .int .i64 f.e0, .int .i64 f.e1, .int .i64 f.c0, .int .i64 f.c1, .int .i64 f.s0, .int .i64 f.s1, .slice A' f.hs.length c'] 28)).alloc (.cells #[.int .i64 f.len, .int .i64 f.e0, .int .i64 f.e1, .int .i64 f.c0, .int .i64 f.c1, .int .i64 f.s0, .int .i64 f.s1, .slice f.A f.hs.length f.cap] 28) = w1 := ⟨_, rfl⟩
  have hb1 : Below w.heap.size w w1 := by rw [← hw1]; exact ((Below.refl _ _).alloc (Nat.le_refl _) _).alloc (by simp) _
  have m0 : w1.heap[w.heap.size]? = some (.cells #[.int .i64 f.len, .int .i64 f.e0, .int .i64 f.e1, .int .i64 f.c0, .int .i64 f.c1, .int .i64 f.s0, .int .i64 f.s1, .slice A' f.hs.length c'] 28 (0, 0)) := by rw [← hw1]; exact alloc2_at0 _ _ _
  have m1 : w1.heap[w.heap.size + 1]? = some (.cells #[.int .i64 f.len, .int .i64 f.e0, .int .i64 f.e1, .int .i64 f.c0, .int .i64 f.c1, .int .i64 f.s0, .int .i64 f.s1, .slice f.A f.hs.length f.cap] 28 (0, 0)) := by rw [← hw1]; exact alloc2_at1 _ _ _
  have HV1 := Lib.hid (h1.below (hb1.mono hB))
  have HV2 := Lib.hid (h2.below (hb1.mono hB'))
  have hcf := fun (W : World) (hW : Below w1.heap.size w1 W) => And.intro (fun i => cell_of_row W w.heap.size i _ _ _ ((hW.block _ (lt_of_heap m0)).trans m0)) (fun i => cell_of_row W (w.heap.size + 1) i _ _ _ ((hW.block _ (lt_of_heap m1)).trans m1))
  have HCF := Lib.hid hcf
  obtain ⟨hc0, hc1⟩ := HCF.out w1 (Below.refl _ _)
  have H1 := Lib.hid hb1
  clear h1 h2 hb1 m0 m1 hcf
  generalize f.A = A at hw1 HCF HV1 hc1 ⊢
  go_enter Try.func18, Try.ntmps18
  go_wp2
  go_loopg [5] f.hs.length (fun gg s5 wx => ∃ k : Nat, k + gg = f.hs.length ∧ s5 = .int .i64 k ∧ Hid (Below w1.heap.size w1 wx))
  case atStart => exact ⟨0, by omega, rfl, Below.refl _ _⟩
  case round =>
    obtain ⟨k, hkg, rfl, hBr⟩ := hrel
    have hws := hBr.out.size
    clear hc0 hc1
    obtain ⟨hc0, hc1⟩ := HCF.out wr hBr.out
    cases gk with
    | zero =>
      obtain rfl : k = f.hs.length := by omega
      go_wp2
      go_ret
      exact ⟨rfl, H1.out.trans (hBr.out.mono H1.out.size)⟩
    | succ gg =>
      have hk : k < f.hs.length := by omega
      have hkz : (k : Int) < f.hs.length := by omega
      obtain ⟨c, off, hA, hcB, hcy⟩ := vals_elem hoc_len HV1.out (by decide) hk
      obtain ⟨d, off2, hA2, hdB, hdy⟩ := vals_elem hoc_len HV2.out (by decide) hk
      subst hA hA2
      have hB1 := H1.out.size
      have hy1 := fun W (hW : Below wr.heap.size wr W) j v hv => (((hBr.out.trans (hW.mono hws)).cell (p := ⟨c, off + k * 3 + j, none⟩) (by simp; omega)).trans (hcy j v hv))
      have hy2 := fun W (hW : Below wr.heap.size wr W) j v hv => (((hBr.out.trans (hW.mono hws)).cell (p := ⟨d, off2 + k * 3 + j, none⟩) (by simp; omega)).trans (hdy j v hv))
      generalize f.hs[k] = y at hy1 hy2 hcy hdy
      have HY1 := Lib.hid hy1
      have HY2 := Lib.hid hy2
      clear hy1 hy2 hcy hdy
      go_wp2
      refine R6.wp_walk (C := fun _ _ W => Below wr.heap.size wr W) 59 (by kernel_rfl) (by kernel_rfl) rfl (Below.refl _ _).drew ?_
      simp only []
      iterate 4
        (refine' R6.WalkR.det (fun _ => rfl) (fun D ρ W hK hC => ?_) ?_
         rotate_left
         · obtain ⟨f0, f1⟩ := HCF.out W (hBr.out.trans (hC.mono hws))
           have HC := Lib.hid hC
           clear hC hK
           go_simp
           with_reducible exact ⟨rfl, HC.out⟩
         simp only [Act.put, List.setIfInBounds_toArray, List.set_cons_succ, List.set_cons_zero])
      refine' R6.WalkR.det (fun _ => rfl) (fun D ρ W hK hC => ?_) ?_
      rotate_left
      · exact gives_load_at 38 (.tmp 51) rfl (by simp [Act.eval]) [.int .i64 y.a, .int .i64 y.lo, .int .i64 y.hi] (HY2.out W hC) rowHole ⟨rfl, hC⟩
      simp only [Act.put, List.setIfInBounds_toArray, List.set_cons_succ, List.set_cons_zero]
      iterate 4
        (refine' R6.WalkR.det (fun _ => rfl) (fun D ρ W hK hC => ?_) ?_
         rotate_left
         · obtain ⟨f0, f1⟩ := HCF.out W (hBr.out.trans (hC.mono hws))
           have HC := Lib.hid hC
           clear hC hK
           go_simp
           with_reducible exact ⟨rfl, HC.out⟩
         simp only [Act.put, List.setIfInBounds_toArray, List.set_cons_succ, List.set_cons_zero])
      refine' R6.WalkR.det (fun _ => rfl) (fun D ρ W hK hC => ?_) ?_
      rotate_left
      · exact gives_load_at 38 (.tmp 56) rfl (by simp [Act.eval]) [.int .i64 y.a, .int .i64 y.lo, .int .i64 y.hi] (HY1.out W hC) rowHole ⟨rfl, hC⟩
      simp only [Act.put, List.setIfInBounds_toArray, List.set_cons_succ, List.set_cons_zero]
      iterate 1
        (refine' R6.WalkR.det (fun _ => rfl) (fun D ρ W hK hC => ?_) ?_
         rotate_left
         · obtain ⟨f0, f1⟩ := HCF.out W (hBr.out.trans (hC.mono hws))
           have HC := Lib.hid hC
           clear hC hK
           go_simp
           with_reducible exact ⟨rfl, HC.out⟩
         simp only [Act.put, List.setIfInBounds_toArray, List.set_cons_succ, List.set_cons_zero])
      refine R6.WalkR.nil (fun D ρ W hD hC => ?_)
      have H9 := Lib.hid (hBr.out.trans (hC.mono hws))
      clear hC hD
      go_wp2
      go_roundg gg
      case measure => omega
      case rel => exact ⟨k + 1, by omega, by go_num, H9.out⟩

end Go.Proofs.Ytjjipkgconmfcaa

namespace Go.Proofs.Ytjjipkgconmfcaa
open Go.RowKit

theorem infoHole : (Try.prog.info? 38).map (fun i => (i.zero, i.size, i.bytes)) = some (some (.agg #[.int .i64 0, .int .i64 0, .int .i64 0]), 3, 24) := by kernel_rfl
def TwinPostF (w : World) (f : Fu) (e : Ending) (w' : World) : Prop := ∃ g c, e = .returned (.agg (fuc (fuAt' f (some ⟨g, 0, none⟩) c)).toArray) ∧ FuAt w' w'.heap.size (fuAt' f (some ⟨g, 0, none⟩) c) ∧ w.heap.size ≤ g ∧ Below w.heap.size w w'

set_option maxRecDepth 100000 in
set_option maxHeartbeats 8000000 in
theorem rfTwin_any (f : Fu) (hl : f.hs.length ≤ 1000000) (B : Nat) (w : World) (hB : B ≤ w.heap.size) (hz : FuAt w B f) :
    Calls Try.prog 26 #[.agg (fuc f).toArray] w (TwinPostF w f) := by
  have h1 : Vals w B f.A (f.hs.flatMap hoc) := hz
  obtain ⟨i0, hi, hz0, hz1, hz2⟩ := info_parts infoHole
  have HF := Lib.hid (And.intro hi (And.intro hz0 (And.intro hz1 hz2)))
  have hfl := flat_len hoc_len f.hs
  clear hz hi hz0 hz1 hz2
  unfold TwinPostF fuAt' fuc
  dsimp only
  obtain ⟨w1, hw1⟩ : ∃ w1, ((w.alloc (.cells #[.int .i64 f.len, .int .i64 f.e0, .int .i64 f.e1, .int .i64 f.c0, .int .i64 f.c1, .int .i64 f.s0, .int .i64 f.s1, .slice f.A f.hs.length f.cap] 28)).alloc (.cells #[.int .i64 0, .int .i64 0, .int .i64 0, .int .i64 0, .int .i64 0, .int .i64 0, .int .i64 0, .slice none 0 0] 28)).alloc (.cells #[] 38) = w1 := ⟨_, rfl⟩
  have hb1 : Below w.heap.size w w1 := by rw [← hw1]; exact (((Below.refl _ _).alloc (Nat.le_refl _) _).alloc (by simp) _).alloc (by simp; omega) _
  have m0 : w1.heap[w.heap.size]? = some (.cells #[.int .i64 f.len, .int .i64 f.e0, .int .i64 f.e1, .int .i64 f.c0, .int .i64 f.c1, .int .i64 f.s0, .int .i64 f.s1, .slice f.A f.hs.length f.cap] 28 (0, 0)) := by rw [← hw1]; exact alloc3_at0 _ _ _ _
  have m1 : w1.heap[w.heap.size + 1]? = some (.cells #[.int .i64 0, .int .i64 0, .int .i64 0, .int .i64 0, .int .i64 0, .int .i64 0, .int .i64 0, .slice none 0 0] 28 (0, 0)) := by rw [← hw1]; exact alloc3_at1 _ _ _ _
  have m2 : w1.heap[w.heap.size + 1 + 1]? = some (.cells #[] 38 (0, 0)) := by rw [← hw1]; exact alloc3_at2 _ _ _ _
  have hc0 := fun i => cell_of_row w1 w.heap.size i _ _ _ m0
  have H1 := Lib.hid (And.intro hb1 (And.intro m0 (And.intro m1 (And.intro m2 (h1.below (hb1.mono hB))))))
  have hs1 : w1.heap.size = w.heap.size + 3 := by rw [← hw1]; simp
  have HS1 := Lib.hid hs1
  clear hb1 m0 m1 m2 h1 hs1
  have HFL := Lib.hid hfl
  clear hfl
  generalize f.A = A at hw1 hc0 H1 ⊢
  go_enter Try.func26, Try.ntmps26
  go_wp2_with (at_builtin
               refine wpl_clone (by rfl) (.tmp 3) (.tmp 5) _ (by rfl) (w.heap.size + 1 + 1) 38 i0 _ 3 24 Try.underlying26 HF.out.1 HF.out.2.1 HF.out.2.2.1 HF.out.2.2.2 rfl (by omega) _ (by rfl) H1.out.2.2.2.1 (Nat.le_refl _)
                 B A f.hs.length f.cap (f.hs.flatMap hoc) (by rfl) H1.out.2.2.2.2 HFL.out (hoc_one _) (by simp only [maxLen]; omega) (by omega) ?_
               intro g c1 w3 hown hgrow hat hg1 hg1s
               have h30 := (hgrow.block w.heap.size (lt_of_heap H1.out.2.1) (by simp only [ne_eq, Option.some.injEq]; omega)).trans H1.out.2.1
               have h31 := (hgrow.block (w.heap.size + 1) (lt_of_heap H1.out.2.2.1) (by simp only [ne_eq, Option.some.injEq]; omega)).trans H1.out.2.2.1
               have hB3 : Below w.heap.size w w3 := H1.out.1.grown hgrow H1.out.1.size (fun k e => by cases e; omega)
               have hc3 := fun i => cell_of_row w3 w.heap.size i _ _ _ h30
               have hf3 := fun i => frozen_of_row w3 w.heap.size i _ _ h30
               have hc4 := fun i => cell_of_row w3 (w.heap.size + 1) i _ _ _ h31
               have hf4 := fun i => frozen_of_row w3 (w.heap.size + 1) i _ _ h31
               have H3 := Lib.hid (And.intro hown (And.intro hB3 (And.intro hg1 (And.intro h30 h31))))
               clear hown hgrow hat hg1 hg1s hB3 h30 h31 hc0)
  refine bodyPost_ret (v := .agg #[.int .i64 f.len, .int .i64 f.e0, .int .i64 f.e1, .int .i64 f.c0, .int .i64 f.c1, .int .i64 f.s0, .int .i64 f.s1, .slice (some ⟨g, 0, none⟩) f.hs.length c1]) (by simp [results, Try.results26, go_sem, hc4]) rfl ⟨g, c1, rfl, ?_, by have := H3.out.2.2.1; omega, ?_⟩
  · have hg := H3.out.2.2.1
    refine Vals.own (base := w.heap.size + 1 + 1) (e := 38) (size := 3) (n := f.hs.length) (cap := c1) ?_
    repeat (refine ownsRow_setCell_other ?_ (by simp only [Value.ownBlock, ne_eq, Option.some.injEq]; omega) _)
    exact H3.out.1
  · repeat (refine Below.setCell ?_ (by simp) _)
    exact H3.out.2.1

end Go.Proofs.Ytjjipkgconmfcaa

namespace Go.Proofs.Ytjjipkgconmfcaa
open Go.RowKit Go.Maps
open R6 (done done_ne done_me upd_ne upd_me)

attribute [local go_sem] gives

/-- Holes lie in a block of their own. -/
def OwnHo (W : World) (g : Nat) (hs : List Ho) (tl : List Value) : Prop := W.heap[g]? = some (.cells (hs.flatMap hoc ++ tl).toArray 38 (0, 0))
theorem own_ho {W : World} {base g c : Nat} {hs : List Ho} (h : W.ownsRow base 38 3 (.slice (some ⟨g, 0, none⟩) hs.length c) hs.length (hs.flatMap hoc)) : ∃ tl, OwnHo W g hs tl := by
  rcases h.2 with ⟨e, _⟩ | ⟨g', cap', cur, hv, _, hh, _, _, hsz, hcs⟩
  · cases e
  · simp only [Value.slice.injEq, Option.some.injEq, Addr.mk.injEq, and_true] at hv
    obtain ⟨⟨rfl, _⟩, _, _⟩ := hv
    refine ⟨cur.toList.drop (hs.length * 3), ?_⟩
    unfold OwnHo
    rw [hh, ← hcs, List.take_append_drop, Array.toArray_toList]
theorem OwnHo.vals {W : World} {g : Nat} {hs : List Ho} {tl : List Value} (h : OwnHo W g hs tl) : Vals W W.heap.size (some ⟨g, 0, none⟩) (hs.flatMap hoc) :=
  vals_in h (lt_of_heap h) (fun j v hv => by
    have hj := (List.getElem?_eq_some_iff.1 hv).1
    rw [Nat.zero_add, List.getElem?_toArray, List.getElem?_append_left hj]
    exact hv)
def TwinOwn (w : World) (f : Fu) (e : Ending) (w' : World) : Prop := ∃ g c, e = .returned (.agg (fuc (fuAt' f (some ⟨g, 0, none⟩) c)).toArray) ∧ (∃ tl, OwnHo w' g f.hs tl) ∧ w.heap.size ≤ g ∧ Below w.heap.size w w'

set_option maxRecDepth 100000 in
set_option maxHeartbeats 8000000 in
theorem rfTwin_own (f : Fu) (hl : f.hs.length ≤ 1000000) (B : Nat) (w : World) (hB : B ≤ w.heap.size) (hz : FuAt w B f) :
    Calls Try.prog 26 #[.agg (fuc f).toArray] w (TwinOwn w f) := by
  have h1 : Vals w B f.A (f.hs.flatMap hoc) := hz
  obtain ⟨i0, hi, hz0, hz1, hz2⟩ := info_parts infoHole
  have HF := Lib.hid (And.intro hi (And.intro hz0 (And.intro hz1 hz2)))
  have hfl := flat_len hoc_len f.hs
  clear hz hi hz0 hz1 hz2
  unfold TwinOwn fuAt' fuc
  dsimp only
  obtain ⟨w1, hw1⟩ : ∃ w1, ((w.alloc (.cells #[.int .i64 f.len, .int .i64 f.e0, .int .i64 f.e1, .int .i64 f.c0, .int .i64 f.c1, .int .i64 f.s0, .int .i64 f.s1, .slice f.A f.hs.length f.cap] 28)).alloc (.cells #[.int .i64 0, .int .i64 0, .int .i64 0, .int .i64 0, .int .i64 0, .int .i64 0, .int .i64 0, .slice none 0 0] 28)).alloc (.cells #[] 38) = w1 := ⟨_, rfl⟩
  have hb1 : Below w.heap.size w w1 := by rw [← hw1]; exact (((Below.refl _ _).alloc (Nat.le_refl _) _).alloc (by simp) _).alloc (by simp; omega) _
  have m0 : w1.heap[w.heap.size]? = some (.cells #[.int .i64 f.len, .int .i64 f.e0, .int .i64 f.e1, .int .i64 f.c0, .int .i64 f.c1, .int .i64 f.s0, .int .i64 f.s1, .slice f.A f.hs.length f.cap] 28 (0, 0)) := by rw [← hw1]; exact alloc3_at0 _ _ _ _
  have m1 : w1.heap[w.heap.size + 1]? = some (.cells #[.int .i64 0, .int .i64 0, .int .i64 0, .int .i64 0, .int .i64 0, .int .i64 0, .int .i64 0, .slice none 0 0] 28 (0, 0)) := by rw [← hw1]; exact alloc3_at1 _ _ _ _
  have m2 : w1.heap[w.heap.size + 1 + 1]? = some (.cells #[] 38 (0, 0)) := by rw [← hw1]; exact alloc3_at2 _ _ _ _
  have hc0 := fun i => cell_of_row w1 w.heap.size i _ _ _ m0
  have H1 := Lib.hid (And.intro hb1 (And.intro m0 (And.intro m1 (And.intro m2 (h1.below (hb1.mono hB))))))
  have hs1 : w1.heap.size = w.heap.size + 3 := by rw [← hw1]; simp
  have HS1 := Lib.hid hs1
  clear hb1 m0 m1 m2 h1 hs1
  have HFL := Lib.hid hfl
  clear hfl
  generalize f.A = A at hw1 hc0 H1 ⊢
  go_enter Try.func26, Try.ntmps26
  go_wp2_with (at_builtin
               refine wpl_clone (by rfl) (.tmp 3) (.tmp 5) _ (by rfl) (w.heap.size + 1 + 1) 38 i0 _ 3 24 Try.underlying26 HF.out.1 HF.out.2.1 HF.out.2.2.1 HF.out.2.2.2 rfl (by omega) _ (by rfl) H1.out.2.2.2.1 (Nat.le_refl _)
                 B A f.hs.length f.cap (f.hs.flatMap hoc) (by rfl) H1.out.2.2.2.2 HFL.out (hoc_one _) (by simp only [maxLen]; omega) (by omega) ?_
               intro g c1 w3 hown hgrow hat hg1 hg1s
               have h30 := (hgrow.block w.heap.size (lt_of_heap H1.out.2.1) (by simp only [ne_eq, Option.some.injEq]; omega)).trans H1.out.2.1
               have h31 := (hgrow.block (w.heap.size + 1) (lt_of_heap H1.out.2.2.1) (by simp only [ne_eq, Option.some.injEq]; omega)).trans H1.out.2.2.1
               have hB3 : Below w.heap.size w w3 := H1.out.1.grown hgrow H1.out.1.size (fun k e => by cases e; omega)
               have hc3 := fun i => cell_of_row w3 w.heap.size i _ _ _ h30
               have hf3 := fun i => frozen_of_row w3 w.heap.size i _ _ h30
               have hc4 := fun i => cell_of_row w3 (w.heap.size + 1) i _ _ _ h31
               have hf4 := fun i => frozen_of_row w3 (w.heap.size + 1) i _ _ h31
               have H3 := Lib.hid (And.intro hown (And.intro hB3 (And.intro hg1 (And.intro h30 h31))))
               clear hown hgrow hat hg1 hg1s hB3 h30 h31 hc0)
  refine bodyPost_ret (v := .agg #[.int .i64 f.len, .int .i64 f.e0, .int .i64 f.e1, .int .i64 f.c0, .int .i64 f.c1, .int .i64 f.s0, .int .i64 f.s1, .slice (some ⟨g, 0, none⟩) f.hs.length c1]) (by simp [results, Try.results26, go_sem, hc4]) rfl ⟨g, c1, rfl, ?_, by have := H3.out.2.2.1; omega, ?_⟩
  · have hg := H3.out.2.2.1
    refine own_ho (base := w.heap.size + 1 + 1) (c := c1) ?_
    repeat (refine ownsRow_setCell_other ?_ (by simp only [Value.ownBlock, ne_eq, Option.some.injEq]; omega) _)
    exact H3.out.1
  · repeat (refine Below.setCell ?_ (by simp) _)
    exact H3.out.2.1

/-- One block is written in some order. -/
structure PutC (wq : World) (b : Nat) (t : TypeId) (F : (Nat → Bool) → List Value) (D : Nat → Bool) (_σ : Nat → Value) (W : World) : Prop where
  bel : Below b wq W
  oth : ∀ k, k ≠ b → W.heap[k]? = wq.heap[k]?
  own : W.heap[b]? = some (.cells (F D).toArray t (0, 0))
section
variable {wq W W' : World} {b : Nat} {t : TypeId} {F : (Nat → Bool) → List Value} {D : Nat → Bool} {σ σ' : Nat → Value}
theorem PutC.start (h : wq.heap[b]? = some (.cells (F D).toArray t (0, 0))) : PutC wq b t F D σ wq.drew := ⟨(Below.refl _ _).drew, fun _ _ => rfl, h⟩
theorem PutC.move (h : PutC wq b t F D σ W) {k : Nat} (hk : F (done D k) = F D) : PutC wq b t F (done D k) σ' W := ⟨h.bel, h.oth, by rw [hk]; exact h.own⟩
theorem PutC.put (h : PutC wq b t F D σ W) (hP : Put W W' b) {k : Nat} {L : List Value} (hM : W'.heap[b]? = some (.cells L.toArray t (0, 0))) (hq : L = F (done D k)) : PutC wq b t F (done D k) σ' W' :=
  ⟨h.bel.trans (hP.below (Nat.le_refl _)), fun k hk => (hP.other k hk).trans (h.oth k hk), by rw [← hq]; exact hM⟩
end

/-- The first holes of some, changed. -/
def mapK (g : Nat → Ho → Ho) (k : Nat) (hs : List Ho) : List Ho := (hs.take k).mapIdx g ++ hs.drop k
theorem mapK_zero (g : Nat → Ho → Ho) (hs : List Ho) : mapK g 0 hs = hs := by simp [mapK]
theorem mapK_all (g : Nat → Ho → Ho) (hs : List Ho) : mapK g hs.length hs = hs.mapIdx g := by simp [mapK]
theorem mapK_len (g : Nat → Ho → Ho) (k : Nat) (hs : List Ho) : (mapK g k hs).length = hs.length := by simp [mapK]; omega
theorem mapK_at {g : Nat → Ho → Ho} {k : Nat} {hs : List Ho} (hk : k < hs.length) : mapK g k hs = (hs.take k).mapIdx g ++ hs[k] :: hs.drop (k + 1) := by
  unfold mapK; rw [List.drop_eq_getElem_cons hk]
theorem mapK_next {g : Nat → Ho → Ho} {k : Nat} {hs : List Ho} (hk : k < hs.length) : mapK g (k + 1) hs = (hs.take k).mapIdx g ++ g k hs[k] :: hs.drop (k + 1) := by
  unfold mapK
  rw [List.take_succ_eq_append_getElem hk, List.mapIdx_append]
  simp [Nat.min_eq_left (Nat.le_of_lt hk)]
theorem mapK_elem {g : Nat → Ho → Ho} {k j : Nat} {hs : List Ho} (hj : j < hs.length) : (mapK g k hs)[j]? = some (if j < k then g j hs[j] else hs[j]) := by
  unfold mapK
  by_cases h : j < k
  · rw [if_pos h, List.getElem?_append_left (by simp; omega)]
    simp [h, hj]
  · rw [if_neg h, List.getElem?_append_right (by simp; omega)]
    have e : k + (j - min k hs.length) = j := by omega
    simp [e, hj]
/-- A cell of the next hole is written. -/
theorem mapK_set {g : Nat → Ho → Ho} {k j : Nat} {hs : List Ho} {tl : List Value} (hk : k < hs.length) (hj : j < 3) (v : Value) (h : (hoc hs[k]).set j v = hoc (g k hs[k])) :
    ((mapK g k hs).flatMap hoc ++ tl).set (k * 3 + j) v = (mapK g (k + 1) hs).flatMap hoc ++ tl := by
  have hl : (((hs.take k).mapIdx g).flatMap hoc).length = k * 3 := by rw [flat_len hoc_len]; simp; omega
  rw [mapK_at hk, mapK_next hk]
  simp only [List.flatMap_append, List.flatMap_cons, List.append_assoc]
  rw [List.set_append_right _ _ (by omega), hl, show k * 3 + j - k * 3 = j by omega, List.set_append_left _ _ (by rw [hoc_len]; exact hj), h]

end Go.Proofs.Ytjjipkgconmfcaa
