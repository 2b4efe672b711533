/-
  Texts laid together: FrB, FvA, FvB.
-/
import Derived.Outline
import Derived.Test.YtjjipkgconmfcaaB96
import Derived.Test.YtjjipkgconmfcaaB914
import Derived.Test.YtjjipkgconmfcaaB916
set_option linter.all false
namespace Go.Proofs.Ytjjipkgconmfcaa
open Go.RowKit
open R6 (done done_ne done_me upd_ne upd_me)

attribute [local go_sem] gives

theorem prevH {hs : List Ho} {k : Nat} (hk : k < hs.length) (h1 : 0 < k) : loH hs k = (hs[k - 1]'(by omega)).a + 1 := by
  have : k - 1 < hs.length := by omega
  simp [loH, show k ≠ 0 by omega, this]
/-- A hole's place, by the reference's two questions. -/
theorem refH {least a len : Int} (h : 50 ≤ least) : inR a least (len - 1) = (inR a 50 (len - 1) && !decide (a < least)) := by
  rw [Bool.eq_iff_iff]
  simp only [Bool.and_eq_true, inR_iff, Bool.not_eq_true', decide_eq_false_iff_not]
  omega

set_option maxRecDepth 100000 in
set_option maxHeartbeats 8000000 in
theorem rfFlute_any (f : Fu) (hl : f.hs.length ≤ 1000000) (B : Nat) (w : World) (hB : B ≤ w.heap.size) (hz : FuAt w B f) :
    Calls Try.prog 37 #[.agg (fuc f).toArray] w fun e w' => e = .returned (.bool (okFu f)) ∧ Below w.heap.size w w' := by
  obtain ⟨w1, hw1⟩ : ∃ w1, w.alloc (.cells (fuc f).toArray 28) = w1 := ⟨_, rfl⟩
  have hb1 : Below w.heap.size w w1 := by rw [← hw1]; exact grow1 _ _
  have m1 : w1.heap[w.heap.size]? = some (.cells (fuc f).toArray 28 (0, 0)) := by rw [← hw1]; exact alloc_at0 _ _
  have hcf := fun (W : World) (hW : Below w1.heap.size w1 W) i => cell_of_row W w.heap.size i _ _ _ ((hW.block _ (lt_of_heap m1)).trans m1)
  have hsz := lt_of_heap m1
  have hz' : Vals w1 B f.A (f.hs.flatMap hoc) := hz.below (hb1.mono hB)
  have HZ := Lib.hid hz'
  have hx : okFu f = (allB 50 20000 [f.len] && okS f.e0 f.e1 0 60 && okS f.c0 f.c1 0 60 && okS f.s0 f.s1 100000 500000 && decide (f.hs.length ≤ 8) && hoL f.len f.hs 50) := rfl
  have hbl : allB 50 20000 [f.len] = true → 50 ≤ f.len ∧ f.len ≤ 20000 := fun h => by rw [allB_one, inR_iff] at h; exact h
  rw [hx, allB_one] at *
  have HL := Lib.hid (fun W => rfWithin_any f.len 50 20000 W)
  have HE := Lib.hid (fun W => rfSpanned_any f.e0 f.e1 0 60 W)
  have HK := Lib.hid (fun W => rfSpanned_any f.c0 f.c1 0 60 W)
  have HS := Lib.hid (fun W => rfSpanned_any f.s0 f.s1 100000 500000 W)
  have H1 := Lib.hid hb1
  have HID := Lib.hid (fun (k : Nat) (hk : k < f.hs.length) => hoL_step (len := f.len) hk)
  clear hz hz' hb1 m1 hx
  unfold fuc at hw1 hcf ⊢
  have HCF := Lib.hid hcf
  have hc := HCF.out w1 (Below.refl _ _)
  have HB := Lib.hid (Below.refl w1.heap.size w1)
  clear hcf
  obtain ⟨X, hX⟩ : ∃ X, X = hoL f.len f.hs 50 := ⟨_, rfl⟩
  rw [← hX]
  have hX0 : hoL f.len (f.hs.drop 0) (loH f.hs 0) = X := by rw [hX]; rfl
  have HX := Lib.hid hX0
  clear hX hX0
  generalize okS f.s0 f.s1 100000 500000 = v4 at HS ⊢
  generalize okS f.c0 f.c1 0 60 = v3 at HK ⊢
  generalize okS f.e0 f.e1 0 60 = v2 at HE ⊢
  generalize inR f.len 50 20000 = v1 at HL hbl ⊢
  cases v1
  · go_enter Try.func37, Try.ntmps37
    go_wp2_with (first
      | (go_at_call 60; refine (HL.out _).mono ?_; rintro e w' ⟨rfl, rfl⟩))
    go_ret
    exact ⟨rfl, H1.out.trans (HB.out.mono H1.out.size)⟩
  have hln := hbl (by first | trivial | rfl)
  clear hbl
  cases v2
  · go_enter Try.func37, Try.ntmps37
    go_wp2_with (first
      | (go_at_call 58
         (with_reducible show Calls _ _ #[.agg #[.int .i64 f.e0, _], _, _] _ _)
         refine (HE.out _).mono ?_
         rintro e w' ⟨rfl, hB'⟩
         have hK := HB.out.trans (hB'.mono HB.out.size)
         clear hc HB hB'
         have HB := Lib.hid hK
         have hc := HCF.out w' hK
         clear hK)
      | (go_at_call 60; refine (HL.out _).mono ?_; rintro e w' ⟨rfl, rfl⟩))
    go_ret
    exact ⟨rfl, H1.out.trans (HB.out.mono H1.out.size)⟩
  cases v3
  · go_enter Try.func37, Try.ntmps37
    go_wp2_with (first
      | (go_at_call 58
         (with_reducible show Calls _ _ #[.agg #[.int .i64 f.c0, _], _, _] _ _)
         refine (HK.out _).mono ?_
         rintro e w' ⟨rfl, hB'⟩
         have hK := HB.out.trans (hB'.mono HB.out.size)
         clear hc HB hB'
         have HB := Lib.hid hK
         have hc := HCF.out w' hK
         clear hK)
      | (go_at_call 58
         (with_reducible show Calls _ _ #[.agg #[.int .i64 f.e0, _], _, _] _ _)
         refine (HE.out _).mono ?_
         rintro e w' ⟨rfl, hB'⟩
         have hK := HB.out.trans (hB'.mono HB.out.size)
         clear hc HB hB'
         have HB := Lib.hid hK
         have hc := HCF.out w' hK
         clear hK)
      | (go_at_call 60; refine (HL.out _).mono ?_; rintro e w' ⟨rfl, rfl⟩))
    go_ret
    exact ⟨rfl, H1.out.trans (HB.out.mono H1.out.size)⟩
  cases v4
  · go_enter Try.func37, Try.ntmps37
    go_wp2_with (first
      | (go_at_call 58
         (with_reducible show Calls _ _ #[.agg #[.int .i64 f.s0, _], _, _] _ _)
         refine (HS.out _).mono ?_
         rintro e w' ⟨rfl, hB'⟩
         have hK := HB.out.trans (hB'.mono HB.out.size)
         clear hc HB hB'
         have HB := Lib.hid hK
         have hc := HCF.out w' hK
         clear hK)
      | (go_at_call 58
         (with_reducible show Calls _ _ #[.agg #[.int .i64 f.c0, _], _, _] _ _)
         refine (HK.out _).mono ?_
         rintro e w' ⟨rfl, hB'⟩
         have hK := HB.out.trans (hB'.mono HB.out.size)
         clear hc HB hB'
         have HB := Lib.hid hK
         have hc := HCF.out w' hK
         clear hK)
      | (go_at_call 58
         (with_reducible show Calls _ _ #[.agg #[.int .i64 f.e0, _], _, _] _ _)
         refine (HE.out _).mono ?_
         rintro e w' ⟨rfl, hB'⟩
         have hK := HB.out.trans (hB'.mono HB.out.size)
         clear hc HB hB'
         have HB := Lib.hid hK
         have hc := HCF.out w' hK
         clear hK)
      | (go_at_call 60; refine (HL.out _).mono ?_; rintro e w' ⟨rfl, rfl⟩))
    go_ret
    exact ⟨rfl, H1.out.trans (HB.out.mono H1.out.size)⟩
  by_cases h5 : f.hs.length ≤ 8
  rotate_left
  · have h5z : decide ((8 : Int) < f.hs.length) = true := decide_eq_true (by omega)
    have h5n : decide (f.hs.length ≤ 8) = false := decide_eq_false h5
    rw [h5n]
    clear h5n
    go_enter Try.func37, Try.ntmps37
    go_wp2_with (first
      | (go_at_call 58
         (with_reducible show Calls _ _ #[.agg #[.int .i64 f.s0, _], _, _] _ _)
         refine (HS.out _).mono ?_
         rintro e w' ⟨rfl, hB'⟩
         have hK := HB.out.trans (hB'.mono HB.out.size)
         clear hc HB hB'
         have HB := Lib.hid hK
         have hc := HCF.out w' hK
         clear hK)
      | (go_at_call 58
         (with_reducible show Calls _ _ #[.agg #[.int .i64 f.c0, _], _, _] _ _)
         refine (HK.out _).mono ?_
         rintro e w' ⟨rfl, hB'⟩
         have hK := HB.out.trans (hB'.mono HB.out.size)
         clear hc HB hB'
         have HB := Lib.hid hK
         have hc := HCF.out w' hK
         clear hK)
      | (go_at_call 58
         (with_reducible show Calls _ _ #[.agg #[.int .i64 f.e0, _], _, _] _ _)
         refine (HE.out _).mono ?_
         rintro e w' ⟨rfl, hB'⟩
         have hK := HB.out.trans (hB'.mono HB.out.size)
         clear hc HB hB'
         have HB := Lib.hid hK
         have hc := HCF.out w' hK
         clear hK)
      | (go_at_call 60; refine (HL.out _).mono ?_; rintro e w' ⟨rfl, rfl⟩))
    go_ret
    exact ⟨rfl, H1.out.trans (HB.out.mono H1.out.size)⟩
  have h5z : decide ((8 : Int) < f.hs.length) = false := decide_eq_false (by omega)
  have h5n : decide (f.hs.length ≤ 8) = true := decide_eq_true h5
  rw [h5n]
  clear h5n
  have hln1 := hln.1
  have hln2 := hln.2
  have hwl : IntKind.i64.wrap (f.len - 1) = f.len - 1 := by rw [IntKind.wrap_i64]; omega
  have HWL := Lib.hid hwl
  clear hwl hln
  generalize hgA : f.A = A at hw1 hc HCF HZ ⊢
  clear hgA
  go_enter Try.func37, Try.ntmps37
  go_wp2_with (first
    | (go_at_call 58
       (with_reducible show Calls _ _ #[.agg #[.int .i64 f.s0, _], _, _] _ _)
       refine (HS.out _).mono ?_
       rintro e w' ⟨rfl, hB'⟩
       have hK := HB.out.trans (hB'.mono HB.out.size)
       clear hc HB hB'
       have HB := Lib.hid hK
       have hc := HCF.out w' hK
       clear hK)
    | (go_at_call 58
       (with_reducible show Calls _ _ #[.agg #[.int .i64 f.c0, _], _, _] _ _)
       refine (HK.out _).mono ?_
       rintro e w' ⟨rfl, hB'⟩
       have hK := HB.out.trans (hB'.mono HB.out.size)
       clear hc HB hB'
       have HB := Lib.hid hK
       have hc := HCF.out w' hK
       clear hK)
    | (go_at_call 58
       (with_reducible show Calls _ _ #[.agg #[.int .i64 f.e0, _], _, _] _ _)
       refine (HE.out _).mono ?_
       rintro e w' ⟨rfl, hB'⟩
       have hK := HB.out.trans (hB'.mono HB.out.size)
       clear hc HB hB'
       have HB := Lib.hid hK
       have hc := HCF.out w' hK
       clear hK)
    | (go_at_call 60; refine (HL.out _).mono ?_; rintro e w' ⟨rfl, rfl⟩))
  go_loopg [3] f.hs.length (fun gg s3 wx => ∃ k : Nat, k + gg = f.hs.length ∧ s3 = .int .i64 k ∧ Hid (50 ≤ loH f.hs k) ∧ Hid (hoL f.len (f.hs.drop k) (loH f.hs k) = X) ∧ Hid (Below w1.heap.size w1 wx))
  case atStart => exact ⟨0, by omega, rfl, by simp [loH, Hid], HX.out, HB.out⟩
  case round =>
    obtain ⟨k, hkg, rfl, hLB, hI, hBr⟩ := hrel
    have hws := hBr.out.size
    have hsr : w.heap.size < wr.heap.size := by omega
    have hcr := HCF.out wr hBr.out
    cases gk with
    | zero =>
      obtain rfl : k = f.hs.length := by omega
      have hI' := hI.out
      rw [List.drop_length] at hI'
      have HI := Lib.hid hI'
      clear hI' hc
      go_wp2
      go_ret
      exact ⟨by rw [← HI.out]; rfl, H1.out.trans (hBr.out.mono H1.out.size)⟩
    | succ gg =>
      have hk : k < f.hs.length := by omega
      have hkz : (k : Int) < f.hs.length := by omega
      obtain ⟨c, off, hA, hcB, hcy⟩ := vals_elem hoc_len HZ.out (by decide) hk
      have hprev : ∀ h1 : 0 < k, loH f.hs k = (f.hs[k - 1]'(by omega)).a + 1 ∧ ∀ W, Below w1.heap.size w1 W → W.cell? ⟨c, off + (k - 1) * 3, none⟩ = some (.int .i64 (f.hs[k - 1]'(by omega)).a) := fun h1 => by
        refine ⟨prevH hk h1, fun W hW => ?_⟩
        obtain ⟨c', off', hA', hcB', hc'⟩ := vals_elem hoc_len HZ.out (by decide) (show k - 1 < f.hs.length by omega)
        rw [hA] at hA'
        simp only [Option.some.injEq, Addr.mk.injEq, and_true] at hA'
        obtain ⟨rfl, rfl⟩ := hA'
        exact (hW.cell (p := ⟨c, off + (k - 1) * 3, none⟩) (by have := H1.out.size; simp; omega)).trans (by have := hc' 0 _ rfl; rw [Nat.add_zero] at this; exact this)
      subst hA
      have hst := HID.out k hk
      rw [hI.out, allB_one, refH hLB.out] at hst
      have hlo : loH f.hs (k + 1) = f.hs[k].a + 1 := by simp [loH, hk]
      have hy := fun j v hv => ((hBr.out.cell (p := ⟨c, off + k * 3 + j, none⟩) (by have := H1.out.size; simp; omega)).trans (hcy j v hv))
      rw [hlo] at hst
      have HPR := Lib.hid hprev
      have HLO := Lib.hid hlo
      clear hc hcy hlo hprev
      generalize f.hs[k] = y at hy hst HLO
      have HY := Lib.hid hy
      have HWI := Lib.hid (fun W => rfWithin_any y.a 50 (f.len - 1) W)
      have HSP := Lib.hid (fun W => rfSpanned_any y.lo y.hi 0 60 W)
      obtain ⟨w4, hw4⟩ : ∃ w4, wr.alloc (.cells #[.int .i64 y.a, .int .i64 y.lo, .int .i64 y.hi] 38) = w4 := ⟨_, rfl⟩
      have hb4 : Below wr.heap.size wr w4 := by rw [← hw4]; exact grow1 _ _
      have m4' : w4.heap[wr.heap.size]? = some (.cells #[.int .i64 y.a, .int .i64 y.lo, .int .i64 y.hi] 38 (0, 0)) := by rw [← hw4]; exact alloc_at0 _ _
      have H4 := Lib.hid (And.intro hb4 m4')
      have hlb := hLB.out
      clear hy hb4 m4'
      cases hv1 : inR y.a 50 (f.len - 1)
      · have HV1 := Lib.hid hv1
        rw [hv1] at HWI
        have HST := Lib.hid hst
        clear hv1 hst hlb
        go_wp2_with (show wpList _ _ _ (Oper.mk (some 44) _ _ _ _ _ :: _) _ _
                     refine wpList_load_at 38 (.tmp 43) rfl rfl (by simp [Act.eval]) [.int .i64 y.a, .int .i64 y.lo, .int .i64 y.hi] HY.out rowHole ?_)
        have hB4 := hBr.out.trans (H4.out.1.mono hws)
        have m4 := H4.out.2
        refine R6.wp_walk (C := fun _ _ W => Below w4.heap.size w4 W) 74 (by kernel_rfl) (by kernel_rfl) rfl (Below.refl _ _).drew ?_
        simp only []
        repeat (first
          | (refine' R6.WalkR.det (fun _ => rfl) (fun D ρ W hK hC => ?_) ?_
             rotate_left
             · have f0 := HCF.out W (hB4.trans (hC.mono hB4.size))
               have f1 := fun i => cell_of_row W wr.heap.size i _ _ _ ((hC.block _ (lt_of_heap m4)).trans m4)
               have q1 := HWL.out
               have HC := Lib.hid hC
               clear hC hK
               go_simp
               first
                 | with_reducible exact ⟨rfl, HC.out⟩
                 | (go_at_call 60; refine (HWI.out W).mono ?_; rintro e W1 ⟨rfl, rfl⟩; exact ⟨_, rfl, rfl, HC.out⟩)
                 | (go_at_call 58; refine (HSP.out W).mono ?_; rintro e W1 ⟨rfl, hB1⟩; exact ⟨_, rfl, rfl, HC.out.trans (hB1.mono HC.out.size)⟩)
             simp only [Act.put, List.setIfInBounds_toArray, List.set_cons_succ, List.set_cons_zero])
          | (refine R6.WalkR.un (fun _ => rfl) (fun D ρ W hK hC => hC) ?_
             simp only [Act.put, List.setIfInBounds_toArray, List.set_cons_succ, List.set_cons_zero]))
        refine R6.WalkR.nil (fun D ρ W hD hC => ?_)
        have H9 := Lib.hid (hBr.out.trans ((H4.out.1.trans (hC.mono H4.out.1.size)).mono hws))
        clear hC hD
        go_wp2
        go_ret
        exact ⟨by rw [HST.out, HV1.out]; rfl, H1.out.trans (H9.out.mono H1.out.size)⟩
      have hya : 50 ≤ y.a ∧ y.a ≤ f.len - 1 := inR_iff.1 hv1
      have HV1 := Lib.hid hv1
      rw [hv1] at HWI
      have hya1 := hya.1
      have hya2 : y.a ≤ 20000 := by omega
      clear hv1 hya
      by_cases h0 : k = 0
      · have hl0 : loH f.hs k = 50 := by rw [h0]; rfl
        have hd2 : decide (y.a < loH f.hs k) = false := decide_eq_false (by omega)
        have HD2 := Lib.hid hd2
        have HK := Lib.hid (And.intro (show decide ((0 : Int) < k) = false from decide_eq_false (by omega)) (show decide (0 < k) = false from decide_eq_false (by omega)))
        have HST := Lib.hid hst
        clear hd2 hst hlb hl0 h0
        cases hv3 : okS y.lo y.hi 0 60
        · have HV3 := Lib.hid hv3
          rw [hv3] at HSP
          clear hv3
          go_wp2_with (show wpList _ _ _ (Oper.mk (some 44) _ _ _ _ _ :: _) _ _
                       refine wpList_load_at 38 (.tmp 43) rfl rfl (by simp [Act.eval]) [.int .i64 y.a, .int .i64 y.lo, .int .i64 y.hi] HY.out rowHole ?_)
          have hB4 := hBr.out.trans (H4.out.1.mono hws)
          have m4 := H4.out.2
          refine R6.wp_walk (C := fun _ _ W => Below w4.heap.size w4 W) 74 (by kernel_rfl) (by kernel_rfl) rfl (Below.refl _ _).drew ?_
          simp only []
          repeat (first
            | (refine' R6.WalkR.det (fun _ => rfl) (fun D ρ W hK hC => ?_) ?_
               rotate_left
               · have f0 := HCF.out W (hB4.trans (hC.mono hB4.size))
                 have f1 := fun i => cell_of_row W wr.heap.size i _ _ _ ((hC.block _ (lt_of_heap m4)).trans m4)
                 have q1 := HWL.out
                 have q2 := HK.out.1
                 have q3 := HK.out.2
                 have HC := Lib.hid hC
                 clear hC hK
                 go_simp
                 first
                   | with_reducible exact ⟨rfl, HC.out⟩
                   | (go_at_call 60; refine (HWI.out W).mono ?_; rintro e W1 ⟨rfl, rfl⟩; exact ⟨_, rfl, rfl, HC.out⟩)
                   | (go_at_call 58; refine (HSP.out W).mono ?_; rintro e W1 ⟨rfl, hB1⟩; exact ⟨_, rfl, rfl, HC.out.trans (hB1.mono HC.out.size)⟩)
               simp only [Act.put, List.setIfInBounds_toArray, List.set_cons_succ, List.set_cons_zero])
            | (refine R6.WalkR.un (fun _ => rfl) (fun D ρ W hK hC => hC) ?_
               simp only [Act.put, List.setIfInBounds_toArray, List.set_cons_succ, List.set_cons_zero]))
          refine R6.WalkR.nil (fun D ρ W hD hC => ?_)
          have H9 := Lib.hid (hBr.out.trans ((H4.out.1.trans (hC.mono H4.out.1.size)).mono hws))
          clear hC hD
          go_wp2
          go_ret
          exact ⟨by rw [HST.out, HV1.out, HD2.out, HV3.out]; rfl, H1.out.trans (H9.out.mono H1.out.size)⟩
        · have HV3 := Lib.hid hv3
          rw [hv3] at HSP
          clear hv3
          go_wp2_with (show wpList _ _ _ (Oper.mk (some 44) _ _ _ _ _ :: _) _ _
                       refine wpList_load_at 38 (.tmp 43) rfl rfl (by simp [Act.eval]) [.int .i64 y.a, .int .i64 y.lo, .int .i64 y.hi] HY.out rowHole ?_)
          have hB4 := hBr.out.trans (H4.out.1.mono hws)
          have m4 := H4.out.2
          refine R6.wp_walk (C := fun _ _ W => Below w4.heap.size w4 W) 74 (by kernel_rfl) (by kernel_rfl) rfl (Below.refl _ _).drew ?_
          simp only []
          repeat (first
            | (refine' R6.WalkR.det (fun _ => rfl) (fun D ρ W hK hC => ?_) ?_
               rotate_left
               · have f0 := HCF.out W (hB4.trans (hC.mono hB4.size))
                 have f1 := fun i => cell_of_row W wr.heap.size i _ _ _ ((hC.block _ (lt_of_heap m4)).trans m4)
                 have q1 := HWL.out
                 have q2 := HK.out.1
                 have q3 := HK.out.2
                 have HC := Lib.hid hC
                 clear hC hK
                 go_simp
                 first
                   | with_reducible exact ⟨rfl, HC.out⟩
                   | (go_at_call 60; refine (HWI.out W).mono ?_; rintro e W1 ⟨rfl, rfl⟩; exact ⟨_, rfl, rfl, HC.out⟩)
                   | (go_at_call 58; refine (HSP.out W).mono ?_; rintro e W1 ⟨rfl, hB1⟩; exact ⟨_, rfl, rfl, HC.out.trans (hB1.mono HC.out.size)⟩)
               simp only [Act.put, List.setIfInBounds_toArray, List.set_cons_succ, List.set_cons_zero])
            | (refine R6.WalkR.un (fun _ => rfl) (fun D ρ W hK hC => hC) ?_
               simp only [Act.put, List.setIfInBounds_toArray, List.set_cons_succ, List.set_cons_zero]))
          refine R6.WalkR.nil (fun D ρ W hD hC => ?_)
          have H9 := Lib.hid (hBr.out.trans ((H4.out.1.trans (hC.mono H4.out.1.size)).mono hws))
          clear hC hD
          go_wp2
          go_roundg gg
          case measure => omega
          case rel => exact ⟨k + 1, by omega, by go_num, by rw [HLO.out]; show _ ≤ _; omega, by rw [HLO.out, HST.out, HV1.out, HD2.out, HV3.out]; rfl, H9.out⟩
      obtain ⟨hpl, hpc⟩ := HPR.out (by omega)
      obtain ⟨j, rfl⟩ : ∃ j, k = j + 1 := ⟨k - 1, by omega⟩
      simp only [Nat.add_sub_cancel] at hpl hpc
      have hj4 : (j : Int) < f.hs.length := by omega
      have hj5 : decide ((0 : Int) < (j : Int) + 1) = true := decide_eq_true (by omega)
      have hj6 : IntKind.i64.wrap (j : Int) = j := by rw [IntKind.wrap_i64]; omega
      rw [hpl] at hst
      clear HPR
      generalize (f.hs[j]'(by omega)).a = p at hpc hst
      have HPC := Lib.hid hpc
      have HST := Lib.hid hst
      have HK := Lib.hid (And.intro hj4 (And.intro hj5 hj6))
      clear hpl hpc hst hlb h0 hj4 hj5 hj6
      by_cases hle : y.a ≤ p
      · have hd2 : decide (y.a < p + 1) = true := decide_eq_true (by omega)
        have hd3 : decide (y.a ≤ p) = true := decide_eq_true hle
        have HD2 := Lib.hid hd2
        have HLE := Lib.hid hd3
        clear hd2 hd3 hle
        go_wp2_with (show wpList _ _ _ (Oper.mk (some 44) _ _ _ _ _ :: _) _ _
                     refine wpList_load_at 38 (.tmp 43) rfl rfl (by simp [Act.eval]) [.int .i64 y.a, .int .i64 y.lo, .int .i64 y.hi] HY.out rowHole ?_)
        have hB4 := hBr.out.trans (H4.out.1.mono hws)
        have m4 := H4.out.2
        refine R6.wp_walk (C := fun _ _ W => Below w4.heap.size w4 W) 74 (by kernel_rfl) (by kernel_rfl) rfl (Below.refl _ _).drew ?_
        simp only []
        repeat (first
          | (refine' R6.WalkR.det (fun _ => rfl) (fun D ρ W hK hC => ?_) ?_
             rotate_left
             · have f0 := HCF.out W (hB4.trans (hC.mono hB4.size))
               have f1 := fun i => cell_of_row W wr.heap.size i _ _ _ ((hC.block _ (lt_of_heap m4)).trans m4)
               have q1 := HWL.out
               have q2 := HK.out.1
               have q3 := HK.out.2.1
               have q4 := HK.out.2.2
               have q7 := HPC.out W (hB4.trans (hC.mono hB4.size))
               have q8 := HLE.out
               have HC := Lib.hid hC
               clear hC hK
               go_simp
               first
                 | with_reducible exact ⟨rfl, HC.out⟩
                 | (go_at_call 60; refine (HWI.out W).mono ?_; rintro e W1 ⟨rfl, rfl⟩; exact ⟨_, rfl, rfl, HC.out⟩)
                 | (go_at_call 58; refine (HSP.out W).mono ?_; rintro e W1 ⟨rfl, hB1⟩; exact ⟨_, rfl, rfl, HC.out.trans (hB1.mono HC.out.size)⟩)
             simp only [Act.put, List.setIfInBounds_toArray, List.set_cons_succ, List.set_cons_zero])
          | (refine R6.WalkR.un (fun _ => rfl) (fun D ρ W hK hC => hC) ?_
             simp only [Act.put, List.setIfInBounds_toArray, List.set_cons_succ, List.set_cons_zero]))
        refine R6.WalkR.nil (fun D ρ W hD hC => ?_)
        have H9 := Lib.hid (hBr.out.trans ((H4.out.1.trans (hC.mono H4.out.1.size)).mono hws))
        clear hC hD
        go_wp2
        go_ret
        exact ⟨by rw [HST.out, HV1.out, HD2.out]; rfl, H1.out.trans (H9.out.mono H1.out.size)⟩
      have hd2 : decide (y.a < p + 1) = false := decide_eq_false (by omega)
      have hd3 : decide (y.a ≤ p) = false := decide_eq_false hle
      have HD2 := Lib.hid hd2
      have HLE := Lib.hid hd3
      clear hd2 hd3 hle
      cases hv3 : okS y.lo y.hi 0 60
      · have HV3 := Lib.hid hv3
        rw [hv3] at HSP
        clear hv3
        go_wp2_with (show wpList _ _ _ (Oper.mk (some 44) _ _ _ _ _ :: _) _ _
                     refine wpList_load_at 38 (.tmp 43) rfl rfl (by simp [Act.eval]) [.int .i64 y.a, .int .i64 y.lo, .int .i64 y.hi] HY.out rowHole ?_)
        have hB4 := hBr.out.trans (H4.out.1.mono hws)
        have m4 := H4.out.2
        refine R6.wp_walk (C := fun _ _ W => Below w4.heap.size w4 W) 74 (by kernel_rfl) (by kernel_rfl) rfl (Below.refl _ _).drew ?_
        simp only []
        repeat (first
          | (refine' R6.WalkR.det (fun _ => rfl) (fun D ρ W hK hC => ?_) ?_
             rotate_left
             · have f0 := HCF.out W (hB4.trans (hC.mono hB4.size))
               have f1 := fun i => cell_of_row W wr.heap.size i _ _ _ ((hC.block _ (lt_of_heap m4)).trans m4)
               have q1 := HWL.out
               have q2 := HK.out.1
               have q3 := HK.out.2.1
               have q4 := HK.out.2.2
               have q7 := HPC.out W (hB4.trans (hC.mono hB4.size))
               have q8 := HLE.out
               have HC := Lib.hid hC
               clear hC hK
               go_simp
               first
                 | with_reducible exact ⟨rfl, HC.out⟩
                 | (go_at_call 60; refine (HWI.out W).mono ?_; rintro e W1 ⟨rfl, rfl⟩; exact ⟨_, rfl, rfl, HC.out⟩)
                 | (go_at_call 58; refine (HSP.out W).mono ?_; rintro e W1 ⟨rfl, hB1⟩; exact ⟨_, rfl, rfl, HC.out.trans (hB1.mono HC.out.size)⟩)
             simp only [Act.put, List.setIfInBounds_toArray, List.set_cons_succ, List.set_cons_zero])
          | (refine R6.WalkR.un (fun _ => rfl) (fun D ρ W hK hC => hC) ?_
             simp only [Act.put, List.setIfInBounds_toArray, List.set_cons_succ, List.set_cons_zero]))
        refine R6.WalkR.nil (fun D ρ W hD hC => ?_)
        have H9 := Lib.hid (hBr.out.trans ((H4.out.1.trans (hC.mono H4.out.1.size)).mono hws))
        clear hC hD
        go_wp2
        go_ret
        exact ⟨by rw [HST.out, HV1.out, HD2.out, HV3.out]; rfl, H1.out.trans (H9.out.mono H1.out.size)⟩
      · have HV3 := Lib.hid hv3
        rw [hv3] at HSP
        clear hv3
        go_wp2_with (show wpList _ _ _ (Oper.mk (some 44) _ _ _ _ _ :: _) _ _
                     refine wpList_load_at 38 (.tmp 43) rfl rfl (by simp [Act.eval]) [.int .i64 y.a, .int .i64 y.lo, .int .i64 y.hi] HY.out rowHole ?_)
        have hB4 := hBr.out.trans (H4.out.1.mono hws)
        have m4 := H4.out.2
        refine R6.wp_walk (C := fun _ _ W => Below w4.heap.size w4 W) 74 (by kernel_rfl) (by kernel_rfl) rfl (Below.refl _ _).drew ?_
        simp only []
        repeat (first
          | (refine' R6.WalkR.det (fun _ => rfl) (fun D ρ W hK hC => ?_) ?_
             rotate_left
             · have f0 := HCF.out W (hB4.trans (hC.mono hB4.size))
               have f1 := fun i => cell_of_row W wr.heap.size i _ _ _ ((hC.block _ (lt_of_heap m4)).trans m4)
               have q1 := HWL.out
               have q2 := HK.out.1
               have q3 := HK.out.2.1
               have q4 := HK.out.2.2
               have q7 := HPC.out W (hB4.trans (hC.mono hB4.size))
               have q8 := HLE.out
               have HC := Lib.hid hC
               clear hC hK
               go_simp
               first
                 | with_reducible exact ⟨rfl, HC.out⟩
                 | (go_at_call 60; refine (HWI.out W).mono ?_; rintro e W1 ⟨rfl, rfl⟩; exact ⟨_, rfl, rfl, HC.out⟩)
                 | (go_at_call 58; refine (HSP.out W).mono ?_; rintro e W1 ⟨rfl, hB1⟩; exact ⟨_, rfl, rfl, HC.out.trans (hB1.mono HC.out.size)⟩)
             simp only [Act.put, List.setIfInBounds_toArray, List.set_cons_succ, List.set_cons_zero])
          | (refine R6.WalkR.un (fun _ => rfl) (fun D ρ W hK hC => hC) ?_
             simp only [Act.put, List.setIfInBounds_toArray, List.set_cons_succ, List.set_cons_zero]))
        refine R6.WalkR.nil (fun D ρ W hD hC => ?_)
        have H9 := Lib.hid (hBr.out.trans ((H4.out.1.trans (hC.mono H4.out.1.size)).mono hws))
        clear hC hD
        go_wp2
        go_roundg gg
        case measure => omega
        case rel => exact ⟨j + 1 + 1, by omega, by go_num, by rw [HLO.out]; show _ ≤ _; omega, by rw [HLO.out, HST.out, HV1.out, HD2.out, HV3.out]; rfl, H9.out⟩

end Go.Proofs.Ytjjipkgconmfcaa

namespace Go.Proofs.Ytjjipkgconmfcaa
open Go.RowKit Go.Maps
open R6 (done done_ne done_me upd_ne upd_me)

attribute [local go_sem] gives

set_option maxRecDepth 100000 in
theorem conv_v9 {W : World} {B : Nat} {v : Value} {zs : List Int} (h : OwnU W B v zs) : (convert 52 9 v).run Try.prog W = .ok (.string (strOfNums zs)) W := by
  rcases h.2 with ⟨rfl, h0⟩ | ⟨g, cap, cur, rfl, _⟩
  · have hz : zs = [] := List.eq_nil_of_length_eq_zero h0
    subst hz
    exact conv_u8 (A := none) (c := 0) h
  · exact conv_u8 h

theorem span_any (a b : Int) (w : World) : Calls Try.prog 17 #[.int .i64 a, .int .i64 b] w fun e w' => e = .returned (.agg #[.int .i64 a, .int .i64 b]) ∧ Below w.heap.size w w' := by
  go_enter Try.func17, Try.ntmps17
  go_wp2
  refine bodyPost_ret (v := .agg #[.int .i64 a, .int .i64 b]) (by simp [results, Try.results17, go_sem]) rfl ⟨rfl, ?_⟩
  exact (Below.refl _ _).alloc (Nat.le_refl _) _

def exFu (A : Option Addr) : Fu := ⟨400, 10, 20, 5, 10, 340000, 344000, A, 2, [⟨200, 8, 12⟩, ⟨300, 10, 10⟩]⟩
def exBk (A : Option Addr) : Bk := ⟨500, 10, 10, 10, 10, 340000, 340000, 40, 5, A, 1, [330]⟩
def exOs : List (Int × Int) := [(400000, 410000), (500000, 520000), (590000, 610000)]

def TubPost (w : World) (e : Ending) (w' : World) : Prop := ∃ A, e = .returned (.agg (fuc (exFu A)).toArray) ∧ FuAt w' w'.heap.size (exFu A) ∧ Below w.heap.size w w'
def BlaPost (w : World) (e : Ending) (w' : World) : Prop := ∃ A, e = .returned (.agg (bkc (exBk A)).toArray) ∧ BkAt w' w'.heap.size (exBk A) ∧ Below w.heap.size w w'
def ScaPost (w : World) (e : Ending) (w' : World) : Prop := ∃ A, e = .returned (.slice A exOs.length 3) ∧ Vals w' w'.heap.size A (pairs exOs) ∧ Below w.heap.size w w'

set_option maxRecDepth 100000 in
set_option maxHeartbeats 4000000 in
theorem scale_any (w : World) : Calls Try.prog 20 #[] w (ScaPost w) := by
  unfold ScaPost
  go_enter Try.func20, Try.ntmps20
  go_wp2_with (first
    | (go_at_call 17; (with_reducible show Calls _ _ #[.int .i64 400000, _] _ _); refine (span_any _ _ _).mono ?_; rintro e w1 ⟨rfl, hB1⟩; have H1 := Lib.hid hB1; clear hB1)
    | (go_at_call 17; (with_reducible show Calls _ _ #[.int .i64 500000, _] _ _); refine (span_any _ _ _).mono ?_; rintro e w2 ⟨rfl, hB2⟩; have H2 := Lib.hid (H1.out.trans (hB2.mono H1.out.size)); clear hB2)
    | (go_at_call 17; refine (span_any _ _ _).mono ?_; rintro e w3 ⟨rfl, hB3⟩; have H3 := Lib.hid (H2.out.trans (hB3.mono H2.out.size)); clear hB3))
  go_ret
  refine ⟨some ⟨w3.heap.size, 0, none⟩, rfl, vals_in (L := pairs exOs) (alloc_at0 _ _) (by simp) at0, H3.out.trans ((grow1 w3 _).mono H3.out.size)⟩

set_option maxRecDepth 100000 in
set_option maxHeartbeats 4000000 in
theorem tube_any (w : World) : Calls Try.prog 19 #[] w (TubPost w) := by
  unfold TubPost
  obtain ⟨w0, hw0⟩ : ∃ w0, w.alloc (.cells #[.int .i64 0, .int .i64 0, .int .i64 0, .int .i64 0, .int .i64 0, .int .i64 0, .int .i64 0, .slice none 0 0] 28) = w0 := ⟨_, rfl⟩
  have hb0 : Below w.heap.size w w0 := by rw [← hw0]; exact grow1 _ _
  have m0 : w0.heap[w.heap.size]? = some (.cells [.int .i64 0, .int .i64 0, .int .i64 0, .int .i64 0, .int .i64 0, .int .i64 0, .int .i64 0, .slice none 0 0].toArray 28 (0, 0)) := by rw [← hw0]; exact alloc_at0 _ _
  have H0 := Lib.hid (And.intro hb0 (And.intro m0 (lt_of_heap m0)))
  clear hb0 m0
  go_enter Try.func19, Try.ntmps19
  go_wp2_with (first
    | (go_at_call 17; (with_reducible show Calls _ _ #[.int .i64 10, .int .i64 20] _ _); refine (span_any _ _ _).mono ?_; rintro e w1 ⟨rfl, hB1⟩; have H1 := Lib.hid hB1; clear hB1)
    | (go_at_call 17; (with_reducible show Calls _ _ #[.int .i64 5, _] _ _); refine (span_any _ _ _).mono ?_; rintro e w2 ⟨rfl, hB2⟩; have H2 := Lib.hid (H1.out.trans (hB2.mono H1.out.size)); clear hB2)
    | (go_at_call 17; (with_reducible show Calls _ _ #[.int .i64 340000, _] _ _); refine (span_any _ _ _).mono ?_; rintro e w3 ⟨rfl, hB3⟩; have H3 := Lib.hid (H2.out.trans (hB3.mono H2.out.size)); clear hB3)
    | (go_at_call 17; (with_reducible show Calls _ _ #[.int .i64 8, _] _ _); refine (span_any _ _ _).mono ?_; rintro e w4 ⟨rfl, hB4⟩; have H4 := Lib.hid (H3.out.trans (hB4.mono H3.out.size)); clear hB4)
    | (go_at_call 17; refine (span_any _ _ _).mono ?_; rintro e w5 ⟨rfl, hB5⟩; have H5 := Lib.hid (H4.out.trans (hB5.mono H4.out.size)); clear hB5)
    | (show wpList _ _ _ (Oper.mk none (Op.store _ (Operand.tmp 0) (Operand.tmp 9)) _ _ _ _ :: _) _ _
       refine wpList_store_blk 28 (.tmp 0) (.tmp 9) rfl rfl rfl rfl (cs := fuc (exFu (some ⟨w5.heap.size, 0, none⟩))) rfl (((H5.out.alloc H5.out.size _).block _ H0.out.2.2).trans H0.out.2.1) (Nat.le_refl 8) (by simp [fuc, exFu, Value.oneCell']) rowFlute ?_
       intro w6 hP6 hM6
       have H6 := Lib.hid (And.intro hP6 hM6)
       clear hP6 hM6))
  have hs := H5.out.size
  have hl := H0.out.2.2
  have hbb : w6.heap[w5.heap.size]? = _ := (H6.out.1.other _ (by omega)).trans (alloc_at0 w5 _)
  have hM : w6.heap[w.heap.size]? = some (.cells (fuc (exFu (some ⟨w5.heap.size, 0, none⟩))).toArray 28 (0, 0)) := H6.out.2
  have hcE := fun i => cell_of_row w6 w.heap.size i _ _ _ hM
  refine bodyPost_ret (v := .agg (fuc (exFu (some ⟨w5.heap.size, 0, none⟩))).toArray) (by simp [results, Try.results19, go_sem, hcE, fuc, exFu]) rfl ⟨_, rfl, ?_, ?_⟩
  · exact vals_in (L := (exFu (some ⟨w5.heap.size, 0, none⟩)).hs.flatMap hoc) hbb (lt_of_heap hbb) at0
  · exact H0.out.1.trans (((H5.out.alloc H5.out.size _).mono H0.out.1.size).trans (H6.out.1.below (Nat.le_refl _)))

end Go.Proofs.Ytjjipkgconmfcaa

namespace Go.Proofs.Ytjjipkgconmfcaa
open Go.RowKit Go.Maps
open R6 (done done_ne done_me upd_ne upd_me)

attribute [local go_sem] gives

theorem rowBlank : RowTy Try.prog 34 10 := ⟨⟨_, Try.underlying34, rfl⟩, by kernel_rfl⟩

set_option maxRecDepth 100000 in
set_option maxHeartbeats 4000000 in
theorem blank_any (w : World) : Calls Try.prog 16 #[] w (BlaPost w) := by
  unfold BlaPost
  obtain ⟨w0, hw0⟩ : ∃ w0, w.alloc (.cells #[.int .i64 0, .int .i64 0, .int .i64 0, .int .i64 0, .int .i64 0, .int .i64 0, .int .i64 0, .int .i64 0, .int .i64 0, .slice none 0 0] 34) = w0 := ⟨_, rfl⟩
  have hb0 : Below w.heap.size w w0 := by rw [← hw0]; exact grow1 _ _
  have m0 : w0.heap[w.heap.size]? = some (.cells [.int .i64 0, .int .i64 0, .int .i64 0, .int .i64 0, .int .i64 0, .int .i64 0, .int .i64 0, .int .i64 0, .int .i64 0, .slice none 0 0].toArray 34 (0, 0)) := by rw [← hw0]; exact alloc_at0 _ _
  have H0 := Lib.hid (And.intro hb0 (And.intro m0 (lt_of_heap m0)))
  clear hb0 m0
  go_enter Try.func16, Try.ntmps16
  go_wp2_with (first
    | (go_at_call 17; (with_reducible show Calls _ _ #[.int .i64 340000, _] _ _); refine (span_any _ _ _).mono ?_; rintro e w3 ⟨rfl, hB3⟩; have H3 := Lib.hid (H2.out.trans (hB3.mono H2.out.size)); clear hB3)
    | (go_at_call 17; refine (span_any _ _ _).mono ?_; rintro e w2 ⟨rfl, hB2⟩; have H2 := Lib.hid (H1.out.trans (hB2.mono H1.out.size)); clear hB2)
    | (go_at_call 17; refine (span_any _ _ _).mono ?_; rintro e w1 ⟨rfl, hB1⟩; have H1 := Lib.hid hB1; clear hB1)
    | (show wpList _ _ _ (Oper.mk none (Op.store _ (Operand.tmp 0) (Operand.tmp 5)) _ _ _ _ :: _) _ _
       refine wpList_store_blk 34 (.tmp 0) (.tmp 5) rfl rfl rfl rfl (cs := bkc (exBk (some ⟨w3.heap.size, 0, none⟩))) rfl (((H3.out.alloc H3.out.size _).block _ H0.out.2.2).trans H0.out.2.1) (Nat.le_refl 10) (by simp [bkc, exBk, Value.oneCell']) rowBlank ?_
       intro w6 hP6 hM6
       have H6 := Lib.hid (And.intro hP6 hM6)
       clear hP6 hM6))
  have hs := H3.out.size
  have hl := H0.out.2.2
  have hbb : w6.heap[w3.heap.size]? = _ := (H6.out.1.other _ (by omega)).trans (alloc_at0 w3 _)
  have hM : w6.heap[w.heap.size]? = some (.cells (bkc (exBk (some ⟨w3.heap.size, 0, none⟩))).toArray 34 (0, 0)) := H6.out.2
  have hcE := fun i => cell_of_row w6 w.heap.size i _ _ _ hM
  refine bodyPost_ret (v := .agg (bkc (exBk (some ⟨w3.heap.size, 0, none⟩))).toArray) (by simp [results, Try.results16, go_sem, hcE, bkc, exBk]) rfl ⟨_, rfl, ?_, ?_⟩
  · exact (vals_in (L := ints [330]) hbb (lt_of_heap hbb) at0).ints
  · exact H0.out.1.trans (((H3.out.alloc H3.out.size _).mono H0.out.1.size).trans (H6.out.1.below (Nat.le_refl _)))

set_option maxRecDepth 100000 in
set_option maxHeartbeats 4000000 in
theorem sounds_any (n : Nat) (hn : n < 256) (lo hi : Int) (h : tonE (exFu none) n = 0 ∧ tonV (exFu none) n = (lo, hi)) (w : World) :
    Calls Try.prog 14 #[.int .u8 (n : Int), .int .i64 lo, .int .i64 hi] w fun e w' => e = .returned (.bool true) ∧ Below w.heap.size w w' := by
  have ht := fun A B W (hB : B ≤ W.heap.size) (hz : FuAt W B (exFu A)) => tone_any9 (exFu A) (by simp [exFu]) n hn B W hB hz
  unfold TonePost at ht
  have e1 : ∀ A, tonE (exFu A) n = 0 := fun A => h.1
  have e2 : ∀ A, tonV (exFu A) n = (lo, hi) := fun A => h.2
  simp only [e1, e2] at ht
  have HT := Lib.hid ht
  clear ht e1 e2 h
  have HTB := Lib.hid (tube_any w)
  unfold TubPost at HTB
  go_enter Try.func14, Try.ntmps14
  go_wp2_with (first
    | (go_at_call 19; refine HTB.out.mono ?_; rintro e w1 ⟨A, rfl, hz, hB1⟩; have H1 := Lib.hid (And.intro hz hB1); clear hz hB1)
    | (go_at_call 21; refine (HT.out A _ w1 (Nat.le_refl _) H1.out.1).mono ?_; rintro e w2 ⟨rfl, hB2⟩; have H2 := Lib.hid (H1.out.2.trans (hB2.mono H1.out.2.size)); clear hB2))
  obtain ⟨w3, hw3⟩ : ∃ w3, w2.alloc (.cells #[.int .i64 lo, .int .i64 hi] 25) = w3 := ⟨_, rfl⟩
  rw [hw3]
  have hb3 : Below w.heap.size w w3 := by rw [← hw3]; exact H2.out.alloc H2.out.size _
  have m3 : w3.heap[w2.heap.size]? = some (.cells #[.int .i64 lo, .int .i64 hi] 25 (0, 0)) := by rw [← hw3]; exact alloc_at0 _ _
  have H3 := Lib.hid (And.intro hb3 m3)
  clear hb3 m3 hw3
  refine R6.wp_walk (C := fun _ _ W => Below w3.heap.size w3 W) 24 (by kernel_rfl) (by kernel_rfl) rfl (Below.refl _ _).drew ?_
  simp only []
  repeat
    (refine' R6.WalkR.det (fun _ => rfl) (fun D ρ W hK hC => ?_) ?_
     rotate_left
     · have f3 := fun i => cell_of_row W w2.heap.size i _ _ _ ((hC.block _ (lt_of_heap H3.out.2)).trans H3.out.2)
       have HC := Lib.hid hC
       clear hC hK
       go_simp
       first
         | with_reducible exact ⟨rfl, HC.out⟩
         | (go_at_call 17; refine (span_any _ _ W).mono ?_; rintro e W1 ⟨rfl, hB1⟩; exact ⟨_, rfl, rfl, HC.out.trans (hB1.mono HC.out.size)⟩)
     simp only [Act.put, List.setIfInBounds_toArray, List.set_cons_succ, List.set_cons_zero])
  refine R6.WalkR.nil (fun D ρ W hD hC => ?_)
  have H9 := Lib.hid (H3.out.1.trans (hC.mono H3.out.1.size))
  clear hC hD
  go_wp2
  go_ret
  exact ⟨by simp, H9.out⟩

set_option maxRecDepth 100000 in
set_option maxHeartbeats 4000000 in
theorem lawPlays_any (lo hi k : Int) (h : plaE (exFu none) 0 (lo, hi) = 0 ∧ plaV (exFu none) 0 (lo, hi) = k) (w : World) :
    Calls Try.prog 41 #[.int .i64 lo, .int .i64 hi, .int .u8 k] w fun e w' => e = .returned (.bool true) ∧ Below w.heap.size w w' := by
  have ht := fun A B W (hB : B ≤ W.heap.size) (hz : FuAt W B (exFu A)) => plays_any (exFu A) (by simp [exFu]) 0 (by decide) (lo, hi) B W hB hz
  unfold PlaPost at ht
  have e1 : ∀ A, plaE (exFu A) 0 (lo, hi) = 0 := fun A => h.1
  have e2 : ∀ A, plaV (exFu A) 0 (lo, hi) = k := fun A => h.2
  simp only [e1, e2] at ht
  have HT := Lib.hid ht
  clear ht e1 e2 h
  have HTB := Lib.hid (tube_any w)
  unfold TubPost at HTB
  go_enter Try.func41, Try.ntmps41
  go_wp2_with (first
    | (go_at_call 19; refine HTB.out.mono ?_; rintro e w1 ⟨A, rfl, hz, hB1⟩; have H1 := Lib.hid (And.intro hz hB1); clear hz hB1)
    | (go_at_call 17; refine (span_any _ _ w1).mono ?_; rintro e w2 ⟨rfl, hB2⟩; have H2 := Lib.hid (And.intro (FuAt.mono (FuAt.below H1.out.1 hB2) hB2.size) (H1.out.2.trans (hB2.mono H1.out.2.size))); clear hB2)
    | (go_at_call 22; refine (HT.out A _ w2 (Nat.le_refl _) H2.out.1).mono ?_; rintro e w3 ⟨rfl, hB3⟩; have H3 := Lib.hid (H2.out.2.trans (hB3.mono H2.out.2.size)); clear hB3))
  go_ret
  exact ⟨by simp, H3.out⟩

end Go.Proofs.Ytjjipkgconmfcaa
