/-
  The reference's answer: the levels of a pond.
-/
import Derived.Test.YtfampdiompjmeaaCdK
namespace Go.Proofs.Ytfampdiompjmeaa
open Go.RowKit

attribute [local go_sem] gives

/-- The first day that is found up to here, of all. -/
def FirstAt (f : Int) (all rest : List (Int × Int)) (k : Nat) (P : Int × Int → Bool) : Prop :=
  (f = -1 ∧ idxL P all 0 = idxL P rest k) ∨ (0 ≤ f ∧ idxL P all 0 = f)

/-- Where the loop is. -/
structure RlC (w : World) (p : Po) (zs : List Int) (k : Nat) (A : Option Addr) (c : Nat) (lo hi f : Int) (ds : List (Int × Int)) (W : World) : Prop where
  len : ds.length = k
  all : ds ++ levL p lo hi (zs.drop k) = levL p 0 0 zs
  own : W.ownsRow w.heap.size 26 2 (.slice A ds.length c) ds.length (pairs ds)
  fst : FirstAt f (levL p 0 0 zs) (levL p lo hi (zs.drop k)) k (fun q => decide (p.lim < q.2))
  bel : Below w.heap.size w W

set_option maxRecDepth 100000 in
set_option maxHeartbeats 4000000 in
theorem refLevels_any (p : Po) (zs : List Int) (A : Option Addr) (cap : Nat) (B : Nat) (w : World) (hB : B ≤ w.heap.size) (hz : Ints w B A zs) (hl : zs.length ≤ 1000000) :
    Calls Try.prog 33 #[.agg (pcells p), .slice A zs.length cap] w (LevsPost w p zs) := by
  have hg : Below w.heap.size w (w.alloc (.cells (pcells p) 46)) := (Below.refl _ _).alloc (Nat.le_refl _) _
  have hv := refPond_any p zs A cap B (w.alloc (.cells (pcells p) 46)) (Nat.le_trans hB hg.size) (hz.below (hg.mono hB)) hl
  have HZ := Lib.hid hz
  clear hz
  cases he : okLev p zs with
  | false =>
    rw [he] at hv
    unfold LevsPost
    rw [show levsV p zs = [] by simp [levsV, he], show levsF p zs = 0 by simp [levsF, he], show levsE p zs = 42 by simp [levsE, he]]
    unfold pcells at hv hg ⊢
    have HV := Lib.hid hv
    have HG := Lib.hid hg
    clear hv hg he
    go_enter Try.func33, Try.ntmps33
    go_wp2_with (go_at_call 41; refine HV.out.mono ?_; rintro e w1 ⟨rfl, hB1⟩; have H1 := Lib.hid hB1; clear hB1)
    go_ret3
    exact ⟨none, 0, rfl, vals_nil _ _, HG.out.trans (H1.out.mono (by simp))⟩
  | true =>
    rw [he] at hv
    have he2 := he
    simp only [okLev, Bool.and_eq_true] at he2
    have hO := poOk_of he2.1 he2.2
    unfold LevsPost
    rw [show levsV p zs = levL p 0 0 zs by simp [levsV, he], show levsF p zs = idxL (fun q => decide (p.lim < q.2)) (levL p 0 0 zs) 0 by simp [levsF, he], show levsE p zs = 0 by simp [levsE, he]]
    obtain ⟨i0, hi, hz0, hz1, hz2⟩ := info_parts infoSpan
    have HI := Lib.hid (And.intro hi (And.intro hz0 (And.intro hz1 hz2)))
    have hlz := hO.lz
    have HO := Lib.hid hO
    unfold pcells at hv hg ⊢
    have HV := Lib.hid hv
    have HG := Lib.hid hg
    clear hv hg he he2 hi hz0 hz1 hz2 hO
    go_enter Try.func33, Try.ntmps33
    go_wp2_with (go_at_call 41; refine HV.out.mono ?_; rintro e w1 ⟨rfl, hB1⟩
                 have hc1 := box_cells rfl hB1
                 have hs1 := hB1.size
                 simp only [World.size_alloc] at hs1
                 have H1 := Lib.hid (HG.out.trans (hB1.mono (by simp)))
                 clear hB1)
    go_loopg [7, 8, 9, 10, 11] zs.length (fun gg s7 s8 s9 s10 s11 wx => ∃ (k : Nat) (X : Option Addr) (c : Nat) (lo hi f : Int) (ds : List (Int × Int)), k + gg = zs.length ∧ s11 = .int .i64 k ∧ s9 = .int .i64 lo ∧ s10 = .int .i64 hi ∧ s8 = .int .i64 f ∧ s7 = .slice X ds.length c ∧ (0 ≤ lo ∧ lo ≤ 100000 * k) ∧ (0 ≤ hi ∧ hi ≤ 100000 * k) ∧ Hid (RlC w1 p zs k X c lo hi f ds wx))
    case atStart => exact ⟨0, none, 0, 0, 0, -1, [], by omega, rfl, rfl, rfl, rfl, rfl, by omega, by omega, ⟨rfl, rfl, World.ownsRow_nil _ _ _ _, .inl ⟨rfl, rfl⟩, Below.refl _ _⟩⟩
    case round =>
      obtain ⟨k, X, c, lo, hi, f, ds, hkg, rfl, rfl, rfl, rfl, rfl, ⟨l0, l1⟩, ⟨h0, h1⟩, hR⟩ := hrel
      cases gk with
      | zero =>
        obtain rfl : k = zs.length := by omega
        have e1 := hR.out.all
        have e2 := hR.out.fst
        rw [List.drop_length] at e1 e2
        simp only [levL, List.append_nil] at e1 e2
        have e3 : idxL (fun q => decide (p.lim < q.2)) (levL p 0 0 zs) 0 = f := by
          rcases e2 with ⟨rfl, h⟩ | ⟨_, h⟩
          · exact h
          · exact h
        have HE := Lib.hid (And.intro e1 e3)
        clear e1 e2 e3
        go_wp2
        go_ret3
        rw [HE.out.2, ← HE.out.1]
        exact ⟨X, c, rfl, Vals.own hR.out.own, H1.out.trans (hR.out.bel.mono H1.out.size)⟩
      | succ gg =>
        have hk : k < zs.length := by omega
        have hkz : (k : Int) < zs.length := by omega
        have hk40 : (k : Int) < 40 := by omega
        obtain ⟨c', off, hA, hcB, hc⟩ := HZ.out (by omega)
        subst hA
        have hbel := hR.out.bel
        have hx : ∀ W, Below w1.heap.size w1 W → W.cell? ⟨c', off + k, none⟩ = _ := fun W hW => ((H1.out.trans (hW.mono H1.out.size)).cell (p := ⟨c', off + k, none⟩) (by simp; omega)).trans (hc k hk)
        have hcp : ∀ W, Below w1.heap.size w1 W → ∀ i, W.cell? ⟨w.heap.size, i, none⟩ = _ := fun W hW i => (hW.cell (p := ⟨w.heap.size, i, none⟩) (by simp; omega)).trans (hc1 i)
        have hbz := HO.out.bz k hk
        have hst : levL p lo hi (zs.drop k) = (leftZ lo p.oh + zs[k], leftZ hi p.ol + zs[k]) :: levL p (leftZ lo p.oh + zs[k]) (leftZ hi p.ol + zs[k]) (zs.drop (k + 1)) := by rw [List.drop_eq_getElem_cons hk]; rfl
        have hg : zs[k]?.getD 0 = zs[k] := by simp [hk]
        rw [hg] at hx hbz
        generalize zs[k] = z at hx hst hbz
        obtain ⟨z0, z1⟩ := hbz
        have hO := HO.out
        have b1 := leftZ_bnd l0 hO.h0 hO.h1
        have b2 := leftZ_bnd h0 hO.l0 hO.l1
        have m1 : 0 ≤ lo * p.oh := Int.mul_nonneg l0 hO.h0
        have m2 : lo * p.oh ≤ lo * 1000 := Int.mul_le_mul_of_nonneg_left hO.h1 l0
        have m3 : 0 ≤ hi * p.ol := Int.mul_nonneg h0 hO.l0
        have m4 : hi * p.ol ≤ hi * 1000 := Int.mul_le_mul_of_nonneg_left hO.l1 h0
        have q1 : lo + (z - (lo * p.oh).tdiv 1000) = leftZ lo p.oh + z := by rw [Int.tdiv_eq_ediv_of_nonneg m1]; unfold leftZ; omega
        have q2 : hi + (z - (hi * p.ol).tdiv 1000) = leftZ hi p.ol + z := by rw [Int.tdiv_eq_ediv_of_nonneg m3]; unfold leftZ; omega
        have hbb := And.intro (show 0 ≤ leftZ lo p.oh + z ∧ leftZ lo p.oh + z ≤ 100000 * ((k + 1 : Nat) : Int) by omega) (show 0 ≤ leftZ hi p.ol + z ∧ leftZ hi p.ol + z ≤ 100000 * ((k + 1 : Nat) : Int) by omega)
        have HX := Lib.hid (And.intro hx hcp)
        clear hx hcp hc hg hO b1 b2
        generalize leftZ lo p.oh + z = lo' at hst q1 hbb
        generalize leftZ hi p.ol + z = hi' at hst q2 hbb
        have hle : 0 ≤ lo' ∧ lo' ≤ 4000000 ∧ 0 ≤ hi' ∧ hi' ≤ 4000000 := by omega
        have v1 : IntKind.i64.wrap (lo * p.oh) = lo * p.oh := by rw [IntKind.wrap_i64]; omega
        have v2 : IntKind.i64.wrap ((lo * p.oh).tdiv 1000) = (lo * p.oh).tdiv 1000 := by rw [IntKind.wrap_i64]; omega
        have v3 : IntKind.i64.wrap (z - (lo * p.oh).tdiv 1000) = z - (lo * p.oh).tdiv 1000 := by rw [IntKind.wrap_i64]; omega
        have v4 : IntKind.i64.wrap (lo + (z - (lo * p.oh).tdiv 1000)) = lo' := by rw [q1, IntKind.wrap_i64]; omega
        have u1 : IntKind.i64.wrap (hi * p.ol) = hi * p.ol := by rw [IntKind.wrap_i64]; omega
        have u2 : IntKind.i64.wrap ((hi * p.ol).tdiv 1000) = (hi * p.ol).tdiv 1000 := by rw [IntKind.wrap_i64]; omega
        have u3 : IntKind.i64.wrap (z - (hi * p.ol).tdiv 1000) = z - (hi * p.ol).tdiv 1000 := by rw [IntKind.wrap_i64]; omega
        have u4 : IntKind.i64.wrap (hi + (z - (hi * p.ol).tdiv 1000)) = hi' := by rw [q2, IntKind.wrap_i64]; omega
        have HBB := Lib.hid hbb
        have HST := Lib.hid hst
        clear hbb hst hbel q1 q2 m1 m2 m3 m4
        go_wp2
        refine R6.wp_walk (C := fun _ _ W => Below wr.heap.size wr W) 65 (by kernel_rfl) (by kernel_rfl) rfl (Below.refl _ _).drew ?_
        simp only []
        repeat (first
          | (refine' R6.WalkR.det (fun _ => rfl) (fun D ρ W hK hC => ?_) ?_
             rotate_left
             · have hx := HX.out.1 W (hR.out.bel.trans (hC.mono hR.out.bel.size))
               have hcp := HX.out.2 W (hR.out.bel.trans (hC.mono hR.out.bel.size))
               have HC := Lib.hid hC
               clear hC hK
               go_simp
               first
                 | with_reducible exact ⟨rfl, HC.out⟩
                 | fail
             simp only [Act.put, List.setIfInBounds_toArray, List.set_cons_succ, List.set_cons_zero]))
        refine R6.WalkR.nil (fun D ρ W5 hD hC => ?_)
        have HB5 := Lib.hid hC
        clear hD hC
        go_wp2
        refine R6.wp_walk (C := fun _ _ W => Below wr.heap.size wr W) 65 (by kernel_rfl) (by kernel_rfl) rfl HB5.out.drew ?_
        simp only []
        repeat (first
          | (refine' R6.WalkR.det (fun _ => rfl) (fun D ρ W hK hC => ?_) ?_
             rotate_left
             · have hx := HX.out.1 W (hR.out.bel.trans (hC.mono hR.out.bel.size))
               have hcp := HX.out.2 W (hR.out.bel.trans (hC.mono hR.out.bel.size))
               have HC := Lib.hid hC
               clear hC hK
               go_simp
               first
                 | with_reducible exact ⟨rfl, HC.out⟩
                 | fail
             simp only [Act.put, List.setIfInBounds_toArray, List.set_cons_succ, List.set_cons_zero]))
        refine R6.WalkR.nil (fun D ρ W6 hD hC => ?_)
        have h6 := hR.out.bel.trans (hC.mono hR.out.bel.size)
        have H6 := Lib.hid (And.intro h6 (own_grows hR.out.own hC))
        have hdl := hR.out.len
        have hds : ds.length ≤ 40 := by omega
        clear hD hC h6 hdl
        have hfs := hR.out.fst
        rw [HST.out] at hfs
        rcases hfs with ⟨rfl, hfi⟩ | ⟨hf0, hfi⟩
        · by_cases hlim : p.lim < hi'
          · have hfa : FirstAt (k : Int) (levL p 0 0 zs) (levL p lo' hi' (zs.drop (k + 1))) (k + 1) (fun q => decide (p.lim < q.2)) := .inr ⟨by omega, by rw [hfi]; simp [idxL, hlim]⟩
            clear hfi
            have HF := Lib.hid hfa
            clear hfa
            go_wp2_with
              (at_builtin
               have h0 := H6.out.2.alloc (.cells #[.int .i64 lo', .int .i64 hi'] 26)
               have h00 : w1.heap.size ≤ (W6.alloc (.cells #[.int .i64 lo', .int .i64 hi'] 26)).heap.size := by simpa using Nat.le_succ_of_le H6.out.1.size
               have h01 : Vals (W6.alloc (.cells #[.int .i64 lo', .int .i64 hi'] 26)) (W6.heap.size + 1) (some ⟨W6.heap.size, 0, none⟩) [.int .i64 lo', .int .i64 hi'] := vals_new (alloc_at0 _ _) (by omega)
               have h02 : ∀ u ∈ [Value.int .i64 lo', Value.int .i64 hi'], u.oneCell' = true := by simp [Value.oneCell']
               refine wpl_app (w := W6.alloc (.cells #[.int .i64 lo', .int .i64 hi'] 26)) (by rfl) (.tmp 48) (.tmp 52) 42 (by rfl) w1.heap.size 26 i0 (.agg #[.int .i64 0, .int .i64 0]) 2 16 Try.underlying42 HI.out.1 HI.out.2.1 HI.out.2.2.1 HI.out.2.2.2 rfl (by omega) (.slice X ds.length c) ds.length (pairs ds) (by rfl) h0 (W6.heap.size + 1) (some ⟨W6.heap.size, 0, none⟩) 1 1 [.int .i64 lo', .int .i64 hi'] (by rfl) h01 rfl h02 (by simp only [maxLen]; omega) (by omega) h00 ?_
               intro v7 w7 hown hgrow _
               obtain ⟨Y, c7, rfl⟩ := own_slice hown
               have hB7 := (H6.out.1.alloc H6.out.1.size _).grown hgrow (by simp; exact Nat.le_succ_of_le H6.out.1.size) (fun k e => (H6.out.2.lt k e).1)
               have hcp7 := HX.out.2 w7 hB7
               have H7 := Lib.hid (And.intro hown hB7)
               clear hown hgrow hB7 h0 h00 h01 h02)
            go_roundg gg
            case measure => omega
            case rel => exact ⟨k + 1, Y, c7, lo', hi', k, ds ++ [(lo', hi')], by omega, by go_num, rfl, rfl, rfl, by simp, HBB.out.1, HBB.out.2, ⟨by simp [hR.out.len], by rw [← hR.out.all, HST.out, List.append_assoc]; rfl, by have h := H7.out.1; rw [show [Value.int .i64 lo', Value.int .i64 hi'] = pairs [(lo', hi')] from rfl, ← pairs_app] at h; simpa using h, HF.out, H7.out.2⟩⟩
          · have hfa : FirstAt (-1) (levL p 0 0 zs) (levL p lo' hi' (zs.drop (k + 1))) (k + 1) (fun q => decide (p.lim < q.2)) := .inl ⟨rfl, by rw [hfi]; simp [idxL, hlim]⟩
            clear hfi
            have HF := Lib.hid hfa
            clear hfa
            go_wp2_with
              (at_builtin
               have h0 := H6.out.2.alloc (.cells #[.int .i64 lo', .int .i64 hi'] 26)
               have h00 : w1.heap.size ≤ (W6.alloc (.cells #[.int .i64 lo', .int .i64 hi'] 26)).heap.size := by simpa using Nat.le_succ_of_le H6.out.1.size
               have h01 : Vals (W6.alloc (.cells #[.int .i64 lo', .int .i64 hi'] 26)) (W6.heap.size + 1) (some ⟨W6.heap.size, 0, none⟩) [.int .i64 lo', .int .i64 hi'] := vals_new (alloc_at0 _ _) (by omega)
               have h02 : ∀ u ∈ [Value.int .i64 lo', Value.int .i64 hi'], u.oneCell' = true := by simp [Value.oneCell']
               refine wpl_app (w := W6.alloc (.cells #[.int .i64 lo', .int .i64 hi'] 26)) (by rfl) (.tmp 48) (.tmp 52) 42 (by rfl) w1.heap.size 26 i0 (.agg #[.int .i64 0, .int .i64 0]) 2 16 Try.underlying42 HI.out.1 HI.out.2.1 HI.out.2.2.1 HI.out.2.2.2 rfl (by omega) (.slice X ds.length c) ds.length (pairs ds) (by rfl) h0 (W6.heap.size + 1) (some ⟨W6.heap.size, 0, none⟩) 1 1 [.int .i64 lo', .int .i64 hi'] (by rfl) h01 rfl h02 (by simp only [maxLen]; omega) (by omega) h00 ?_
               intro v7 w7 hown hgrow _
               obtain ⟨Y, c7, rfl⟩ := own_slice hown
               have hB7 := (H6.out.1.alloc H6.out.1.size _).grown hgrow (by simp; exact Nat.le_succ_of_le H6.out.1.size) (fun k e => (H6.out.2.lt k e).1)
               have hcp7 := HX.out.2 w7 hB7
               have H7 := Lib.hid (And.intro hown hB7)
               clear hown hgrow hB7 h0 h00 h01 h02)
            go_roundg gg
            case measure => omega
            case rel => exact ⟨k + 1, Y, c7, lo', hi', -1, ds ++ [(lo', hi')], by omega, by go_num, rfl, rfl, rfl, by simp, HBB.out.1, HBB.out.2, ⟨by simp [hR.out.len], by rw [← hR.out.all, HST.out, List.append_assoc]; rfl, by have h := H7.out.1; rw [show [Value.int .i64 lo', Value.int .i64 hi'] = pairs [(lo', hi')] from rfl, ← pairs_app] at h; simpa using h, HF.out, H7.out.2⟩⟩
        · have hfa : FirstAt f (levL p 0 0 zs) (levL p lo' hi' (zs.drop (k + 1))) (k + 1) (fun q => decide (p.lim < q.2)) := .inr ⟨hf0, hfi⟩
          clear hfi
          have HF := Lib.hid hfa
          clear hfa
          go_wp2_with
            (at_builtin
             have h0 := H6.out.2.alloc (.cells #[.int .i64 lo', .int .i64 hi'] 26)
             have h00 : w1.heap.size ≤ (W6.alloc (.cells #[.int .i64 lo', .int .i64 hi'] 26)).heap.size := by simpa using Nat.le_succ_of_le H6.out.1.size
             have h01 : Vals (W6.alloc (.cells #[.int .i64 lo', .int .i64 hi'] 26)) (W6.heap.size + 1) (some ⟨W6.heap.size, 0, none⟩) [.int .i64 lo', .int .i64 hi'] := vals_new (alloc_at0 _ _) (by omega)
             have h02 : ∀ u ∈ [Value.int .i64 lo', Value.int .i64 hi'], u.oneCell' = true := by simp [Value.oneCell']
             refine wpl_app (w := W6.alloc (.cells #[.int .i64 lo', .int .i64 hi'] 26)) (by rfl) (.tmp 48) (.tmp 52) 42 (by rfl) w1.heap.size 26 i0 (.agg #[.int .i64 0, .int .i64 0]) 2 16 Try.underlying42 HI.out.1 HI.out.2.1 HI.out.2.2.1 HI.out.2.2.2 rfl (by omega) (.slice X ds.length c) ds.length (pairs ds) (by rfl) h0 (W6.heap.size + 1) (some ⟨W6.heap.size, 0, none⟩) 1 1 [.int .i64 lo', .int .i64 hi'] (by rfl) h01 rfl h02 (by simp only [maxLen]; omega) (by omega) h00 ?_
             intro v7 w7 hown hgrow _
             obtain ⟨Y, c7, rfl⟩ := own_slice hown
             have hB7 := (H6.out.1.alloc H6.out.1.size _).grown hgrow (by simp; exact Nat.le_succ_of_le H6.out.1.size) (fun k e => (H6.out.2.lt k e).1)
             have hcp7 := HX.out.2 w7 hB7
             have H7 := Lib.hid (And.intro hown hB7)
             clear hown hgrow hB7 h0 h00 h01 h02)
          go_roundg gg
          case measure => omega
          case rel => exact ⟨k + 1, Y, c7, lo', hi', f, ds ++ [(lo', hi')], by omega, by go_num, rfl, rfl, rfl, by simp, HBB.out.1, HBB.out.2, ⟨by simp [hR.out.len], by rw [← hR.out.all, HST.out, List.append_assoc]; rfl, by have h := H7.out.1; rw [show [Value.int .i64 lo', Value.int .i64 hi'] = pairs [(lo', hi')] from rfl, ← pairs_app] at h; simpa using h, HF.out, H7.out.2⟩⟩

end Go.Proofs.Ytfampdiompjmeaa
