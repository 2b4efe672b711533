/-
  The law CureLevels.
-/
import Derived.Test.YtfampdiompjmeaaCfE
import Derived.Test.YtfampdiompjmeaaCdM
namespace Go.Proofs.Ytfampdiompjmeaa
open Go.RowKit Go.Shelf
open R6 (done done_ne done_me upd_ne upd_me)

attribute [local go_sem] gives

theorem idxL_first {α : Type} {P : α → Bool} : ∀ (l : List α) (i : Nat),
    (idxL P l i < 0 → ∀ k (h : k < l.length), P l[k] = false) ∧
    (0 ≤ idxL P l i → ∃ j, ∃ h : j < l.length, idxL P l i = ((i + j : Nat) : Int) ∧ P l[j] = true ∧ ∀ m (h : m < l.length), m < j → P l[m] = false)
  | [], i => ⟨fun _ k h => by simp at h, fun h => by simp [idxL] at h⟩
  | x :: l, i => by
    have ih := idxL_first (P := P) l (i + 1)
    unfold idxL
    by_cases hx : P x = true
    · rw [if_pos hx]
      exact ⟨fun h => by omega, fun _ => ⟨0, by simp, by simp, hx, fun m _ hm => by omega⟩⟩
    · rw [if_neg hx]
      have hx' : P x = false := by simpa using hx
      refine ⟨fun h k hk => ?_, fun h => ?_⟩
      · cases k with
        | zero => exact hx'
        | succ k => exact ih.1 h k (by simpa using hk)
      · obtain ⟨j, hj, a, b, c⟩ := ih.2 h
        refine ⟨j + 1, by simpa using hj, by rw [a]; omega, b, fun m hm hmj => ?_⟩
        cases m with
        | zero => exact hx'
        | succ m => exact c m (by simpa using hm) (by omega)

/-- Where the first day above the limit lies. -/
def FirstIs (F : Int) (k : Nat) (h lim : Int) : Prop := (F < 0 ∧ h ≤ lim) ∨ (0 ≤ F ∧ (k : Int) < F ∧ h ≤ lim) ∨ (0 ≤ F ∧ (k : Int) = F ∧ lim < h) ∨ (0 ≤ F ∧ F < (k : Int))
theorem firstIs_of {lim : Int} {L : List (Int × Int)} {k : Nat} (hk : k < L.length) : FirstIs (idxL (fun q => decide (lim < q.2)) L 0) k L[k].2 lim := by
  have hf := idxL_first (P := fun q : Int × Int => decide (lim < q.2)) L 0
  unfold FirstIs
  by_cases h0 : idxL (fun q => decide (lim < q.2)) L 0 < 0
  · have := hf.1 h0 k hk
    simp only [decide_eq_false_iff_not] at this
    exact .inl ⟨h0, by omega⟩
  · obtain ⟨j, hj, a, b, c⟩ := hf.2 (by omega)
    simp only [Nat.zero_add] at a
    rw [a]
    simp only [decide_eq_true_eq] at b
    rcases Nat.lt_trichotomy k j with h | h | h
    · have := c k hk h
      simp only [decide_eq_false_iff_not] at this
      exact .inr (.inl ⟨by omega, by omega, by omega⟩)
    · subst h
      exact .inr (.inr (.inl ⟨by omega, rfl, b⟩))
    · exact .inr (.inr (.inr ⟨by omega, by omega⟩))

set_option maxHeartbeats 2000000 in
theorem refPond_big (p : Po) (zs : List Int) (A : Option Addr) (cap : Nat) (B : Nat) (w : World) (hB : B ≤ w.heap.size) (hz : Ints w B A zs) (hl : zs.length ≤ 9223372036854775807) :
    Calls Try.prog 41 #[.agg (pcells p), .slice A zs.length cap] w fun e w' => e = .returned (.bool (okLev p zs)) ∧ Below w.heap.size w w' := by
  have h1 := fun W => refSpanned_any p.ol p.oh 0 1000 W
  have h2 := fun W => refWithin_any p.lim 0 1000000 W
  have e : okLev p zs = (okS p.ol p.oh 0 1000 && inR p.lim 0 1000000 && (decide (zs.length ≤ 40) && allB 0 100000 zs)) := by rw [okLev, okPo, okDrains, allB_one]
  rw [e]
  clear e
  unfold pcells
  generalize inR p.lim 0 1000000 = v2 at h2
  generalize okS p.ol p.oh 0 1000 = v1 at h1
  have H := Lib.hid (And.intro h1 h2)
  have HZ := Lib.hid hz
  clear h1 h2 hz
  cases v1 with
  | false =>
    go_enter Try.func41, Try.ntmps41
    go_wp2_with (go_at_call 64; refine (H.out.1 _).mono ?_; rintro e w1 ⟨rfl, hB1⟩; have H1 := Lib.hid hB1; clear hB1)
    go_ret
    exact ⟨rfl, ((Below.refl _ w).alloc (Nat.le_refl _) _).trans (H1.out.mono (by simp))⟩
  | true =>
    cases v2 with
    | false =>
      go_enter Try.func41, Try.ntmps41
      go_wp2_with (first
        | (go_at_call 61; refine (H.out.2 w1).mono ?_; rintro e w2 ⟨rfl, rfl⟩)
        | (go_at_call 64; refine (H.out.1 _).mono ?_; rintro e w1 ⟨rfl, hB1⟩
           have hc1 := box_cells rfl hB1
           have H1 := Lib.hid (((Below.refl _ w).alloc (Nat.le_refl _) _).trans (hB1.mono (by simp))); clear hB1))
      go_ret
      exact ⟨rfl, H1.out⟩
    | true =>
      by_cases h40 : zs.length ≤ 40
      · rw [decide_eq_true h40]
        simp only [Bool.true_and]
        have hk40 : (zs.length : Int) ≤ 40 := by omega
        go_enter Try.func41, Try.ntmps41
        go_wp2_with (first
          | (go_at_call 61; refine (H.out.2 w1).mono ?_; rintro e w2 ⟨rfl, rfl⟩)
          | (go_at_call 64; refine (H.out.1 _).mono ?_; rintro e w1 ⟨rfl, hB1⟩
             have hc1 := box_cells rfl hB1
             have H1 := Lib.hid (((Below.refl _ w).alloc (Nat.le_refl _) _).trans (hB1.mono (by simp))); clear hB1))
        go_loopg [5] zs.length (fun gg s5 wx => ∃ k : Nat, k + gg = zs.length ∧ s5 = .int .i64 k ∧ Hid (allB 0 100000 (zs.drop k) = allB 0 100000 zs) ∧ wx = w1)
        case atStart => exact ⟨0, by omega, rfl, rfl, rfl⟩
        case round =>
          obtain ⟨k, hkg, rfl, hI, rfl⟩ := hrel
          cases gk with
          | zero =>
            obtain rfl : k = zs.length := by omega
            go_wp2
            go_ret
            refine ⟨?_, H1.out⟩
            rw [← hI.out, List.drop_length]
            rfl
          | succ gg =>
            have hk : k < zs.length := by omega
            have hkz : (k : Int) < zs.length := by omega
            obtain ⟨c, off, hA, hcB, hc⟩ := HZ.out (by omega)
            subst hA
            have hx : wr.cell? ⟨c, off + k, none⟩ = _ := (H1.out.cell (p := ⟨c, off + k, none⟩) (by simp; omega)).trans (hc k hk)
            have hst := allB_drop (lo := 0) (hi := 100000) hk
            have hg : zs[k]?.getD 0 = zs[k] := by simp [hk]
            rw [hg] at hx
            rw [hI.out] at hst
            have hw := refWithin_any zs[k] 0 100000 wr
            generalize zs[k] = x at hx hst hw
            cases hin : inR x 0 100000 with
            | true =>
              rw [hin] at hst hw
              have HST := Lib.hid hst
              have HW := Lib.hid hw
              clear hst hw hc hg hin
              go_wp2_with (go_at_call 61; refine HW.out.mono ?_; rintro e w2 ⟨rfl, rfl⟩)
              go_roundg gg
              case measure => omega
              case rel => exact ⟨k + 1, by omega, by go_num, by rw [HST.out]; rfl, rfl⟩
            | false =>
              rw [hin] at hst hw
              have HST := Lib.hid hst
              have HW := Lib.hid hw
              clear hst hw hc hg hin
              go_wp2_with (go_at_call 61; refine HW.out.mono ?_; rintro e w2 ⟨rfl, rfl⟩)
              go_ret
              exact ⟨by rw [HST.out]; rfl, H1.out⟩
      · rw [decide_eq_false h40]
        have hk40 : ¬ (zs.length : Int) ≤ 40 := by omega
        go_enter Try.func41, Try.ntmps41
        go_wp2_with (first
          | (go_at_call 61; refine (H.out.2 w1).mono ?_; rintro e w2 ⟨rfl, rfl⟩)
          | (go_at_call 64; refine (H.out.1 _).mono ?_; rintro e w1 ⟨rfl, hB1⟩
             have hc1 := box_cells rfl hB1
             have H1 := Lib.hid (((Below.refl _ w).alloc (Nat.le_refl _) _).trans (hB1.mono (by simp))); clear hB1))
        go_ret
        exact ⟨rfl, H1.out⟩

set_option maxRecDepth 100000 in
set_option maxHeartbeats 8000000 in
theorem cureLevels_no (p : Po) (zs : List Int) (A : Option Addr) (cap : Nat) (Y : Option Addr) (k2 : Nat) (ys : List Int) (w : World) (hz : Ints w w.heap.size A zs) (hl : zs.length ≤ 9223372036854775807) (hno : okLev p zs = false) :
    Calls Try.prog 12 #[.agg (pcells p), .slice A zs.length cap, .slice Y ys.length k2] w fun e w' => e = .returned (.bool true) ∧ Below w.heap.size w w' := by
  have hrd := fun W (hW : Below w.heap.size w W) => refPond_big p zs A cap w.heap.size W hW.size (hz.below hW) hl
  rw [hno] at hrd
  have h0 := boxD w (pcells p) 46
  have HRD := Lib.hid hrd
  have H0 := Lib.hid h0
  clear hrd hno h0 hz
  unfold pcells at H0 HRD ⊢
  go_enter Try.func12, Try.ntmps12
  go_wp2_with (first
    | (go_at_call 14; refine (alive_any _).mono ?_; rintro e w2 ⟨rfl, hB2⟩
       have h2 := H0.out.any (D' := fun _ => false) (σ' := fun _ => undef) hB2
       have hc2 := fun i => cell_of_row w2 w.heap.size i _ _ _ h2.box
       have H2 := Lib.hid h2; clear hB2 h2)
    | (go_at_call 41; refine (HRD.out w2 H2.out.bel).mono ?_; rintro e w3 ⟨rfl, hB3⟩; have H3 := Lib.hid (H2.out.bel.trans (hB3.mono H2.out.lb)); clear hB3))
  go_ret
  exact ⟨rfl, H3.out⟩

set_option maxRecDepth 100000 in
set_option maxHeartbeats 8000000 in
theorem cureLevels_main (p : Po) (zs : List Int) (A : Option Addr) (cap : Nat) (Y : Option Addr) (k2 : Nat) (ys : List Int) (w : World) (hz : Ints w w.heap.size A zs) (hl : zs.length ≤ 1000000) (hY : ByAt w w.heap.size Y ys) (hok : okLev p zs = true) :
    Calls Try.prog 12 #[.agg (pcells p), .slice A zs.length cap, .slice Y ys.length k2] w fun e w' => e = .returned (.bool true) ∧ Below w.heap.size w w' := by
  have hrd := fun W (hW : Below w.heap.size w W) => refPond_any p zs A cap w.heap.size W hW.size (hz.below hW) hl
  rw [hok] at hrd
  have hlv := fun W (hW : Below w.heap.size w W) => levels_any p zs A cap w.heap.size W hW.size (hz.below hW) hl
  unfold LevsPost at hlv
  rw [show levsV p zs = levL p 0 0 zs by simp [levsV, hok], show levsF p zs = idxL (fun q => decide (p.lim < q.2)) (levL p 0 0 zs) 0 by simp [levsF, hok], show levsE p zs = 0 by simp [levsE, hok], levL_len] at hlv
  have hfi := fun k (hk : k < (levL p 0 0 zs).length) => firstIs_of (lim := p.lim) hk
  have hLl := levL_len p zs 0 0
  have hFb := idxL_bnd (P := fun q : Int × Int => decide (p.lim < q.2)) (levL p 0 0 zs) 0
  rw [hLl] at hFb
  have hok2 := hok
  simp only [okLev, okPo, okDrains, Bool.and_eq_true, okS_iff, decide_eq_true_eq, allB_iff] at hok2
  obtain ⟨⟨hpo, hli⟩, hz40, hdr⟩ := hok2
  have hbz := allB_bnd hdr
  obtain ⟨o1, o2, o3, o4, o5⟩ := hpo
  obtain ⟨hl0, hl1⟩ := hli
  have hpj := fun (i : Int) W => pick_any p.ol p.oh (atL ys i) (by omega) o1 (by omega) (atL_bnd hY).1 (atL_bnd hY).2 W
  have hpl := fun (i : Int) => pickL_bnd (n := atL ys i) o1
  have hat := fun (i : Int) (hi : 0 ≤ i) W (hW : Below w.heap.size w W) => at_any Y k2 ys i hi w.heap.size W (hY.below hW).va hY.ln
  have h0 := boxD w (pcells p) 46
  generalize hLL : levL p 0 0 zs = L at hlv hfi hLl hFb
  generalize idxL (fun q => decide (p.lim < q.2)) L 0 = F at hlv hfi hFb
  obtain ⟨f0, f1⟩ := hFb
  have f1' : F < zs.length := by simpa using f1
  have hf3 : ¬ F < -1 := by omega
  have hf4 : ¬ F ≥ zs.length := by omega
  have HF := Lib.hid (And.intro hrd (And.intro hlv (And.intro hpj (And.intro hpl hat))))
  have HL := Lib.hid (And.intro hLL (And.intro hfi (And.intro hLl hbz)))
  have HZ := Lib.hid hz
  have H0 := Lib.hid h0
  clear hrd hlv hpj hpl hat hLL hfi hLl hbz hz h0 hok hdr hY f1
  unfold pcells at H0 HF ⊢
  go_enter Try.func12, Try.ntmps12
  go_wp2_with (first
    | (go_at_call 14; refine (alive_any _).mono ?_; rintro e w2 ⟨rfl, hB2⟩
       have h2 := H0.out.any (D' := fun _ => false) (σ' := fun _ => undef) hB2
       have hc2 := fun i => cell_of_row w2 w.heap.size i _ _ _ h2.box
       have H2 := Lib.hid h2; clear hB2 h2)
    | (go_at_call 41; refine (HF.out.1 w2 H2.out.bel).mono ?_; rintro e w3 ⟨rfl, hB3⟩
       have h3 := H2.out.any (D' := fun _ => false) (σ' := fun _ => undef) hB3
       have hc3 := fun i => cell_of_row w3 w.heap.size i _ _ _ h3.box
       have H3 := Lib.hid h3; clear hB3 h3 hc2)
    | (go_at_call 22; refine (HF.out.2.1 w3 H3.out.bel).mono ?_; rintro e w4 ⟨A4, c4, rfl, hV4, hB4⟩
       have h4 := H3.out.any (D' := fun _ => false) (σ' := fun _ => undef) hB4
       have H4 := Lib.hid (And.intro h4 hV4); clear hB4 h4 hc3 hV4))
  go_loopg [11, 12, 13, 52] zs.length (fun gg s11 s12 s13 s52 wx => ∃ (k : Nat) (now lo hi : Int), k + gg = zs.length ∧ s11 = .int .i64 now ∧ s12 = .int .i64 lo ∧ s13 = .int .i64 hi ∧ s52 = .int .i64 k ∧ (0 ≤ lo ∧ lo ≤ now ∧ now ≤ hi) ∧ hi ≤ 100000 * k ∧ Hid (levL p lo hi (zs.drop k) = L.drop k) ∧ Hid (ResC w.heap.size w w.heap.size #[.int .i64 p.ol, .int .i64 p.oh, .int .i64 p.lim] 46 (fun _ _ => True) 99 999 (fun _ => false) (fun _ => undef) wx) ∧ Hid (Grows w4 wx))
  case atStart => exact ⟨0, 0, 0, 0, by omega, rfl, rfl, rfl, rfl, by omega, by omega, by show levL p 0 0 (zs.drop 0) = L.drop 0; rw [List.drop_zero, List.drop_zero]; exact HL.out.1, H4.out.1, Below.refl _ _⟩
  case round =>
    obtain ⟨k, now, lo, hi, hkg, rfl, rfl, rfl, rfl, ⟨b0, b1, b2⟩, b3, hD, hBx, hG⟩ := hrel
    cases gk with
    | zero =>
      have hkn : ¬ (k : Int) < zs.length := by omega
      go_wp2
      go_ret
      exact ⟨rfl, hBx.out.bel⟩
    | succ gg =>
      have hk : k < zs.length := by omega
      have hkz : (k : Int) < zs.length := by omega
      have hk0 : (0 : Int) ≤ k := by omega
      have hkL : k < L.length := by rw [HL.out.2.2.1]; exact hk
      have hcb := fun i => cell_of_row wr w.heap.size i _ _ _ hBx.out.box
      obtain ⟨c, off, hA, hcB, hc⟩ := HZ.out (by omega)
      subst hA
      have hxz : wr.cell? ⟨c, off + k, none⟩ = _ := (hBx.out.bel.cell (p := ⟨c, off + k, none⟩) (by simp; omega)).trans (hc k hk)
      have hbk := HL.out.2.2.2 k hk
      have hst : levL p lo hi (zs.drop k) = (leftZ lo p.oh + zs[k], leftZ hi p.ol + zs[k]) :: levL p (leftZ lo p.oh + zs[k]) (leftZ hi p.ol + zs[k]) (zs.drop (k + 1)) := by rw [List.drop_eq_getElem_cons hk]; rfl
      rw [hD.out, List.drop_eq_getElem_cons hkL] at hst
      have hfk := HL.out.2.1 k hkL
      have hg : zs[k]?.getD 0 = zs[k] := by simp [hk]
      rw [hg] at hxz hbk
      generalize zs[k] = z at hxz hst hbk
      obtain ⟨z0, z1⟩ := hbk
      obtain ⟨g, o2', hA4, hgB, hg4⟩ := H4.out.2 (by rw [pairs_len, HL.out.2.2.1]; omega)
      subst hA4
      have hpq := pairs_at L k hkL
      obtain ⟨x, hx⟩ : ∃ x, x = pickL p.ol p.oh (atL ys k) := ⟨_, rfl⟩
      have hxb := HF.out.2.2.2.1 (k : Int)
      have hpx := HF.out.2.2.1 (k : Int)
      have hax := HF.out.2.2.2.2 (k : Int) hk0
      rw [← hx] at hxb hpx
      obtain ⟨x0, x1⟩ := hxb
      have now0 : 0 ≤ now := by omega
      have hi0 : 0 ≤ hi := by omega
      have hi1 : hi ≤ 4000000 := by omega
      have q0 : 0 ≤ now * x := Int.mul_nonneg now0 (by omega)
      have q1 : now * x ≤ now * 1000 := Int.mul_le_mul_of_nonneg_left (by omega) now0
      have q2 : (now * x).tdiv 1000 = now * x / 1000 := Int.tdiv_eq_ediv_of_nonneg q0
      have r0 : 0 ≤ hi * p.ol := Int.mul_nonneg hi0 (by omega)
      have r1 : hi * p.ol ≤ hi * 1000 := Int.mul_le_mul_of_nonneg_left (by omega) hi0
      have r2 : (hi * p.ol).tdiv 1000 = hi * p.ol / 1000 := Int.tdiv_eq_ediv_of_nonneg r0
      have l0 : 0 ≤ lo * p.oh := Int.mul_nonneg b0 (by omega)
      have l1 : lo * p.oh ≤ lo * 1000 := Int.mul_le_mul_of_nonneg_left (by omega) b0
      have l2 : (lo * p.oh).tdiv 1000 = lo * p.oh / 1000 := Int.tdiv_eq_ediv_of_nonneg l0
      have m1 := leftZ_anti now0 x0
      have m2 := leftZ_mono b2 (by omega : 0 ≤ p.ol) (by omega : p.ol ≤ 1000)
      have m3 := leftZ_anti now0 x1
      have m4 := leftZ_mono b1 (by omega : 0 ≤ p.oh) (by omega : p.oh ≤ 1000)
      have m5 := leftZ_bnd b0 (by omega : 0 ≤ p.oh) (by omega : p.oh ≤ 1000)
      have m6 := leftZ_bnd hi0 (by omega : 0 ≤ p.ol) (by omega : p.ol ≤ 1000)
      unfold leftZ at m1 m2 m3 m4 m5 m6 hst
      rw [show lo - lo * p.oh / 1000 + z = (lo + (z - lo * p.oh / 1000)) by omega, show hi - hi * p.ol / 1000 + z = (hi + (z - hi * p.ol / 1000)) by omega] at hst
      obtain ⟨hLk, hLd⟩ := List.cons.inj hst
      have hLk2 : L[k]?.getD (0, 0) = ((lo + (z - lo * p.oh / 1000)), (hi + (z - hi * p.ol / 1000))) := by rw [← hLk]; simp [hkL]
      rw [hLk2] at hpq
      rw [hLk] at hfk
      have hcx0 : w4.cell? ⟨g, o2' + k * 2, none⟩ = some (.int .i64 ((lo + (z - lo * p.oh / 1000)))) := hg4 _ _ hpq.1
      have hcx1 : w4.cell? ⟨g, o2' + k * 2 + 1, none⟩ = some (.int .i64 ((hi + (z - hi * p.ol / 1000)))) := hg4 _ _ hpq.2
      have w1 : IntKind.i64.wrap (now * x) = now * x := IntWalk.i64_in _ (by omega)
      have w2 : IntKind.i64.wrap (now * x / 1000) = now * x / 1000 := IntWalk.i64_in _ (by omega)
      have w3 : IntKind.i64.wrap (z - now * x / 1000) = z - now * x / 1000 := IntWalk.i64_in _ (by omega)
      have w4' : IntKind.i64.wrap ((now + (z - now * x / 1000))) = (now + (z - now * x / 1000)) := IntWalk.i64_in _ (by omega)
      have n1 : ¬ (now + (z - now * x / 1000)) < (lo + (z - lo * p.oh / 1000)) := by omega
      have n2 : ¬ (now + (z - now * x / 1000)) > (hi + (z - hi * p.ol / 1000)) := by omega
      have n3 : decide ((now + (z - now * x / 1000)) < (lo + (z - lo * p.oh / 1000))) = false := decide_eq_false n1
      have n4 : decide ((hi + (z - hi * p.ol / 1000)) < (now + (z - now * x / 1000))) = false := decide_eq_false n2
      have HB := Lib.hid (And.intro (show 0 ≤ (lo + (z - lo * p.oh / 1000)) ∧ (lo + (z - lo * p.oh / 1000)) ≤ (now + (z - now * x / 1000)) ∧ (now + (z - now * x / 1000)) ≤ (hi + (z - hi * p.ol / 1000)) by omega) (show (hi + (z - hi * p.ol / 1000)) ≤ 100000 * ((k + 1 : Nat) : Int) by omega))
      have HPX := Lib.hid (And.intro hpx (And.intro hax (And.intro hcx0 (And.intro hcx1 hgB))))
      have HST := Lib.hid hLd.symm
      have HFK := Lib.hid hfk
      have hq := fun W => neqSpan W ((lo + (z - lo * p.oh / 1000))) ((hi + (z - hi * p.ol / 1000))) ((lo + (z - lo * p.oh / 1000))) ((hi + (z - hi * p.ol / 1000)))
      have hgd := Try.guard26
      simp only [beq_self_eq_true, Bool.and_self, Bool.not_true] at hq
      have HQ := Lib.hid (And.intro hq hgd)
      clear hpx hax m1 m2 m3 m4 m5 m6 hx hst hLk hLd hLk2 hpq hfk hcx0 hcx1 hg4 hgB hc hcB hg hq hgd hkL
      go_wp2
      clear hcb
      refine R6.wp_walk (C := fun D σ W => ResC w.heap.size w w.heap.size #[.int .i64 p.ol, .int .i64 p.oh, .int .i64 p.lim] 46 (fun _ _ => True) 99 999 D σ W ∧ Below wr.heap.size wr W) 142 (by kernel_rfl) (by kernel_rfl) rfl
        ⟨ResC.start hBx.out.bel hBx.out.lb hBx.out.box rfl, (Below.refl _ _).drew⟩ ?_
      simp only []
      repeat (first
        | (refine' R6.WalkR.det (fun _ => rfl) (fun D ρ W hK hC => ?_) ?_
           rotate_left
           · have hcb := fun i => cell_of_row W w.heap.size i _ _ _ hC.1.box
             have HC := Lib.hid hC
             clear hC hK
             go_simp
             first
               | with_reducible exact ⟨rfl, HC.out.1.same, HC.out.2⟩
               | (go_at_call 42; refine (HPX.out.2.1 W HC.out.1.bel).mono ?_; rintro e W1 ⟨rfl, rfl⟩; exact ⟨_, rfl, rfl, HC.out.1.same, HC.out.2⟩)
               | (go_at_call 37; refine (HPX.out.1 W).mono ?_; rintro e W1 ⟨rfl, hB1⟩; exact ⟨_, rfl, rfl, HC.out.1.any hB1, HC.out.2.trans (hB1.mono HC.out.2.size)⟩)
           simp only [Act.put, List.setIfInBounds_toArray, List.set_cons_succ, List.set_cons_zero]))
      refine R6.WalkR.nil (fun D ρ W6 hD' hC => ?_)
      have h6 : ResC w.heap.size w w.heap.size #[.int .i64 p.ol, .int .i64 p.oh, .int .i64 p.lim] 46 (fun _ _ => True) 99 999 (fun _ => false) (fun _ => undef) W6 := hC.1.same
      have hc6 := fun i => cell_of_row W6 w.heap.size i _ _ _ h6.box
      have H6 := Lib.hid (And.intro h6 (hG.out.trans (hC.2.mono hG.out.size)))
      clear hC hD' h6
      go_wp2
      clear hc6
      obtain ⟨hq, hgd⟩ := HQ.out
      refine R6.wp_walk (C := fun D σ W => ResC w.heap.size w w.heap.size #[.int .i64 p.ol, .int .i64 p.oh, .int .i64 p.lim] 46 (fun _ _ => True) 99 999 D σ W ∧ Grows W6 W) 142 (by kernel_rfl) (by kernel_rfl) rfl
        ⟨ResC.start H6.out.1.bel H6.out.1.lb H6.out.1.box rfl, (Below.refl _ _).drew⟩ ?_
      simp only []
      repeat (first
        | (refine' R6.WalkR.det (fun _ => rfl) (fun D ρ W hK hC => ?_) ?_
           rotate_left
           · have hgw := H6.out.2.trans (hC.2.mono H6.out.2.size)
             have hd0 := (hgw.cell (p := ⟨g, o2' + k * 2, none⟩) HPX.out.2.2.2.2).trans HPX.out.2.2.1
             have hd1 := (hgw.cell (p := ⟨g, o2' + k * 2 + 1, none⟩) HPX.out.2.2.2.2).trans HPX.out.2.2.2.1
             clear hgw
             have HC := Lib.hid hC
             clear hC hK
             go_simp
             first
               | with_reducible exact ⟨rfl, HC.out.1.same, HC.out.2⟩
               | (go_at_call 21; refine (span4_any _ _ W).mono ?_; rintro e W1 ⟨rfl, hB1⟩; exact ⟨_, rfl, rfl, HC.out.1.any hB1, HC.out.2.trans (hB1.mono HC.out.2.size)⟩)
           simp only [Act.put, List.setIfInBounds_toArray, List.set_cons_succ, List.set_cons_zero]))
      refine R6.WalkR.nil (fun D ρ W7 hD' hC => ?_)
      have h7 : ResC w.heap.size w w.heap.size #[.int .i64 p.ol, .int .i64 p.oh, .int .i64 p.lim] 46 (fun _ _ => True) 99 999 (fun _ => false) (fun _ => undef) W7 := hC.1.same
      have hc7 := fun i => cell_of_row W7 w.heap.size i _ _ _ h7.box
      have H7 := Lib.hid (And.intro h7 (H6.out.2.trans (hC.2.mono H6.out.2.size)))
      have hfk := HFK.out
      clear hC hD' h7 hq hgd
      rcases hfk with ⟨e1, e2⟩ | ⟨e0, e1, e2⟩ | ⟨e0, e1, e2⟩ | ⟨e0, e1⟩
      · have t1 : ¬ (k : Int) = F := by omega
        have t2 : ¬ (now + (z - now * x / 1000)) > p.lim := by omega
        clear e2 n1 n2 n3 n4
        go_wp2
        go_roundg gg
        case measure => omega
        case rel => exact ⟨k + 1, now + (z - now * x / 1000), lo + (z - lo * p.oh / 1000), hi + (z - hi * p.ol / 1000), by omega, rfl, rfl, rfl, by go_num, HB.out.1, HB.out.2, HST.out, H7.out.1, H7.out.2⟩
      · have t0 : ¬ F < 0 := by omega
        have t1 : ¬ (k : Int) = F := by omega
        have t2 : ¬ (now + (z - now * x / 1000)) > p.lim := by omega
        clear e2 n1 n2 e0
        go_wp2
        go_roundg gg
        case measure => omega
        case rel => exact ⟨k + 1, now + (z - now * x / 1000), lo + (z - lo * p.oh / 1000), hi + (z - hi * p.ol / 1000), by omega, rfl, rfl, rfl, by go_num, HB.out.1, HB.out.2, HST.out, H7.out.1, H7.out.2⟩
      · have t0 : ¬ F < 0 := by omega
        have t1 : ¬ (k : Int) < F := by omega
        have t2 : ((k : Int) = F) ↔ True := ⟨fun _ => trivial, fun _ => e1⟩
        have t3 : ¬ (hi + (z - hi * p.ol / 1000)) ≤ p.lim := by omega
        clear e0 e1 e2 n1 n2 n3 n4
        go_wp2
        go_roundg gg
        case measure => omega
        case rel => exact ⟨k + 1, now + (z - now * x / 1000), lo + (z - lo * p.oh / 1000), hi + (z - hi * p.ol / 1000), by omega, rfl, rfl, rfl, by go_num, HB.out.1, HB.out.2, HST.out, H7.out.1, H7.out.2⟩
      · have t0 : ¬ F < 0 := by omega
        have t1 : ¬ (k : Int) < F := by omega
        have t2 : ¬ (k : Int) = F := by omega
        clear e0 e1 n1 n2 n3 n4
        go_wp2
        go_roundg gg
        case measure => omega
        case rel => exact ⟨k + 1, now + (z - now * x / 1000), lo + (z - lo * p.oh / 1000), hi + (z - hi * p.ol / 1000), by omega, rfl, rfl, rfl, by go_num, HB.out.1, HB.out.2, HST.out, H7.out.1, H7.out.2⟩

theorem cureLevels_law (p : Po) (zs : List Int) (A : Option Addr) (cap : Nat) (Y : Option Addr) (k2 : Nat) (ys : List Int) (w : World) (hz : Ints w w.heap.size A zs) (hl : zs.length ≤ 9223372036854775807) (hY : ByAt w w.heap.size Y ys) :
    Calls Try.prog 12 #[.agg (pcells p), .slice A zs.length cap, .slice Y ys.length k2] w fun e w' => e = .returned (.bool true) ∧ Below w.heap.size w w' := by
  cases hok : okLev p zs with
  | false => exact cureLevels_no p zs A cap Y k2 ys w hz hl hok
  | true => exact cureLevels_main p zs A cap Y k2 ys w hz (by simp only [okLev, okDrains, Bool.and_eq_true, decide_eq_true_eq] at hok; omega) hY hok

end Go.Proofs.Ytfampdiompjmeaa
