/-
  The reference's Grove, whole.
-/
import Derived.Test.YtkjdapgkojfbmaaRefF
namespace Go.Proofs.Ytkjdapgkojfbmaa
open Go.RowKit

/-- What is known of a grove within its bounds. -/
structure Pre (g : Gr) (d r : Nat) : Prop where
  hd : g.hab.dies = d
  hr : g.hab.ripe = r
  d1 : 1 ≤ d
  d6 : d ≤ 6
  r1 : 1 ≤ r
  rd : r ≤ d
  ls : g.start.length = d + 1
  l60 : g.seas.length ≤ 60
  f0 : 0 ≤ g.first
  f1 : g.first ≤ 3000
  fl : g.first + g.seas.length ≤ 3000

theorem okPre_pre {g : Gr} (h : okPre g = true) : ∃ d r, Pre g d r := by
  simp only [okPre, Bool.and_eq_true, decide_eq_true_eq, inR_iff, okHab_iff] at h
  obtain ⟨⟨⟨⟨⟨h1, h2⟩, h3⟩, h4⟩, h5⟩, h6⟩ := h
  exact ⟨g.hab.dies.toNat, g.hab.ripe.toNat, by omega, by omega, by omega, by omega, by omega, by omega, by omega, by omega, by omega, by omega, by omega⟩

/-- The state of the look at the seasons. -/
theorem runL_succ (l : List Int) (ss : List (Int × Int)) (i : Nat) (hi : i < ss.length) : runL l (ss.take (i + 1)) = yearL (runL l (ss.take i)) (ss[i]?.getD (0, 0)).1 (ss[i]?.getD (0, 0)).2 := by
  unfold runL
  rw [List.take_add_one, List.foldl_append]
  simp [hi]

set_option maxHeartbeats 4000000 in
theorem refGrove_start (g : Gr) (A1 : Option Addr) (c1 : Nat) (A2 : Option Addr) (c2 : Nat) (B : Nat) (w : World) (hB : B ≤ w.heap.size) (hG : GrAt w B g A1 c1 A2 c2) (hp : okPre g = true) :
    Calls Try.prog 39 #[grv g A1 c1 A2 c2] w fun e w' => e = .returned (.bool (okStart g && seasOk g.hab.ripe.toNat g.start g.seas)) ∧ Below w.heap.size w w' := by
  obtain ⟨d, r, P⟩ := okPre_pre hp
  obtain ⟨hd, hr, d1, d6, r1, rd, ls, l60, f0, f1, fl⟩ := P
  have h0 : inR g.id 0 9999 = true ∧ okHab g.hab = true ∧ inR g.first 0 3000 = true := by
    simp only [okPre, Bool.and_eq_true] at hp; exact ⟨hp.1.1.1.1.1, hp.1.1.1.1.2, hp.1.1.1.2⟩
  obtain ⟨hi1, hi2, hi3⟩ := h0
  have h4 : (g.start.length : Int) ≤ g.hab.dies + 1 := by omega
  have h4' : g.hab.dies + 1 ≤ (g.start.length : Int) := by omega
  have k2 : 1 ≤ g.hab.dies ∧ g.hab.dies ≤ 6 := by omega
  have hG' := Lib.hid hG
  have Hd := Lib.hid hd
  have Hr := Lib.hid hr
  have Hls := Lib.hid ls
  have Hp := Lib.hid hp
  clear hG hd hr ls hp
  unfold grv
  go_enter Try.func39, Try.ntmps39
  go_wp2_with (first
      | (go_at_call 54; refine (refWithin_any _ _ _ _).mono ?_; rintro e w' ⟨rfl, rfl⟩)
      | (go_at_call 59; refine (refHabit_any g.hab _).mono ?_; rintro e w' ⟨rfl, hB⟩
         have cB := fun i => (hB.cell (p := ⟨w.heap.size, i, none⟩) (by simp)).trans (cell_of_row _ w.heap.size i _ _ _ (alloc_at0 w _))
         have HB := Lib.hid hB
         clear hB))
  have HCB := Lib.hid cB
  have hBw := Lib.hid (((Below.refl _ _).alloc (Nat.le_refl w.heap.size) _).trans (HB.out.mono (by simp)))
  have hsz : w.heap.size < w'.heap.size := by have := HB.out.size; simp at this; omega
  go_loop [3] (fun i => ∃ k : Nat, k ≤ g.start.length ∧ i = .int .i64 k ∧ Hid (∀ j, j < k → inR (g.start[j]?.getD 0) 0 9 = true)) (fun i => g.start.length - (intOf i).toNat)
  case atStart => exact ⟨0, Nat.zero_le _, rfl, fun j hj => absurd hj (by omega)⟩
  case round =>
    obtain ⟨k, hk, rfl, hall⟩ := hrel
    by_cases hlt : k < g.start.length
    · obtain ⟨b, off, hA, hbB, hc⟩ := hG'.out.st (by omega)
      subst hA
      have hcell : w'.cell? ⟨b, off + k, none⟩ = _ := (hBw.out.cell (p := ⟨b, off + k, none⟩) (by simp; omega)).trans (hc k hlt)
      clear hc
      have hno := fun h => okStart_not (g := g) hlt h
      generalize hx : g.start[k]?.getD 0 = x at hcell hno
      have Hx := Lib.hid hx
      have Hno := Lib.hid hno
      clear hx hno
      rcases Bool.eq_false_or_eq_true (inR x 0 9) with hin | hin
      · go_wp2_with (go_at_call 54; refine (refWithin_any _ _ _ _).mono ?_; rintro e w' ⟨rfl, rfl⟩)
        go_round
        case rel => exact ⟨k + 1, by omega, by go_num, fun j hj => by
          rcases Nat.lt_or_ge j k with h | h
          · exact hall.out j h
          · obtain rfl : j = k := by omega
            rw [Hx.out]; exact hin⟩
        case measure => simp [intOf] <;> omega
      · go_wp2_with (go_at_call 54; refine (refWithin_any _ _ _ _).mono ?_; rintro e w' ⟨rfl, rfl⟩)
        go_ret
        exact ⟨by rw [Hno.out hin]; rfl, hBw.out⟩
    · obtain rfl : k = g.start.length := by omega
      have HS := Lib.hid (okStart_all hall.out)
      clear hall hlt hk
      go_wp2
      go_loopw [4, 5] (fun v i wr => ∃ (k : Nat) (A : Option Addr) (c : Nat), k ≤ g.seas.length ∧ i = .int .i64 k ∧ v = .slice A g.start.length c ∧ Hid (g.start.length ≤ c) ∧ Hid (Ints wr wr.heap.size A (runL g.start (g.seas.take k))) ∧
          Hid ((runL g.start (g.seas.take k)).length = g.start.length) ∧ Hid (Bnd 0 30 (runL g.start (g.seas.take k))) ∧
          Hid (seasOk r g.start g.seas = seasOk r (runL g.start (g.seas.take k)) (g.seas.drop k)) ∧ Hid (Below w'.heap.size w' wr))
        (fun _ i _ => g.seas.length - (intOf i).toNat)
      case atStart => exact ⟨0, A1, c1, Nat.zero_le _, rfl, rfl, hG'.out.cap1, (hG'.out.st.below (hBw.out.mono hB)).mono (by omega), rfl, fun j hj => by
          have h := okStart_at HS.out j (by simpa [runL] using hj)
          simp only [runL, List.take_zero, List.foldl_nil]
          omega, rfl, Below.refl _ _⟩
      case round =>
        obtain ⟨k, A, c, hk, rfl, rfl, hcap, hI, hL, hBd, hS, hBr⟩ := hrel
        have cBr := fun i => (hBr.out.cell (p := ⟨w.heap.size, i, none⟩) hsz).trans (HCB.out i)
        have hszr : w.heap.size < wr.heap.size := by have := hBr.out.size; omega
        by_cases hlt : k < g.seas.length
        · obtain ⟨b, off, hA, hbB, hc⟩ := hG'.out.se (by rw [pairs_len]; omega)
          subst hA
          have hbw : b < wr.heap.size := by omega
          have hpa := pairs_at g.seas k hlt
          have hc0 : wr.cell? ⟨b, off + k * 2, none⟩ = _ := (hBr.out.cell (p := ⟨b, off + k * 2, none⟩) (by simp; omega)).trans ((hBw.out.cell (p := ⟨b, off + k * 2, none⟩) (by simp; omega)).trans (hc _ _ hpa.1))
          have hc1 : wr.cell? ⟨b, off + k * 2 + 1, none⟩ = _ := (hBr.out.cell (p := ⟨b, off + k * 2 + 1, none⟩) (by simp; omega)).trans ((hBw.out.cell (p := ⟨b, off + k * 2 + 1, none⟩) (by simp; omega)).trans (hc _ _ hpa.2))
          have hstep := seasOk_step (r := r) (l := runL g.start (g.seas.take k)) hlt
          have hsucc := runL_succ g.start g.seas k hlt
          generalize (g.seas[k]?.getD (0, 0)).1 = s at hc0 hstep hsucc
          generalize (g.seas[k]?.getD (0, 0)).2 = n at hc1 hstep hsucc
          generalize hrl : runL g.start (g.seas.take k) = l at hI hL hBd hS hstep hsucc
          have Hst := Lib.hid hstep
          have Hsu := Lib.hid hsucc
          clear hstep hsucc hrl hc hpa
          have hfalse : (inR s 0 30 = false ∨ inR n 0 30 = false ∨ yearOk r l s n = false) → (okStart g && seasOk g.hab.ripe.toNat g.start g.seas) = false := by
            intro h
            rw [HS.out, Hr.out, Int.toNat_natCast, hS.out, Hst.out]
            rcases h with h | h | h <;> simp [h]
          have HF := Lib.hid hfalse
          have hba := Lib.hid (hBw.out.trans (hBr.out.mono (by omega)))
          clear hfalse
          rcases Bool.eq_false_or_eq_true (inR s 0 30) with hs | hs
          · rcases Bool.eq_false_or_eq_true (inR n 0 30) with hn | hn
            · have ks := inR_iff.1 hs
              have kn := inR_iff.1 hn
              have Hs := Lib.hid hs
              have Hn := Lib.hid hn
              have hIa := (hI.out.below ((Below.refl wr.heap.size wr).alloc (Nat.le_refl _) (.cells #[.int .i64 s, .int .i64 n] 76)))
              rcases Bool.eq_false_or_eq_true (yearOk r l s n) with hy | hy
              · have H := refYear_yes g.hab r Hr.out A c l wr.heap.size (wr.alloc (.cells #[.int .i64 s, .int .i64 n] 76)) (by simp) hIa (by have := Hls.out; rw [hL.out]; omega) (by have := Hls.out; rw [hL.out]; omega) 30 (by omega) hBd.out s n ks.1 ks.2 kn.1 kn.2 hy
                rw [hL.out] at H
                have HY := Lib.hid H
                have Hy := Lib.hid hy
                clear H hIa hy
                go_wp2_with (first
                  | (go_at_call 54; refine (refWithin_any _ _ _ _).mono ?_; rintro e w' ⟨rfl, rfl⟩)
                  | (go_at_call 34; refine HY.out.mono ?_; rintro e w3 ⟨p1, q1, p2, q2, rfl, hp1, hp2, hne, hq1, hq2, hI1, hI2, hf1, hf2, hB3⟩
                     rw [yearL_len, goneL_len, hL.out]
                     have HI1 := Lib.hid hI1
                     have HB3 := Lib.hid hB3
                     have HQ1 := Lib.hid hq1
                     clear hI1 hI2 hf1 hf2 hB3 hq1 hq2))
                go_roundw
                case rel => exact ⟨k + 1, some ⟨p1, 0, none⟩, q1, by omega, by go_num, rfl, by have h := HQ1.out; rw [yearL_len, hL.out] at h; exact h, by rw [Hsu.out]; exact HI1.out, by rw [Hsu.out]; exact (yearL_len _ _ _).trans hL.out,
                  by rw [Hsu.out]; exact yearL_bnd hBd.out (by have := Hls.out; rw [hL.out]; omega) ks.1 ks.2 kn.1 kn.2,
                  by rw [hS.out, Hst.out, Hs.out, Hn.out, Hy.out, Hsu.out]; rfl,
                  hBr.out.trans (((Below.refl _ _).alloc (Nat.le_refl _) _).trans (HB3.out.mono (by simp)) |>.mono hBr.out.size)⟩
                case measure => simp [intOf] <;> omega
              · have H := refYear_no g.hab r Hr.out A c l wr.heap.size (wr.alloc (.cells #[.int .i64 s, .int .i64 n] 76)) (by simp) hIa (by have := Hls.out; rw [hL.out]; omega) (by have := Hls.out; rw [hL.out]; omega) 30 (by omega) hBd.out s n ks.1 ks.2 hy
                rw [hL.out] at H
                have HY := Lib.hid H
                have Hy := Lib.hid hy
                clear H hIa hy
                go_wp2_with (first
                  | (go_at_call 54; refine (refWithin_any _ _ _ _).mono ?_; rintro e w' ⟨rfl, rfl⟩)
                  | (go_at_call 34; refine HY.out.mono ?_; rintro e w3 ⟨rfl, hB3⟩
                     have HB3 := Lib.hid hB3
                     clear hB3))
                go_ret
                exact ⟨by rw [HF.out (Or.inr (Or.inr Hy.out))]; rfl, hba.out.trans (((Below.refl _ _).alloc (Nat.le_refl _) _).trans (HB3.out.mono (by simp)) |>.mono (by omega))⟩
            · go_wp2_with (go_at_call 54; refine (refWithin_any _ _ _ _).mono ?_; rintro e w' ⟨rfl, rfl⟩)
              go_ret
              exact ⟨by rw [HF.out (Or.inr (Or.inl hn))]; rfl, hba.out.alloc (by omega) _⟩
          · go_wp2_with (go_at_call 54; refine (refWithin_any _ _ _ _).mono ?_; rintro e w' ⟨rfl, rfl⟩)
            go_ret
            exact ⟨by rw [HF.out (Or.inl hs)]; rfl, hba.out.alloc (by omega) _⟩
        · obtain rfl : k = g.seas.length := by omega
          have hfin : (okStart g && seasOk g.hab.ripe.toNat g.start g.seas) = true := by
            rw [HS.out, Hr.out, Int.toNat_natCast, hS.out]
            simp [seasOk]
          have HF := Lib.hid hfin
          have hba := Lib.hid (hBw.out.trans (hBr.out.mono (by omega)))
          clear hfin
          go_wp2
          go_ret
          exact ⟨by rw [HF.out]; rfl, hba.out⟩

end Go.Proofs.Ytkjdapgkojfbmaa
