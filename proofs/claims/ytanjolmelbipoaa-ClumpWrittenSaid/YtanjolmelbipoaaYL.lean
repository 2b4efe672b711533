/-
  The law ClumpStands; arguments opened.
-/
import Derived.Test.YtanjolmelbipoaaYK
import Derived.Test.YtanjolmelbipoaaYE
import Derived.ProofKit
import Derived.ReadAgain
import Derived.Deep.SlicePairs
namespace Go.Proofs.Ytanjolmelbipoaa
open Go.RowKit Go.Shelf

attribute [local go_sem] gives

/-- Where the law is: both groves lie as they lay. -/
structure LawAt (w : World) (g : Gr) (A1 : Option Addr) (c1 : Nat) (A2 : Option Addr) (c2 : Nat) (T : Nat) (X1 : Option Addr) (x1 : Nat) (X2 : Option Addr) (x2 : Nat) (W : World) : Prop where
  hG : W.heap[w.heap.size]? = some (.cells (gcs g A1 c1 A2 c2) 29 (0, 0))
  hT : W.heap[T]? = some (.cells (gcs g X1 x1 X2 x2) 29 (0, 0))
  gr : GrAt W w.heap.size g A1 c1 A2 c2
  tw : GrAt W T g X1 x1 X2 x2
  bel : Below w.heap.size w W
  lt : T < W.heap.size
  wt : w.heap.size < T
theorem LawAt.next {w : World} {g : Gr} {A1 : Option Addr} {c1 : Nat} {A2 : Option Addr} {c2 : Nat} {T : Nat} {X1 : Option Addr} {x1 : Nat} {X2 : Option Addr} {x2 : Nat} {W W' : World} (h : LawAt w g A1 c1 A2 c2 T X1 x1 X2 x2 W) (hb : Below W.heap.size W W') : LawAt w g A1 c1 A2 c2 T X1 x1 X2 x2 W' :=
  ⟨(hb.block _ (lt_of_heap h.hG)).trans h.hG, (hb.block _ h.lt).trans h.hT, h.gr.below (hb.mono (by have := h.lt; have := h.wt; omega)), h.tw.below (hb.mono (Nat.le_of_lt h.lt)), h.bel.trans (hb.mono (by have := h.lt; have := h.wt; omega)), Nat.lt_of_lt_of_le h.lt hb.size, h.wt⟩

theorem LawAt.low {w : World} {g : Gr} {A1 : Option Addr} {c1 : Nat} {A2 : Option Addr} {c2 : Nat} {T : Nat} {X1 : Option Addr} {x1 : Nat} {X2 : Option Addr} {x2 : Nat} {W W' : World} (h : LawAt w g A1 c1 A2 c2 T X1 x1 X2 x2 W) (hb : Below (T + 1) W W') : LawAt w g A1 c1 A2 c2 T X1 x1 X2 x2 W' :=
  ⟨(hb.block _ (by have := h.wt; omega)).trans h.hG, (hb.block _ (by omega)).trans h.hT, h.gr.below (hb.mono (by have := h.wt; omega)), h.tw.below (hb.mono (by omega)), h.bel.trans (hb.mono (by have := h.wt; omega)), Nat.lt_of_lt_of_le h.lt hb.size, h.wt⟩

/-- The cells of a slice that may be written. -/
def Mine (T : Nat) (P : Option Addr) (n : Nat) (W : World) : Prop :=
  0 < n → ∃ p0, P = some ⟨p0, 0, none⟩ ∧ T + 1 ≤ p0 ∧ (∀ k, W.frozen? ⟨p0, k, none⟩ = false) ∧ ∀ k, k < n → (W.cell? ⟨p0, k, none⟩).isSome = true

theorem standVal_len (g : Gr) (y : Int) : (standVal g y).length ≤ g.start.length := by
  unfold standVal
  split
  · rw [runL_len]; exact Nat.le_refl _
  · simp
theorem takenVal_len (g : Gr) (y : Int) : (takenVal g y).length ≤ g.start.length := by
  unfold takenVal
  split
  · exact takesTo_len _ _ _
  · simp

set_option maxRecDepth 100000 in
set_option maxHeartbeats 8000000 in
theorem clumpStands_law (g : Gr) (y : Int) (A1 : Option Addr) (c1 : Nat) (A2 : Option Addr) (c2 : Nat) (w : World) (hG : GrAt w w.heap.size g A1 c1 A2 c2) :
    Calls Try.prog 3 #[grv g A1 c1 A2 c2, .int .i64 y] w fun e w' => e = .returned (.bool true) ∧ Below w.heap.size w w' := by
  have HG := Lib.hid hG
  clear hG
  obtain ⟨w0, hw0⟩ : ∃ w0, w.alloc (.cells (gcs g A1 c1 A2 c2) 29) = w0 := ⟨_, rfl⟩
  have hs0 : w0.heap.size = w.heap.size + 1 := by rw [← hw0]; simp
  have hb0 : Below w.heap.size w w0 := by rw [← hw0]; exact (Below.refl _ _).alloc (Nat.le_refl _) _
  have hG0 : w0.heap[w.heap.size]? = some (.cells (gcs g A1 c1 A2 c2) 29 (0, 0)) := by rw [← hw0]; exact alloc_at0 w _
  have hc0 := fun i => cell_of_row w0 w.heap.size i _ _ _ hG0
  have HB0 := Lib.hid hb0
  have HG0 := Lib.hid hG0
  clear hb0 hG0
  rcases Bool.eq_false_or_eq_true (great g) with hgr | hgr
  · have Hgr := Lib.hid hgr
    clear hgr
    unfold grv
    go_enter Try.func3, Try.ntmps3
    go_wp2_with
      (go_at_call 12
       refine (refGreat_any g A1 c1 A2 c2 _).mono ?_
       rintro e w1 ⟨rfl, hB1⟩
       rw [Hgr.out]
       have B1 := Lib.hid hB1
       clear hB1)
    go_ret
    exact ⟨rfl, HB0.out.trans (B1.out.mono (by omega))⟩
  · have Hgr := Lib.hid hgr
    have hlen : g.start.length ≤ 20 ∧ g.seas.length ≤ 80 := by simp [great] at hgr; omega
    clear hgr
    unfold grv
    go_enter Try.func3, Try.ntmps3
    go_upto_region 8 with (first
      | (go_at_call 12
         refine (refGreat_any g A1 c1 A2 c2 _).mono ?_
         rintro e w1 ⟨rfl, hB1⟩
         rw [Hgr.out]
         have hs1 := hB1.size
         have hc1 : ∀ i, w1.cell? ⟨w.heap.size, i, none⟩ = _ := fun i => cell_of_row w1 w.heap.size i _ _ _ ((hB1.block _ (by omega)).trans HG0.out)
         have B1 := Lib.hid (And.intro (HB0.out.trans (hB1.mono (by omega))) ((hB1.block w.heap.size (by omega)).trans HG0.out))
         clear hB1)
      | (go_at_call 13
         refine (refTwin_any g A1 c1 A2 c2 w.heap.size _ (by omega) (HG.out.below B1.out.1) Hgr.out).mono ?_
         rintro e w2 ⟨g1, x1, g2, x2, rfl, hg1, hg2, -, ho1, ho2, hB2⟩
         unfold grv
         have hs2 := hB2.size
         have hL : LawAt w g A1 c1 A2 c2 w2.heap.size (some ⟨g1, 0, none⟩) x1 (some ⟨g2, 0, none⟩) x2 (w2.alloc (.cells (gcs g (some ⟨g1, 0, none⟩) x1 (some ⟨g2, 0, none⟩) x2) 29)) := by
           have hbb := (Below.refl w2.heap.size w2).alloc (Nat.le_refl _) (.cells (gcs g (some ⟨g1, 0, none⟩) x1 (some ⟨g2, 0, none⟩) x2) 29)
           have hbw := (B1.out.1.trans (hB2.mono (by omega))).trans (hbb.mono (by omega))
           exact ⟨(hbb.block _ (by omega)).trans ((hB2.block _ (by omega)).trans B1.out.2), alloc_at0 _ _, HG.out.below hbw,
             GrAt.below ⟨(Vals.own ho1).ints, Vals.own ho2, own_cap ho1, own_cap ho2, by omega, by omega⟩ hbb, hbw, by simp, by omega⟩
         have HL := Lib.hid hL
         have hcT := fun i => cell_of_row _ w2.heap.size i _ _ _ hL.hT
         have hcG := fun i => cell_of_row _ w.heap.size i _ _ _ hL.hG
         clear ho1 ho2 hB2 hL)
      | (go_at_call 14
         refine (stand_any g y (some ⟨g1, 0, none⟩) x1 (some ⟨g2, 0, none⟩) x2 w2.heap.size _ (by simp) HL.out.tw).mono ?_
         rintro e w4 ⟨P, p, rfl, hp1, hp2, hp3, hB4⟩
         have l4 := HL.out.next hB4
         have hs4 := hB4.size
         simp only [World.size_alloc] at hs4
         have hc4G := fun i => cell_of_row w4 w.heap.size i _ _ _ l4.hG
         have hc4T := fun i => cell_of_row w4 w2.heap.size i _ _ _ l4.hT
         have L4 := Lib.hid l4
         have S4 := Lib.hid (And.intro hp1 (And.intro hp2 hp3))
         clear hB4 l4 hp1 hp2 hp3)
      | (go_at_call 15
         refine (refStand_any g y A1 c1 A2 c2 w.heap.size w4 (by omega) L4.out.gr).mono ?_
         rintro e w5 ⟨Q, q, rfl, -, hq2, -, hB5⟩
         have l5 := L4.out.next hB5
         have hs5 := hB5.size
         have hc5G := fun i => cell_of_row w5 w.heap.size i _ _ _ l5.hG
         have hc5T := fun i => cell_of_row w5 w2.heap.size i _ _ _ l5.hT
         have L5 := Lib.hid l5
         have S5 := Lib.hid (And.intro hq2 hB5)
         clear hB5 l5 hq2)
      | (go_at_call 16
         refine (taken_any g y (some ⟨g1, 0, none⟩) x1 (some ⟨g2, 0, none⟩) x2 w2.heap.size w5 (by omega) L5.out.tw).mono ?_
         rintro e w6 ⟨U, u, rfl, hu2, hB6⟩
         have l6 := L5.out.next hB6
         have hs6 := hB6.size
         have hc6G := fun i => cell_of_row w6 w.heap.size i _ _ _ l6.hG
         have hc6T := fun i => cell_of_row w6 w2.heap.size i _ _ _ l6.hT
         have L6 := Lib.hid l6
         have S6 := Lib.hid (And.intro hu2 hB6)
         clear hB6 l6 hu2)
      | (go_at_call 17
         refine (refTaken_any g y A1 c1 A2 c2 w.heap.size w6 (by omega) L6.out.gr).mono ?_
         rintro e w7 ⟨V, v, rfl, hv2, hB7⟩
         have l7 := L6.out.next hB7
         have hs7 := hB7.size
         have L7 := Lib.hid l7
         have S7 := Lib.hid (And.intro hv2 hB7)
         clear hB7 l7 hv2))
    have hI7P := ((S4.out.2.1.below S5.out.2).mono S5.out.2.size |>.below S6.out.2).mono S6.out.2.size |>.below S7.out.2
    have hI7Q := (S5.out.1.below S6.out.2).mono S6.out.2.size |>.below S7.out.2
    have hI7U := S6.out.1.below S7.out.2
    have hI7V := S7.out.1
    have sl := standVal_len g y
    have tl := takenVal_len g y
    have I7 := Lib.hid (And.intro (hI7P.mono S7.out.2.size) (And.intro (hI7Q.mono S7.out.2.size) (And.intro (hI7U.mono S7.out.2.size) hI7V)))
    clear hI7P hI7Q hI7U hI7V hc0 hc1 hcT hcG hc4G hc4T hc5G hc5T hc6G hc6T
    refine wp_walk (C := fun W => LawAt w g A1 c1 A2 c2 w2.heap.size (some ⟨g1, 0, none⟩) x1 (some ⟨g2, 0, none⟩) x2 W ∧ Below w7.heap.size w7 W) (S := Grows) 84 (by kernel_rfl) (by kernel_rfl) rfl Grows.refl ⟨L7.out.next ((Below.refl _ _).drew), (Below.refl _ _).drew⟩ ?_
    simp only []
    repeat (first
      | (refine WalkR.un (fun _ => rfl) ?_
         simp only [Act.put, List.setIfInBounds_toArray, List.set_cons_succ, List.set_cons_zero])
      | (refine' WalkR.det (fun _ => rfl) rfl (fun ρ W hW hH => ?_) ?_
         rotate_left
         · clear hH
           have hcG := fun i => cell_of_row W w.heap.size i _ _ _ hW.1.hG
           have hcT := fun i => cell_of_row W w2.heap.size i _ _ _ hW.1.hT
           have hlt := hW.1.lt
           have hwt := hW.1.wt
           have HW := Lib.hid hW
           clear hW
           go_simp
           first
             | exact ⟨rfl, Grows.refl _, HW.out⟩
             | exact ⟨Grows.refl _, HW.out⟩
             | (go_at_call 18; refine (check_any g _ _ _ _ w2.heap.size W (by omega) HW.out.1.tw).mono ?_; rintro e W1 ⟨rfl, hB1⟩; exact ⟨_, rfl, rfl, hB1, HW.out.1.next hB1, HW.out.2.trans (hB1.mono HW.out.2.size)⟩)
             | (go_at_call 19; refine (refCheck_any g _ _ _ _ w.heap.size W (by omega) HW.out.1.gr).mono ?_; rintro e W1 ⟨rfl, hB1⟩; exact ⟨_, rfl, rfl, hB1, HW.out.1.next hB1, HW.out.2.trans (hB1.mono HW.out.2.size)⟩)
             | (go_at_call 20; refine (sameInts_any _ _ _ _ _ _ w7.heap.size W (I7.out.1.below HW.out.2) (I7.out.2.1.below HW.out.2) (by omega) (by omega)).mono ?_; rintro e W1 ⟨rfl, hB1⟩; exact ⟨_, rfl, rfl, hB1, HW.out.1.next hB1, HW.out.2.trans (hB1.mono HW.out.2.size)⟩)
             | (go_at_call 21; refine (sameTakes_any _ _ _ _ _ _ w7.heap.size W (I7.out.2.2.1.below HW.out.2) (I7.out.2.2.2.below HW.out.2) (by omega) (by omega)).mono ?_; rintro e W1 ⟨rfl, hB1⟩; exact ⟨_, rfl, rfl, hB1, HW.out.1.next hB1, HW.out.2.trans (hB1.mono HW.out.2.size)⟩)
         simp only [Act.put, List.setIfInBounds_toArray, List.set_cons_succ, List.set_cons_zero, decide_true]))
    refine WalkR.nil (fun ρ W hW hH => ?_)
    clear hH
    obtain ⟨hL8, hB8⟩ := hW
    have hf8 : Mine w2.heap.size P (standVal g y).length W := fun h0 => by
      obtain ⟨p0, hp, hge, hfz⟩ := S4.out.2.2 h0
      obtain ⟨b, off, hp', hlt, hcs⟩ := S4.out.2.1 h0
      obtain ⟨rfl, rfl⟩ : p0 = b ∧ 0 = off := by rw [hp] at hp'; simpa using hp'
      have hb48 : Below w4.heap.size w4 W := (S5.out.2.trans ((S6.out.2.mono hs5).trans ((S7.out.2.mono (by omega)).trans (hB8.mono (by omega)))))
      refine ⟨p0, hp, by simpa using hge, fun k => (hb48.frozen (p := ⟨p0, k, none⟩) hlt).trans (hfz k), fun k hk => ?_⟩
      rw [(hb48.cell (p := ⟨p0, k, none⟩) hlt)]
      have := hcs k hk
      rw [Nat.zero_add] at this
      rw [this]; rfl
    have HF8 := Lib.hid hf8
    have H8 := Lib.hid (And.intro hL8 hB8)
    have hw8 := hL8.lt
    clear hf8 hL8 hB8
    generalize (standVal g y).length = n at HF8 sl ⊢
    clear S4 S5 S6 S7 L4 L5 L6 L7 I7
    go_wp2
    go_loopw [71] (fun i wr => ∃ k : Nat, k ≤ n ∧ i = .int .i64 k ∧ Hid (LawAt w g A1 c1 A2 c2 w2.heap.size (some ⟨g1, 0, none⟩) x1 (some ⟨g2, 0, none⟩) x2 wr) ∧ Hid (Mine w2.heap.size P n wr)) (fun i _ => n - (intOf i).toNat)
    case atStart => exact ⟨0, Nat.zero_le _, rfl, H8.out.1, HF8.out⟩
    case round =>
      obtain ⟨k, hk, rfl, hLr, hMr⟩ := hrel
      by_cases hlt : k < n
      · obtain ⟨p0, hp, hge, hfz, hsm⟩ := hMr.out (by omega)
        obtain ⟨v0, hv0⟩ := Option.isSome_iff_exists.1 (hsm k hlt)
        have hfk := hfz k
        have hl2 := hLr.out.low ((Below.refl (w2.heap.size + 1) wr).setCell (p := ⟨p0, k, none⟩) hge (.int .i64 (-7)))
        have hm2 : Mine w2.heap.size P n (wr.setCell ⟨p0, k, none⟩ (.int .i64 (-7))) := fun _ => ⟨p0, hp, hge, fun j => by rw [World.frozen?_setCell]; exact hfz j, fun j hj => by
          have := World.isSome_setCells p0 [.int .i64 (-7)] k wr ⟨p0, j, none⟩ (hsm j hj)
          simpa [World.setCells] using this⟩
        subst hp
        have H2 := Lib.hid (And.intro hl2 hm2)
        clear hl2 hm2 hsm hfz
        go_wp2
        go_roundw
        case rel => exact ⟨k + 1, by omega, by go_num, H2.out.1, H2.out.2⟩
        case measure => simp [intOf] <;> omega
      · obtain rfl : k = n := by omega
        have hcG := fun i => cell_of_row wr w.heap.size i _ _ _ hLr.out.hG
        have hcT := fun i => cell_of_row wr w2.heap.size i _ _ _ hLr.out.hT
        have hltr := hLr.out.lt
        have hwtr := hLr.out.wt
        go_wp2_with
          (go_at_call 22
           refine (same_any g _ _ _ _ _ _ _ _ w2.heap.size _ (by omega) hLr.out.tw (hLr.out.gr.mono (by omega)) Hgr.out).mono ?_
           rintro e w9 ⟨rfl, hB9⟩
           have H9 := Lib.hid hB9
           clear hB9)
        go_ret
        exact ⟨rfl, hLr.out.bel.trans (H9.out.mono (by omega))⟩

end Go.Proofs.Ytanjolmelbipoaa

namespace Go.Proofs.Ytanjolmelbipoaa
open Go.ChangeShapes Go.WideShapes Go.ChangeAt Go.RowKit Go.Deep

section
variable {H : Type} {enc : TypeId × Value → H} {w : World} {base : Nat} {spare : Nat → Bool} {held : Bool}

theorem open_int_raw {fuel : Nat} {c : Value} {x : DataW H × List MemPlace} (h : DataW.trod enc Try.prog w base spare held fuel 3 [c] = some x) : ∃ n : Int, c = .int .i64 n := by
  obtain ⟨n, hc, _, _⟩ := DataW.trod_int Try.underlying3 h
  simp only [List.cons.injEq, and_true] at hc
  exact ⟨n, hc⟩

theorem lt_of_cell {w : World} {a : Addr} {v : Value} (h : w.cell? a = some v) : a.block < w.heap.size := by
  obtain ⟨o, ho, _⟩ := cells_of_cell h
  exact (Array.getElem?_eq_some_iff.1 ho).1

theorem open_ints_raw {fuel : Nat} {c : Value} {x : DataW H × List MemPlace} (h : DataW.trod enc Try.prog w base spare held fuel 26 [c] = some x) :
    ∃ (A : Option Addr) (zs : List Int) (cap : Nat), c = .slice A zs.length cap ∧ zs.length ≤ cap ∧ zs.length ≤ maxLen ∧ Ints w w.heap.size A zs := by
  rcases open_ints Try.underlying26 Try.underlying3 (by kernel_rfl) h with ⟨hc, _⟩ | ⟨a, len, cap, zs, hc, _, hl, hm, hz, _, hcell, _⟩
  · simp only [List.cons.injEq, and_true] at hc
    exact ⟨none, [], 0, hc, Nat.le_refl _, by simp, fun h => by simp at h⟩
  · simp only [List.cons.injEq, and_true] at hc
    have hle : len ≤ zs.length := by rw [hz]; split <;> omega
    have hl2 : (zs.take len).length = len := by simp; omega
    refine ⟨some a, zs.take len, cap, by rw [hl2]; exact hc, by rw [hl2]; exact hl, by rw [hl2]; omega, fun h0 => ?_⟩
    rw [hl2] at h0 ⊢
    have h1 := hcell 0 (by omega)
    obtain ⟨b, off, spot⟩ := a
    have hs1 : spot = none := by
      have e0 : (⟨b, off, spot⟩ : Addr).add 0 = ⟨b, off, spot⟩ := by simp [Addr.add]
      rw [e0] at h1
      exact World.cell?_spot h1
    subst hs1
    rw [Addr.add_mid] at h1
    refine ⟨b, off, rfl, lt_of_cell h1, fun k hk => ?_⟩
    have h2 := hcell k (by omega)
    rw [Addr.add_mid] at h2
    rw [h2]
    simp [hk, List.getD]

theorem open_pairs_raw {fuel : Nat} {c : Value} {x : DataW H × List MemPlace} (h : DataW.trod enc Try.prog w base spare held fuel 27 [c] = some x) :
    ∃ (A : Option Addr) (ss : List (Int × Int)) (cap : Nat), c = .slice A ss.length cap ∧ ss.length ≤ cap ∧ ss.length ≤ maxLen ∧ Vals w w.heap.size A (pairs ss) := by
  rcases open_slice_pairs Try.underlying27 Try.underlying76 (by kernel_rfl) rfl rfl (by kernel_rfl) (by kernel_rfl) h with ⟨hc, _⟩ | ⟨a, len, cap, m, n, V0, V1, D0, D1, P0, P1, hc, _, hl, hm, hmm, _, hi⟩
  · simp only [List.cons.injEq, and_true] at hc
    exact ⟨none, [], 0, hc, Nat.le_refl _, by simp, fun h => by simp [pairs] at h⟩
  · simp only [List.cons.injEq, and_true] at hc
    have hle : len ≤ m := by rw [hmm]; split <;> omega
    have hv : ∀ i, i < len → ∃ p : Int × Int, w.cell? (a.add (i * 2)) = some (.int .i64 p.1) ∧ w.cell? (a.add (i * 2 + 1)) = some (.int .i64 p.2) := fun i h => by
      obtain ⟨h1, h2, h3, h4⟩ := hi i (by omega)
      obtain ⟨x, hx⟩ := open_int_raw h3
      obtain ⟨y, hy⟩ := open_int_raw h4
      exact ⟨(x, y), by rw [h1, hx], by rw [h2, hy]⟩
    obtain ⟨f, hf⟩ : ∃ f : Nat → Int × Int, ∀ i, i < len → w.cell? (a.add (i * 2)) = some (.int .i64 (f i).1) ∧ w.cell? (a.add (i * 2 + 1)) = some (.int .i64 (f i).2) :=
      ⟨fun i => if h : i < len then (hv i h).choose else (0, 0), fun i h => by simp only [h, dif_pos]; exact (hv i h).choose_spec⟩
    have hl2 : ((List.range len).map f).length = len := by simp
    refine ⟨some a, (List.range len).map f, cap, by rw [hl2]; exact hc, by rw [hl2]; exact hl, by rw [hl2]; omega, fun h0 => ?_⟩
    rw [pairs_len, hl2] at h0
    have h1 := (hf 0 (by omega)).1
    obtain ⟨b, off, spot⟩ := a
    have hs1 : spot = none := by
      have e0 : (⟨b, off, spot⟩ : Addr).add (0 * 2) = ⟨b, off, spot⟩ := by simp [Addr.add]
      rw [e0] at h1
      exact World.cell?_spot h1
    subst hs1
    rw [Addr.add_mid] at h1
    refine ⟨b, off, rfl, lt_of_cell h1, fun j u hj => ?_⟩
    have hjl : j < (pairs ((List.range len).map f)).length := (List.getElem?_eq_some_iff.1 hj).1
    rw [pairs_len, hl2] at hjl
    have hk : j / 2 < len := by omega
    have hp := pairs_at ((List.range len).map f) (j / 2) (by rw [hl2]; exact hk)
    have hq := hf (j / 2) hk
    rw [Addr.add_mid, Addr.add_mid] at hq
    have hg : ((List.range len).map f)[j / 2]?.getD (0, 0) = f (j / 2) := by simp [hk]
    rw [hg] at hp
    rcases Nat.mod_two_eq_zero_or_one j with hm2 | hm2
    · rw [show j = j / 2 * 2 by omega] at hj ⊢
      rw [hp.1] at hj
      rw [← hj]; exact hq.1
    · rw [show j = j / 2 * 2 + 1 by omega] at hj ⊢
      rw [hp.2] at hj
      rw [← hj]; exact hq.2
end

end Go.Proofs.Ytanjolmelbipoaa

namespace Go.Proofs.Ytanjolmelbipoaa
open Go.ChangeShapes Go.WideShapes Go.ChangeAt Go.RowKit Go.Deep

section
variable {H : Type} {enc : TypeId × Value → H} {w : World} {base : Nat} {spare : Nat → Bool} {held : Bool}

theorem cellsI : Try.prog.cellsOf 3 = 1 := by kernel_rfl
theorem cellsH : Try.prog.cellsOf 25 = 6 := by kernel_rfl
theorem cellsSp : Try.prog.cellsOf 23 = 2 := by kernel_rfl
theorem cellsSl : Try.prog.cellsOf 26 = 1 := by kernel_rfl
theorem cellsSe : Try.prog.cellsOf 27 = 1 := by kernel_rfl
theorem cellsG : Try.prog.cellsOf 29 = 10 := by kernel_rfl

theorem open_habit {fuel : Nat} {cs : List Value} {x : DataW H × List MemPlace} (hl : cs.length = 6) (h : DataW.trod enc Try.prog w base spare held fuel 25 cs = some x) :
    ∃ hb : Hab, cs = hcells hb := by
  match cs, hl with
  | [c0, c1, c2, c3, c4, c5], _ =>
    obtain ⟨xs, n, _, _, _, hlen, hg⟩ := DataW.trod_struct Try.underlying25 h
    have at_ : ∀ i, i < xs.length → ∃ y, xs[i]? = some y := fun i hi => ⟨_, List.getElem?_eq_getElem hi⟩
    have hlen5 : xs.length = 5 := hlen
    obtain ⟨y0, hy0⟩ := at_ 0 (by omega)
    obtain ⟨y1, hy1⟩ := at_ 1 (by omega)
    obtain ⟨y2, hy2⟩ := at_ 2 (by omega)
    obtain ⟨y3, hy3⟩ := at_ 3 (by omega)
    obtain ⟨y4, hy4⟩ := at_ 4 (by omega)
    have g0 : DataW.trod enc Try.prog w base spare held n 23 ((List.drop 0 [c0, c1, c2, c3, c4, c5]).take (Try.prog.cellsOf 23)) = some y0 := (hg 0 _ rfl).trans hy0
    have g1 : DataW.trod enc Try.prog w base spare held n 3 ((List.drop 2 [c0, c1, c2, c3, c4, c5]).take (Try.prog.cellsOf 3)) = some y1 := (hg 1 _ rfl).trans hy1
    have g2 : DataW.trod enc Try.prog w base spare held n 3 ((List.drop 3 [c0, c1, c2, c3, c4, c5]).take (Try.prog.cellsOf 3)) = some y2 := (hg 2 _ rfl).trans hy2
    have g3 : DataW.trod enc Try.prog w base spare held n 3 ((List.drop 4 [c0, c1, c2, c3, c4, c5]).take (Try.prog.cellsOf 3)) = some y3 := (hg 3 _ rfl).trans hy3
    have g4 : DataW.trod enc Try.prog w base spare held n 3 ((List.drop 5 [c0, c1, c2, c3, c4, c5]).take (Try.prog.cellsOf 3)) = some y4 := (hg 4 _ rfl).trans hy4
    simp only [cellsI, cellsSp, List.drop_zero, List.drop_succ_cons, List.take_succ_cons, List.take_zero] at g0 g1 g2 g3 g4
    obtain ⟨be, rfl⟩ := open_int_raw g1
    obtain ⟨ri, rfl⟩ := open_int_raw g2
    obtain ⟨di, rfl⟩ := open_int_raw g3
    obtain ⟨ke, rfl⟩ := open_int_raw g4
    obtain ⟨zs, n', _, _, _, hlen', hg'⟩ := DataW.trod_struct Try.underlying23 g0
    have at2 : ∀ i, i < zs.length → ∃ y, zs[i]? = some y := fun i hi => ⟨_, List.getElem?_eq_getElem hi⟩
    have hlen2 : zs.length = 2 := hlen'
    obtain ⟨z0, hz0⟩ := at2 0 (by omega)
    obtain ⟨z1, hz1⟩ := at2 1 (by omega)
    have k0 : DataW.trod enc Try.prog w base spare held n' 3 ((List.drop 0 [c0, c1]).take (Try.prog.cellsOf 3)) = some z0 := (hg' 0 _ rfl).trans hz0
    have k1 : DataW.trod enc Try.prog w base spare held n' 3 ((List.drop 1 [c0, c1]).take (Try.prog.cellsOf 3)) = some z1 := (hg' 1 _ rfl).trans hz1
    simp only [cellsI, List.drop_zero, List.drop_succ_cons, List.take_succ_cons, List.take_zero] at k0 k1
    obtain ⟨lo, rfl⟩ := open_int_raw k0
    obtain ⟨hi, rfl⟩ := open_int_raw k1
    exact ⟨⟨lo, hi, be, ri, di, ke⟩, rfl⟩

set_option maxRecDepth 100000 in
theorem open_grove {r : Reach} {b0 : Nat} {v : Value} {d : DataW H} {p : List MemPlace} (hv : Value.okWide Try.prog w r b0 29 v) (h : DataW.Trod enc Try.prog w base spare held 29 v d p) :
    ∃ (g : Gr) (A1 : Option Addr) (c1 : Nat) (A2 : Option Addr) (c2 : Nat), v = grv g A1 c1 A2 c2 ∧ GrAt w w.heap.size g A1 c1 A2 c2 := by
  obtain ⟨cs, rfl, hsz⟩ := okWide_struct Try.underlying29 hv
  obtain ⟨l⟩ := cs
  match l, hsz.trans cellsG with
  | [c0, c1, c2, c3, c4, c5, c6, c7, c8, c9], _ =>
    obtain ⟨fuel, hf⟩ := h
    obtain ⟨xs, n, _, _, _, hlen, hg⟩ := DataW.trod_struct Try.underlying29 hf
    have at_ : ∀ i, i < xs.length → ∃ y, xs[i]? = some y := fun i hi => ⟨_, List.getElem?_eq_getElem hi⟩
    have hlen5 : xs.length = 5 := hlen
    obtain ⟨y0, hy0⟩ := at_ 0 (by omega)
    obtain ⟨y1, hy1⟩ := at_ 1 (by omega)
    obtain ⟨y2, hy2⟩ := at_ 2 (by omega)
    obtain ⟨y3, hy3⟩ := at_ 3 (by omega)
    obtain ⟨y4, hy4⟩ := at_ 4 (by omega)
    have g0 : DataW.trod enc Try.prog w base spare held n 3 ((List.drop 0 [c0, c1, c2, c3, c4, c5, c6, c7, c8, c9]).take (Try.prog.cellsOf 3)) = some y0 := (hg 0 _ rfl).trans hy0
    have g1 : DataW.trod enc Try.prog w base spare held n 25 ((List.drop 1 [c0, c1, c2, c3, c4, c5, c6, c7, c8, c9]).take (Try.prog.cellsOf 25)) = some y1 := (hg 1 _ rfl).trans hy1
    have g2 : DataW.trod enc Try.prog w base spare held n 3 ((List.drop 7 [c0, c1, c2, c3, c4, c5, c6, c7, c8, c9]).take (Try.prog.cellsOf 3)) = some y2 := (hg 2 _ rfl).trans hy2
    have g3 : DataW.trod enc Try.prog w base spare held n 26 ((List.drop 8 [c0, c1, c2, c3, c4, c5, c6, c7, c8, c9]).take (Try.prog.cellsOf 26)) = some y3 := (hg 3 _ rfl).trans hy3
    have g4 : DataW.trod enc Try.prog w base spare held n 27 ((List.drop 9 [c0, c1, c2, c3, c4, c5, c6, c7, c8, c9]).take (Try.prog.cellsOf 27)) = some y4 := (hg 4 _ rfl).trans hy4
    simp only [cellsI, cellsH, cellsSl, cellsSe, List.drop_zero, List.drop_succ_cons, List.take_succ_cons, List.take_zero] at g0 g1 g2 g3 g4
    obtain ⟨id, rfl⟩ := open_int_raw g0
    obtain ⟨fi, rfl⟩ := open_int_raw g2
    obtain ⟨hb, hhb⟩ := open_habit rfl g1
    obtain ⟨A1, zs, k1, rfl, hk1, hm1, hI⟩ := open_ints_raw g3
    obtain ⟨A2, ss, k2, rfl, hk2, hm2, hV⟩ := open_pairs_raw g4
    simp only [hcells, List.cons.injEq, and_true] at hhb
    obtain ⟨rfl, rfl, rfl, rfl, rfl, rfl⟩ := hhb
    exact ⟨⟨id, hb, fi, zs, ss⟩, A1, k1, A2, k2, rfl, hI, hV, hk1, hk2, by simp only [maxLen] at hm1; omega, by simp only [maxLen] at hm2; omega⟩
end

end Go.Proofs.Ytanjolmelbipoaa

