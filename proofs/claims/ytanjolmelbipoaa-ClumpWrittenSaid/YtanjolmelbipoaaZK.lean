/-
  The law ClumpMosts; its arguments opened.
-/
import Derived.Test.YtanjolmelbipoaaZJ
import Derived.Test.YtanjolmelbipoaaZI
import Derived.Test.YtanjolmelbipoaaZF
namespace Go.Proofs.Ytanjolmelbipoaa
open Go.RowKit

attribute [local go_sem] gives

set_option maxRecDepth 100000 in
set_option maxHeartbeats 4000000 in
theorem refMost_any (g : Gr) (A1 : Option Addr) (c1 : Nat) (A2 : Option Addr) (c2 : Nat) (P1 : Option Addr) (k1 : Nat) (ps : List (Int × Int)) (B : Nat) (w : World) (hB : B ≤ w.heap.size) (hG : GrAt w B g A1 c1 A2 c2)
    (hV1 : Vals w B P1 (pairs ps)) (l1 : ps.length ≤ 9223372036854775807) (lk : ps.length ≤ k1) :
    Calls Try.prog 27 #[grv g A1 c1 A2 c2, .slice P1 ps.length k1] w (MostPost w (mostR g ps)) := by
  have HG := Lib.hid hG
  have HV := Lib.hid hV1
  obtain ⟨w0, hw0⟩ : ∃ w0, w.alloc (.cells (gcs g A1 c1 A2 c2) 29) = w0 := ⟨_, rfl⟩
  have hb0 : Below w.heap.size w w0 := by rw [← hw0]; exact (Below.refl _ _).alloc (Nat.le_refl _) _
  have hs0 : w0.heap.size = w.heap.size + 1 := by rw [← hw0]; simp
  have hm0 : w0.heap[w.heap.size]? = some (.cells (gcs g A1 c1 A2 c2) 29 (0, 0)) := by rw [← hw0]; exact alloc_at0 w _
  have hc0 := fun i => cell_of_row w0 w.heap.size i _ _ _ hm0
  have B0 := Lib.hid (And.intro hb0 (And.intro hm0 hw0))
  have HS0 := Lib.hid hs0
  clear hG hV1 hb0 hm0 hs0
  have stop : ∀ er W, Below w.heap.size w W → MostPost w ([], 0, er) (.returned (.tuple #[.slice none 0 0, .int .i64 0, .int .i64 er])) W := fun er W h => MostPost.nil h
  have STOP := Lib.hid stop
  clear stop
  rcases Bool.eq_false_or_eq_true (okGrove g) with hok | hok
  case inr =>
    have e1 : mostR g ps = ([], 0, 10) := by simp [mostR, hok]
    rw [e1]
    have HR := Lib.hid hok
    clear e1 hok
    unfold grv
    simp only [gcs] at hw0
    go_enter Try.func27, Try.ntmps27
    go_wp2_with
      (go_at_call 39; refine (refGrove_any g A1 c1 A2 c2 B w0 (by have := HS0.out; omega) (HG.out.below (B0.out.1.mono hB))).mono ?_; rintro e w1 ⟨rfl, hB1⟩; rw [HR.out]; have H1 := Lib.hid hB1; clear hB1)
    go_ret3
    exact STOP.out 10 _ (B0.out.1.trans (H1.out.mono (by have := HS0.out; omega)))
  case inl =>
    rcases Bool.eq_false_or_eq_true (rainsOk ps) with hr | hr
    case inr =>
      have e1 : mostR g ps = ([], 0, 11) := by simp [mostR, hok, hr]
      rw [e1]
      have HR := Lib.hid (And.intro hok hr)
      clear e1 hok hr
      unfold grv
      simp only [gcs] at hw0
      go_enter Try.func27, Try.ntmps27
      go_wp2_with (first
        | (go_at_call 39; refine (refGrove_any g A1 c1 A2 c2 B w0 (by have := HS0.out; omega) (HG.out.below (B0.out.1.mono hB))).mono ?_; rintro e w1 ⟨rfl, hB1⟩; rw [HR.out.1]; have H1 := Lib.hid (B0.out.1.trans (hB1.mono (by have := HS0.out; omega))); clear hB1)
        | (go_at_call 49; refine (refRains_any P1 k1 ps B w1 (Nat.le_trans hB H1.out.size) (HV.out.below (H1.out.mono hB)) l1).mono ?_; rintro e w2 ⟨rfl, hB2⟩; rw [HR.out.2]; have H2 := Lib.hid (H1.out.trans (hB2.mono H1.out.size)); clear hB2))
      go_ret3
      exact STOP.out 11 _ H2.out
    case inl =>
      obtain ⟨d, r, R⟩ := okGrove_runs hok
      have hab := habOk_of hok R
      have h4 := (rainsOk_len hr).2
      have e2 : mostR g ps = mostOut (bestL g.hab r g.hab.bears.toNat ps (lastL g)) := by
        have : g.hab.ripe.toNat = r := by rw [R.pre.hr, Int.toNat_natCast]
        simp [mostR, hok, hr, this]
      have hrn : ∀ p ∈ ps, 0 ≤ p.1 ∧ p.1 ≤ p.2 ∧ p.2 ≤ 1500 := fun p hp => by
        obtain ⟨k, hk, rfl⟩ := List.mem_iff_getElem.1 hp
        have := rainsOk_at hr hk
        simpa [hk] using this
      have hpow : (30 : Int) * 11 ^ ps.length ≤ 439230 := by
        match ps.length, h4 with
        | 0, _ => decide
        | 1, _ => decide
        | 2, _ => decide
        | 3, _ => decide
        | 4, _ => decide
      have hlast := fun W hBW hGW => refLast_any g A1 c1 A2 c2 B W hBW hGW hok
      have hbest := fun (A : Option Addr) (cap : Nat) (W : World) hcap hI hV => refBest_any hab ps P1 k1 A cap (lastL g) 30 W h4 lk hrn hpow (Int.le_refl _) (lastL_len R) hcap (lastL_bnd R) hI hV
      rw [e2]
      generalize bestL g.hab r g.hab.bears.toNat ps (lastL g) = o at hbest ⊢
      have HR := Lib.hid (And.intro hok hr)
      have HL := Lib.hid hlast
      have HBE := Lib.hid hbest
      clear e2 hok hr R hab hlast hbest hrn
      unfold LastPost at HL
      generalize lastL g = L at HL HBE
      unfold grv at HL ⊢
      have hw0' := hw0
      simp only [gcs] at hw0'
      go_enter Try.func27, Try.ntmps27
      go_wp2_with (first
        | (go_at_call 39; refine (refGrove_any g A1 c1 A2 c2 B w0 (by have := HS0.out; omega) (HG.out.below (B0.out.1.mono hB))).mono ?_; rintro e w1 ⟨rfl, hB1⟩; rw [HR.out.1]
           have hw1 : w.heap.size < w1.heap.size := by have := HS0.out; have := hB1.size; omega
           have H1 := Lib.hid (And.intro (B0.out.1.trans (hB1.mono (by have := HS0.out; omega))) ((hB1.block _ (by have := HS0.out; omega)).trans B0.out.2.1)); clear hB1)
        | (go_at_call 49; refine (refRains_any P1 k1 ps B w1 (Nat.le_trans hB H1.out.1.size) (HV.out.below (H1.out.1.mono hB)) l1).mono ?_; rintro e w2 ⟨rfl, hB2⟩; rw [HR.out.2]
           have H2 := Lib.hid (And.intro (H1.out.1.trans (hB2.mono H1.out.1.size)) ((hB2.block _ hw1).trans H1.out.2))
           clear hB2 hc0))
      clear hw0 hw0'
      refine R2.wp_walk (C := Below w2.heap.size w2) (S := fun _ => Grows) 30 (by kernel_rfl) (by kernel_rfl) rfl (fun _ => Grows.refl) (Below.refl _ _).drew ?_
      simp only []
      refine' R2.WalkR.det (fun _ => rfl) rfl (fun ρ W hW hH hU => ?_) ?_
      rotate_left
      · clear hH hU
        have hc := fun i => cell_of_row W w.heap.size i _ _ _ ((hW.block _ (lt_of_heap H2.out.2)).trans H2.out.2)
        have HW := Lib.hid hW
        clear hW
        go_simp
        exact ⟨rfl, Grows.refl _, HW.out⟩
      simp only [Act.put, List.setIfInBounds_toArray, List.set_cons_succ, List.set_cons_zero]
      refine' R2.WalkR.det (fun _ => rfl) rfl (fun ρ W hW hH hU => ?_) ?_
      rotate_left
      · clear hH hU
        have hc := fun i => cell_of_row W w.heap.size i _ _ _ ((hW.block _ (lt_of_heap H2.out.2)).trans H2.out.2)
        have HW := Lib.hid hW
        clear hW
        go_simp
        exact ⟨rfl, Grows.refl _, HW.out⟩
      simp only [Act.put, List.setIfInBounds_toArray, List.set_cons_succ, List.set_cons_zero]
      refine' R2.WalkR.det (fun _ => rfl) rfl (fun ρ W hW hH hU => ?_) ?_
      rotate_left
      · clear hH hU
        have hc := fun i => cell_of_row W w.heap.size i _ _ _ ((hW.block _ (lt_of_heap H2.out.2)).trans H2.out.2)
        have HW := Lib.hid hW
        clear hW
        go_simp
        exact ⟨rfl, Grows.refl _, HW.out⟩
      simp only [Act.put, List.setIfInBounds_toArray, List.set_cons_succ, List.set_cons_zero]
      refine' R2.WalkR.nd (RsF L) (fun _ => rfl) rfl rfl (fun o' v W W' _ _ hv hs _ => hv.keep hs) (fun ρ W hW hH hU => ?_) ?_
      · clear hH hU
        have HW := Lib.hid hW
        have hbw := H2.out.1.trans (hW.mono H2.out.1.size)
        have HB := Lib.hid hbw
        clear hW hbw
        go_simp
        go_at_call 50
        refine (HL.out W (Nat.le_trans hB HB.out.size) (HG.out.below (HB.out.mono hB))).mono ?_
        rintro e W1 ⟨g1, q1, rfl, _, hq, hI, hB1⟩
        exact ⟨_, rfl, ⟨_, q1, rfl, hq, hI⟩, hB1, HW.out.trans (hB1.mono HW.out.size)⟩
      simp only [Act.put, List.setIfInBounds_toArray, List.set_cons_succ, List.set_cons_zero]
      refine' R2.WalkR.det (fun _ => rfl) rfl (fun ρ W hW hH hU => ?_) ?_
      rotate_left
      · clear hH hU
        have hc := fun i => cell_of_row W w.heap.size i _ _ _ ((hW.block _ (lt_of_heap H2.out.2)).trans H2.out.2)
        have HW := Lib.hid hW
        clear hW
        go_simp
        exact ⟨rfl, Grows.refl _, HW.out⟩
      simp only [Act.put, List.setIfInBounds_toArray, List.set_cons_succ, List.set_cons_zero]
      refine' R2.WalkR.nd (BsF o) (fun _ => rfl) rfl rfl (fun o' v W W' _ _ hv hs _ => hv.keep hs) (fun ρ W hW hH hU => ?_) ?_
      · obtain ⟨X, x, hv, hx, hi⟩ := hH _ (.head _) (by first | decide +kernel | (dsimp only; decide +kernel))
        have hv' : ρ 20 = .slice X L.length x := hv
        clear hH hU hv
        have hbw := H2.out.1.trans (hW.mono H2.out.1.size)
        have HW := Lib.hid (And.intro hx (And.intro hi (And.intro hbw hW)))
        clear hi hW hx hbw
        go_simp
        go_at_call 52
        refine (HBE.out X x W HW.out.1 HW.out.2.1 ((HV.out.below (HW.out.2.2.1.mono hB)).mono (Nat.le_trans hB HW.out.2.2.1.size))).mono ?_
        rintro e W1 ⟨v, rfl, hv, hB1⟩
        exact ⟨v, rfl, hv, hB1, HW.out.2.2.2.trans (hB1.mono HW.out.2.2.2.size)⟩
      simp only [Act.put, List.setIfInBounds_toArray, List.set_cons_succ, List.set_cons_zero]
      refine' R2.WalkR.nd (BsF o) (fun _ => rfl) rfl rfl (fun o' v W W' _ _ hv hs _ => hv.keep hs) (fun ρ W hW hH hU => ?_) ?_
      · have hv := hH _ (.head _) (by first | decide +kernel | (dsimp only; decide +kernel))
        clear hH hU
        have HW := Lib.hid (And.intro hv hW)
        clear hW hv
        go_simp
        exact ⟨HW.out.1, Grows.refl _, HW.out.2⟩
      simp only [Act.put, List.setIfInBounds_toArray, List.set_cons_succ, List.set_cons_zero]
      refine' R2.WalkR.nd (RsF (plO o)) (fun _ => rfl) rfl rfl (fun o' v W W' _ _ hv hs _ => hv.keep hs) (fun ρ W hW hH hU => ?_) ?_
      · obtain ⟨X, x, hv, hx, hi⟩ := hH _ (.head _) (by first | decide +kernel | (dsimp only; decide +kernel))
        have hv' : ρ 16 = .tuple #[.slice X (plO o).length x, .int .i64 (totO o), .bool o.isSome] := hv
        clear hH hU hv
        have HW := Lib.hid (And.intro hx (And.intro hi hW))
        clear hi hW hx
        go_simp
        exact ⟨⟨X, x, rfl, HW.out.1, HW.out.2.1⟩, Grows.refl _, HW.out.2.2⟩
      simp only [Act.put, List.setIfInBounds_toArray, List.set_cons_succ, List.set_cons_zero]
      refine' R2.WalkR.det (fun _ => rfl) rfl (fun ρ W hW hH hU => ?_) ?_
      rotate_left
      · obtain ⟨X, x, hv, -⟩ := hH _ (.tail _ (.head _)) (by first | decide +kernel | (dsimp only; decide +kernel))
        have hv' : ρ 16 = .tuple #[.slice X (plO o).length x, .int .i64 (totO o), .bool o.isSome] := hv
        clear hH hU hv
        have HW := Lib.hid hW
        clear hW
        go_simp
        exact ⟨rfl, Grows.refl _, HW.out⟩
      simp only [Act.put, List.setIfInBounds_toArray, List.set_cons_succ, List.set_cons_zero]
      refine' R2.WalkR.det (fun _ => rfl) rfl (fun ρ W hW hH hU => ?_) ?_
      rotate_left
      · obtain ⟨X, x, hv, -⟩ := hH _ (.tail _ (.head _)) (by first | decide +kernel | (dsimp only; decide +kernel))
        have hv' : ρ 16 = .tuple #[.slice X (plO o).length x, .int .i64 (totO o), .bool o.isSome] := hv
        clear hH hU hv
        have HW := Lib.hid hW
        clear hW
        go_simp
        exact ⟨rfl, Grows.refl _, HW.out⟩
      simp only [Act.put, List.setIfInBounds_toArray, List.set_cons_succ, List.set_cons_zero]
      refine' R2.WalkR.nd (RsF (plO o)) (fun _ => rfl) rfl rfl (fun o' v W W' _ _ hv hs _ => hv.keep hs) (fun ρ W hW hH hU => ?_) ?_
      · have hv := hH _ (.head _) (by first | decide +kernel | (dsimp only; decide +kernel))
        clear hH hU
        have HW := Lib.hid (And.intro hv hW)
        clear hW hv
        go_simp
        exact ⟨HW.out.1, Grows.refl _, HW.out.2⟩
      simp only [Act.put, List.setIfInBounds_toArray, List.set_cons_succ, List.set_cons_zero]
      refine' R2.WalkR.det (fun _ => rfl) rfl (fun ρ W hW hH hU => ?_) ?_
      rotate_left
      · clear hH hU
        have hc := fun i => cell_of_row W w.heap.size i _ _ _ ((hW.block _ (lt_of_heap H2.out.2)).trans H2.out.2)
        have HW := Lib.hid hW
        clear hW
        go_simp
        exact ⟨rfl, Grows.refl _, HW.out⟩
      simp only [Act.put, List.setIfInBounds_toArray, List.set_cons_succ, List.set_cons_zero]
      refine' R2.WalkR.det (fun _ => rfl) rfl (fun ρ W hW hH hU => ?_) ?_
      rotate_left
      · clear hH hU
        have hc := fun i => cell_of_row W w.heap.size i _ _ _ ((hW.block _ (lt_of_heap H2.out.2)).trans H2.out.2)
        have HW := Lib.hid hW
        clear hW
        go_simp
        exact ⟨rfl, Grows.refl _, HW.out⟩
      simp only [Act.put, List.setIfInBounds_toArray, List.set_cons_succ, List.set_cons_zero]
      refine R2.WalkR.nil (fun ρ w4 hW hH hF => ?_)
      obtain ⟨X, x, hv, hx, hX⟩ := hH _ (.head _)
      have hv' : ρ 7 = .slice X (plO o).length x := hv
      rw [hv']
      have H4 := Lib.hid (And.intro (H2.out.1.trans (hW.mono H2.out.1.size)) (And.intro hx hX))
      clear hH hF hv hv' hW hx hX
      cases o with
      | none =>
        simp only [plO_none, totO_none, Option.isSome_none, List.length_nil]
        go_wp2
        go_ret3
        exact STOP.out 6 _ H4.out.1
      | some y =>
        obtain ⟨p, t⟩ := y
        simp only [plO_some, totO_some, Option.isSome_some]
        go_wp2
        go_ret3
        exact ⟨X, x, rfl, H4.out.2.1, H4.out.2.2, H4.out.1⟩

end Go.Proofs.Ytanjolmelbipoaa

namespace Go.Proofs.Ytanjolmelbipoaa
open Go.RowKit Go.Shelf

attribute [local go_sem] gives

/-- What Most hands back. -/
def MkF (x : List Int × Int × Int) : Fact := fun v W => ∃ A c, v = .tuple #[.slice A x.1.length c, .int .i64 x.2.1, .int .i64 x.2.2] ∧ x.1.length ≤ c ∧ Ints W W.heap.size A x.1
theorem Ints.se {N : Nat} {W W' : World} {A : Option Addr} {zs : List Int} (h : Ints W W.heap.size A zs) (hs : SE N W W') : Ints W' W'.heap.size A zs := (h.vals.se hs).ints
theorem MkF.se {N : Nat} {x : List Int × Int × Int} {v : Value} {W W' : World} (h : MkF x v W) (hs : SE N W W') : MkF x v W' := by
  obtain ⟨A, c, hv, hc, hi⟩ := h
  exact ⟨A, c, hv, hc, hi.se hs⟩
theorem RsF.se {N : Nat} {p : List Int} {v : Value} {W W' : World} (h : RsF p v W) (hs : SE N W W') : RsF p v W' := by
  obtain ⟨A, c, hv, hc, hi⟩ := h
  exact ⟨A, c, hv, hc, hi.se hs⟩
/-- A step of a region in which the operation that writes slot x grows a new list. -/
def SX (x N : Nat) (o : Oper) (W W' : World) : Prop := (o.dst ≠ some x → Grows W W') ∧ SE N W W'
theorem SX.of {x N : Nat} {o : Oper} {W W' : World} (h : Grows W W') : SX x N o W W' := ⟨fun _ => h, SE.of h⟩
theorem SX.refl (x N : Nat) (o : Oper) (W : World) : SX x N o W W := .of (Grows.refl W)

theorem mostR_len (g : Gr) (ps : List (Int × Int)) : (mostR g ps).1.length ≤ 4 := by
  unfold mostR
  split
  · split
    · rename_i hr
      have h4 := (rainsOk_len hr).2
      have hg := bestL_good g.hab g.hab.ripe.toNat g.hab.bears.toNat ps (lastL g)
      cases ho : bestL g.hab g.hab.ripe.toNat g.hab.bears.toNat ps (lastL g) with
      | none => simp [mostOut]
      | some x =>
        obtain ⟨p, t⟩ := x
        have := (hg p t ho).1
        simp only [mostOut]
        omega
    · simp
  · simp

set_option maxHeartbeats 4000000 in
theorem clumpMosts_idle (g : Gr) (ps : List (Int × Int)) (A1 : Option Addr) (c1 : Nat) (A2 : Option Addr) (c2 : Nat) (P1 : Option Addr) (k1 : Nat) (w : World) (l1 : ps.length ≤ 9223372036854775807)
    (h : great g = true ∨ 10 < ps.length) :
    Calls Try.prog 5 #[grv g A1 c1 A2 c2, .slice P1 ps.length k1] w fun e w' => e = .returned (.bool true) ∧ Below w.heap.size w w' := by
  have hb0 : Below w.heap.size w (w.alloc (.cells (gcs g A1 c1 A2 c2) 29)) := (Below.refl _ _).alloc (Nat.le_refl _) _
  have HB0 := Lib.hid hb0
  clear hb0
  unfold grv
  rcases Bool.eq_false_or_eq_true (great g) with hg | hg
  · have Hg := Lib.hid hg
    clear h hg
    go_enter Try.func5, Try.ntmps5
    go_wp2_with (go_at_call 12; refine (refGreat_any g A1 c1 A2 c2 _).mono ?_; rintro e w1 ⟨rfl, hB1⟩; rw [Hg.out]; have B1 := Lib.hid hB1; clear hB1)
    go_ret
    exact ⟨rfl, HB0.out.trans (B1.out.mono (by simp))⟩
  · have Hg := Lib.hid hg
    have hp : 10 < ps.length := by
      rcases h with h | h
      · rw [hg] at h; cases h
      · exact h
    clear h hg
    go_enter Try.func5, Try.ntmps5
    go_wp2_with (go_at_call 12; refine (refGreat_any g A1 c1 A2 c2 _).mono ?_; rintro e w1 ⟨rfl, hB1⟩; rw [Hg.out]; have B1 := Lib.hid hB1; clear hB1)
    go_ret
    exact ⟨rfl, HB0.out.trans (B1.out.mono (by simp))⟩

set_option maxRecDepth 100000 in
set_option maxHeartbeats 8000000 in
theorem clumpMosts_main (g : Gr) (ps : List (Int × Int)) (A1 : Option Addr) (c1 : Nat) (A2 : Option Addr) (c2 : Nat) (P1 : Option Addr) (k1 : Nat) (w : World) (hG : GrAt w w.heap.size g A1 c1 A2 c2)
    (hV1 : Vals w w.heap.size P1 (pairs ps)) (hgr : great g = false) (lp : ps.length ≤ 10) (lk : ps.length ≤ k1) :
    Calls Try.prog 5 #[grv g A1 c1 A2 c2, .slice P1 ps.length k1] w fun e w' => e = .returned (.bool true) ∧ Below w.heap.size w w' := by
  obtain ⟨j0, hj0, hy0, hy1, hy2⟩ := info_parts Try.info23
  have HJ := Lib.hid (And.intro hj0 (And.intro hy0 (And.intro hy1 hy2)))
  have HG := Lib.hid hG
  have HV := Lib.hid hV1
  have hlen : g.start.length ≤ 20 ∧ g.seas.length ≤ 80 := by simp [great] at hgr; omega
  have Hgr := Lib.hid hgr
  have hb0 : Below w.heap.size w (w.alloc (.cells (gcs g A1 c1 A2 c2) 29)) := (Below.refl _ _).alloc (Nat.le_refl _) _
  have HB0 := Lib.hid hb0
  clear hj0 hy0 hy1 hy2 hG hV1 hgr hb0
  unfold grv
  go_enter Try.func5, Try.ntmps5
  go_wp2_with (first
    | (go_at_call 12
       refine (refGreat_any g A1 c1 A2 c2 _).mono ?_
       rintro e w1 ⟨rfl, hB1⟩
       rw [Hgr.out]
       have hs1 := hB1.size
       simp only [World.size_alloc] at hs1
       have hm1 := (hB1.block w.heap.size (by simp)).trans (alloc_at0 w _)
       have hc1 := fun i => cell_of_row w1 w.heap.size i _ _ _ hm1
       have B1 := Lib.hid (And.intro (HB0.out.trans (hB1.mono (by simp))) hm1)
       clear hB1 hm1)
    | (go_at_call 13
       refine (refTwin_any g A1 c1 A2 c2 w.heap.size _ (by omega) (HG.out.below B1.out.1) Hgr.out).mono ?_
       rintro e w2 ⟨g1, x1, g2, x2, rfl, hg1, hg2, -, ho1, ho2, hB2⟩
       unfold grv
       have hs2 := hB2.size
       have T2 := Lib.hid (And.intro (B1.out.1.trans (hB2.mono (by omega))) (And.intro ((hB2.block _ (by omega)).trans B1.out.2) (And.intro ho1 ho2)))
       clear ho1 ho2 hB2))
  obtain ⟨w4, hw4⟩ : ∃ w4, w2.alloc (.cells (gcs g (some ⟨g1, 0, none⟩) x1 (some ⟨g2, 0, none⟩) x2) 29) = w4 := ⟨_, rfl⟩
  have hs4 : w4.heap.size = w2.heap.size + 1 := by rw [← hw4]; simp
  have hb24 : Below w2.heap.size w2 w4 := by rw [← hw4]; exact (Below.refl _ _).alloc (Nat.le_refl _) _
  have hL4 : LawAt w g A1 c1 A2 c2 w2.heap.size (some ⟨g1, 0, none⟩) x1 (some ⟨g2, 0, none⟩) x2 w4 := by
    have hbel := T2.out.1.trans (hb24.mono (by omega))
    refine ⟨(hb24.block _ (by omega)).trans T2.out.2.1, by rw [← hw4]; exact alloc_at0 _ _, HG.out.below hbel, ?_, hbel, by omega, by omega⟩
    exact (GrAt.below ⟨(Vals.own T2.out.2.2.1).ints, Vals.own T2.out.2.2.2, own_cap T2.out.2.2.1, own_cap T2.out.2.2.2, by omega, by omega⟩ hb24)
  have L4 := Lib.hid hL4
  have HS4 := Lib.hid hs4
  clear hL4 hs4 hb24
  simp only [gcs] at hw4
  rw [hw4]
  clear hw4 hc1
  have hlv := mostR_len g ps
  have hrf := fun W (hW : Below w.heap.size w W) (hs : w.heap.size ≤ W.heap.size) => refMost_any g A1 c1 A2 c2 P1 k1 ps w.heap.size W hs (HG.out.below hW) (HV.out.below hW) (by omega) lk
  have hlp := fun W (X : Option Addr) (x : Nat) (hW : Below w4.heap.size w4 W) (hv : Vals W W.heap.size X (pairs ps)) => mostP_any g (some ⟨g1, 0, none⟩) x1 (some ⟨g2, 0, none⟩) x2 X x ps W.heap.size W (Nat.le_refl _) ((L4.out.tw.below (hW.mono (Nat.le_of_lt L4.out.lt))).mono (Nat.le_trans (Nat.le_of_lt L4.out.lt) hW.size)) hv (by omega)
  generalize mostR g ps = z at hlv hrf hlp
  obtain ⟨p, tt, er⟩ := z
  simp only at hlv
  have HRF := Lib.hid hrf
  have HLP := Lib.hid hlp
  clear hrf hlp
  refine R2.wp_walk (C := fun W => Below w4.heap.size w4 W) (S := SX 25 w4.heap.size) 55 (by kernel_rfl) (by kernel_rfl) rfl (SX.refl _ _) (Below.refl _ _).drew ?_
  simp only []
  refine' R2.WalkR.det (fun _ => rfl) rfl (fun ρ W hW hH hU => ?_) ?_
  rotate_left
  · clear hH hU
    have hc := fun i => cell_of_row W w2.heap.size i _ _ _ ((hW.block _ (lt_of_heap L4.out.hT)).trans L4.out.hT)
    have HW := Lib.hid hW
    clear hW
    go_simp
    exact ⟨rfl, SX.refl _ _ _ _, HW.out⟩
  simp only [Act.put, List.setIfInBounds_toArray, List.set_cons_succ, List.set_cons_zero]
  refine' R2.WalkR.tp 25 (NewE w4.heap.size 23) (fun _ => rfl) rfl rfl (fun o' v W W' _ hx hv hs _ => ?_) (fun ρ W hW hH hU => ?_) ?_
  · obtain ⟨g0, hv, hn, hm⟩ := hv
    exact ⟨g0, hv, hn, ((hs.1 hx).block _ (lt_of_heap hm)).trans hm⟩
  · clear hH hU
    have HW := Lib.hid hW
    have hws := hW.size
    clear hW
    go_simp
    exact ⟨⟨_, rfl, hws, alloc_at0 _ _⟩, .of ((Below.refl _ _).alloc (Nat.le_refl _) _), HW.out.alloc hws _⟩
  simp only [Act.put, List.setIfInBounds_toArray, List.set_cons_succ, List.set_cons_zero]
  refine' R2.WalkR.det (fun _ => rfl) rfl (fun ρ W hW hH hU => ?_) ?_
  rotate_left
  · clear hH hU
    have hc := fun i => cell_of_row W w2.heap.size i _ _ _ ((hW.block _ (lt_of_heap L4.out.hT)).trans L4.out.hT)
    have HW := Lib.hid hW
    clear hW
    go_simp
    exact ⟨rfl, SX.refl _ _ _ _, HW.out⟩
  simp only [Act.put, List.setIfInBounds_toArray, List.set_cons_succ, List.set_cons_zero]
  refine' R2.WalkR.nd (PrF ps) (fun _ => rfl) rfl rfl (fun _ v W W' _ _ hv hs _ => hv.se hs.2) (fun ρ W hW hH hU => ?_) ?_
  · obtain ⟨g0, hv, hn, hm⟩ := hU.1 _ (.head _) (by first | decide +kernel | (dsimp only; decide +kernel)) rfl
    have hbw := L4.out.bel.trans (hW.mono (by have := L4.out.lt; have := L4.out.wt; omega))
    refine gives_clone (.tmp 23) (.tmp 24) 48 rfl w4.heap.size 23 j0 _ 2 16 Try.underlying48 HJ.out.1 HJ.out.2.1 HJ.out.2.2.1 HJ.out.2.2.2 rfl (by omega) hv hm hn rfl
      (HV.out.below hbw) (by rw [pairs_len]) (oneCells_pairs ps) (by simp only [maxLen]; omega) (by omega) (fun g9 q9 w9 hown hgr => ?_)
    refine ⟨⟨_, q9, rfl, Vals.own hown⟩, ⟨fun hx => absurd rfl hx, hgr.size, fun k hk => ?_⟩, hW.grown hgr hW.size (fun k e => by cases e; exact hn)⟩
    by_cases e : k = g0
    · subst e; exact .inr ⟨hn, _, hm⟩
    · exact .inl (hgr.block k hk (fun e2 => e (by injection e2)))
  simp only [Act.put, List.setIfInBounds_toArray, List.set_cons_succ, List.set_cons_zero]
  refine' R2.WalkR.nd (MkF (p, tt, er)) (fun _ => rfl) rfl rfl (fun _ v W W' _ _ hv hs _ => hv.se hs.2) (fun ρ W hW hH hU => ?_) ?_
  · obtain ⟨X, x, hv, hi⟩ := hH _ (.head _) (by first | decide +kernel | (dsimp only; decide +kernel))
    have hv' : ρ 25 = .slice X ps.length x := hv
    clear hH hU hv
    have HW := Lib.hid (And.intro hi hW)
    clear hi hW
    go_simp
    refine (HLP.out W X x HW.out.2 HW.out.1).mono ?_
    rintro e W1 ⟨Y, y, rfl, hy, hY, hB1⟩
    exact ⟨_, rfl, ⟨Y, y, rfl, hy, hY⟩, .of hB1, HW.out.2.trans (hB1.mono HW.out.2.size)⟩
  simp only [Act.put, List.setIfInBounds_toArray, List.set_cons_succ, List.set_cons_zero]
  refine' R2.WalkR.nd (MkF (p, tt, er)) (fun _ => rfl) rfl rfl (fun _ v W W' _ _ hv hs _ => hv.se hs.2) (fun ρ W hW hH hU => ?_) ?_
  · have hv := hH _ (.head _) (by first | decide +kernel | (dsimp only; decide +kernel))
    clear hH hU
    have HW := Lib.hid (And.intro hv hW)
    clear hv hW
    go_simp
    exact ⟨HW.out.1, SX.refl _ _ _ _, HW.out.2⟩
  simp only [Act.put, List.setIfInBounds_toArray, List.set_cons_succ, List.set_cons_zero]
  refine' R2.WalkR.nd (RsF p) (fun _ => rfl) rfl rfl (fun _ v W W' _ _ hv hs _ => hv.se hs.2) (fun ρ W hW hH hU => ?_) ?_
  · obtain ⟨X, x, hv, hx, hi⟩ := hH _ (.head _) (by first | decide +kernel | (dsimp only; decide +kernel))
    have hv' : ρ 21 = .tuple #[.slice X p.length x, .int .i64 tt, .int .i64 er] := hv
    clear hH hU hv
    have HW := Lib.hid (And.intro hx (And.intro hi hW))
    clear hi hW hx
    go_simp
    exact ⟨⟨X, x, rfl, HW.out.1, HW.out.2.1⟩, SX.refl _ _ _ _, HW.out.2.2⟩
  simp only [Act.put, List.setIfInBounds_toArray, List.set_cons_succ, List.set_cons_zero]
  refine' R2.WalkR.det (fun _ => rfl) rfl (fun ρ W hW hH hU => ?_) ?_
  rotate_left
  · obtain ⟨X, x, hv, -⟩ := hH _ (.tail _ (.head _)) (by first | decide +kernel | (dsimp only; decide +kernel))
    have hv' : ρ 21 = .tuple #[.slice X p.length x, .int .i64 tt, .int .i64 er] := hv
    clear hH hU hv
    have HW := Lib.hid hW
    clear hW
    go_simp
    exact ⟨rfl, SX.refl _ _ _ _, HW.out⟩
  simp only [Act.put, List.setIfInBounds_toArray, List.set_cons_succ, List.set_cons_zero]
  refine' R2.WalkR.det (fun _ => rfl) rfl (fun ρ W hW hH hU => ?_) ?_
  rotate_left
  · obtain ⟨X, x, hv, -⟩ := hH _ (.tail _ (.head _)) (by first | decide +kernel | (dsimp only; decide +kernel))
    have hv' : ρ 21 = .tuple #[.slice X p.length x, .int .i64 tt, .int .i64 er] := hv
    clear hH hU hv
    have HW := Lib.hid hW
    clear hW
    go_simp
    exact ⟨rfl, SX.refl _ _ _ _, HW.out⟩
  simp only [Act.put, List.setIfInBounds_toArray, List.set_cons_succ, List.set_cons_zero]
  refine' R2.WalkR.nd (RsF p) (fun _ => rfl) rfl rfl (fun _ v W W' _ _ hv hs _ => hv.se hs.2) (fun ρ W hW hH hU => ?_) ?_
  · have hv := hH _ (.head _) (by first | decide +kernel | (dsimp only; decide +kernel))
    clear hH hU
    have HW := Lib.hid (And.intro hv hW)
    clear hv hW
    go_simp
    exact ⟨HW.out.1, SX.refl _ _ _ _, HW.out.2⟩
  simp only [Act.put, List.setIfInBounds_toArray, List.set_cons_succ, List.set_cons_zero]
  refine' R2.WalkR.det (fun _ => rfl) rfl (fun ρ W hW hH hU => ?_) ?_
  rotate_left
  · clear hH hU
    have hc := fun i => cell_of_row W w2.heap.size i _ _ _ ((hW.block _ (lt_of_heap L4.out.hT)).trans L4.out.hT)
    have HW := Lib.hid hW
    clear hW
    go_simp
    exact ⟨rfl, SX.refl _ _ _ _, HW.out⟩
  simp only [Act.put, List.setIfInBounds_toArray, List.set_cons_succ, List.set_cons_zero]
  refine' R2.WalkR.det (fun _ => rfl) rfl (fun ρ W hW hH hU => ?_) ?_
  rotate_left
  · clear hH hU
    have hc := fun i => cell_of_row W w2.heap.size i _ _ _ ((hW.block _ (lt_of_heap L4.out.hT)).trans L4.out.hT)
    have HW := Lib.hid hW
    clear hW
    go_simp
    exact ⟨rfl, SX.refl _ _ _ _, HW.out⟩
  simp only [Act.put, List.setIfInBounds_toArray, List.set_cons_succ, List.set_cons_zero]
  refine R2.WalkR.nil (fun ρ W hW hH hF => ?_)
  obtain ⟨X, x, hv, -, hX⟩ := hH _ (.head _)
  have hv' : ρ 6 = .slice X p.length x := hv
  rw [hv']
  have hLW := L4.out.next hW
  have LW := Lib.hid (And.intro hLW hX)
  have hcG := fun i => cell_of_row W w.heap.size i _ _ _ hLW.hG
  have hlW := hLW.lt
  have hwW := hLW.wt
  clear hH hF hv hv' hX hW hLW HLP
  go_wp2_with (first
    | (go_at_call 27
       refine (HRF.out W LW.out.1.bel (by omega)).mono ?_
       rintro e w5 ⟨Y, y, rfl, -, hY, hB5⟩
       have l5 := LW.out.1.next hB5
       have hs5 := hB5.size
       have hc5G := fun i => cell_of_row w5 w.heap.size i _ _ _ l5.hG
       have hc5T := fun i => cell_of_row w5 w2.heap.size i _ _ _ l5.hT
       have L5 := Lib.hid (And.intro l5 (And.intro ((LW.out.2.below hB5).mono hs5) hY))
       clear hB5 l5 hY hcG)
    | (go_at_call 20
       refine (sameInts_any X Y x y p p w5.heap.size w5 L5.out.2.1 L5.out.2.2 (by omega) (by omega)).mono ?_
       rintro e w6 ⟨rfl, hB6⟩
       rw [decide_eq_true rfl]
       have l6 := L5.out.1.next hB6
       have hs6 := hB6.size
       have hc6G := fun i => cell_of_row w6 w.heap.size i _ _ _ l6.hG
       have hc6T := fun i => cell_of_row w6 w2.heap.size i _ _ _ l6.hT
       have L6 := Lib.hid l6
       clear hB6 l6 hc5G hc5T)
    | (go_at_call 22
       refine (same_any g _ _ _ _ _ _ _ _ w2.heap.size w6 (by omega) L6.out.tw (L6.out.gr.mono (by omega)) Hgr.out).mono ?_
       rintro e w7 ⟨rfl, hB7⟩
       have L7 := Lib.hid ((L6.out.next hB7).bel)
       clear hB7 hc6G hc6T))
  go_ret
  exact ⟨rfl, L7.out⟩

theorem clumpMosts_law (g : Gr) (ps : List (Int × Int)) (A1 : Option Addr) (c1 : Nat) (A2 : Option Addr) (c2 : Nat) (P1 : Option Addr) (k1 : Nat) (w : World) (hG : GrAt w w.heap.size g A1 c1 A2 c2)
    (hV1 : Vals w w.heap.size P1 (pairs ps)) (l1 : ps.length ≤ 9223372036854775807) (lk : ps.length ≤ k1) :
    Calls Try.prog 5 #[grv g A1 c1 A2 c2, .slice P1 ps.length k1] w fun e w' => e = .returned (.bool true) ∧ Below w.heap.size w w' := by
  by_cases h : great g = true ∨ 10 < ps.length
  · exact clumpMosts_idle g ps A1 c1 A2 c2 P1 k1 w l1 h
  · have hg : great g = false := by
      cases hc : great g with
      | false => rfl
      | true => exact absurd (.inl hc) h
    exact clumpMosts_main g ps A1 c1 A2 c2 P1 k1 w hG hV1 hg (by omega) lk

end Go.Proofs.Ytanjolmelbipoaa

namespace Go.Proofs.Ytanjolmelbipoaa
open Go.ChangeShapes Go.WideShapes Go.ChangeAt Go.RowKit Go.Deep

section
variable {H : Type} {enc : TypeId × Value → H} {w : World} {base : Nat} {spare : Nat → Bool} {held : Bool}

theorem open_spans_raw2 {fuel : Nat} {c : Value} {x : DataW H × List MemPlace} (h : DataW.trod enc Try.prog w base spare held fuel 48 [c] = some x) :
    ∃ (A : Option Addr) (ss : List (Int × Int)) (cap : Nat), c = .slice A ss.length cap ∧ ss.length ≤ maxLen ∧ ss.length ≤ cap ∧ Vals w w.heap.size A (pairs ss) := by
  rcases open_slice_pairs Try.underlying48 Try.underlying23 (by kernel_rfl) rfl rfl (by kernel_rfl) (by kernel_rfl) h with ⟨hc, _⟩ | ⟨a, len, cap, m, n, V0, V1, D0, D1, P0, P1, hc, _, hl, hm, hmm, _, hi⟩
  · simp only [List.cons.injEq, and_true] at hc
    exact ⟨none, [], 0, hc, by simp, Nat.le_refl _, fun h => by simp [pairs] at h⟩
  · simp only [List.cons.injEq, and_true] at hc
    have hle : len ≤ m := by rw [hmm]; split <;> omega
    have hv : ∀ i, i < len → ∃ p : Int × Int, w.cell? (a.add (i * 2)) = some (.int .i64 p.1) ∧ w.cell? (a.add (i * 2 + 1)) = some (.int .i64 p.2) := fun i h => by
      obtain ⟨h1, h2, h3, h4⟩ := hi i (by omega)
      obtain ⟨x, hx⟩ := open_int_raw h3
      obtain ⟨y, hy⟩ := open_int_raw h4
      exact ⟨(x, y), by rw [h1, hx], by rw [h2, hy]⟩
    obtain ⟨f, hf⟩ : ∃ f : Nat → Int × Int, ∀ i, i < len → w.cell? (a.add (i * 2)) = some (.int .i64 (f i).1) ∧ w.cell? (a.add (i * 2 + 1)) = some (.int .i64 (f i).2) :=
      ⟨fun i => if h : i < len then (hv i h).choose else (0, 0), fun i h => by simp only [h, dif_pos]; exact (hv i h).choose_spec⟩
    have hl2 : ((List.range len).map f).length = len := by simp
    refine ⟨some a, (List.range len).map f, cap, by rw [hl2]; exact hc, by rw [hl2]; omega, by rw [hl2]; omega, fun h0 => ?_⟩
    rw [pairs_len, hl2] at h0
    have h1 := (hf 0 (by omega)).1
    obtain ⟨b, off, spot⟩ := a
    have hs1 : spot = none := by
      have e0 : (⟨b, off, spot⟩ : Addr).add (0 * 2) = ⟨b, off, spot⟩ := by simp [Addr.add]
      rw [e0] at h1
      exact World.cell?_spot h1
    subst hs1
    rw [Addr.add_mid] at h1
    refine ⟨b, off, rfl, lt_of_cell h1, fun j u hj => ?_⟩
    have hjl : j < (pairs ((List.range len).map f)).length := (List.getElem?_eq_some_iff.1 hj).1
    rw [pairs_len, hl2] at hjl
    have hk : j / 2 < len := by omega
    have hp := pairs_at ((List.range len).map f) (j / 2) (by rw [hl2]; exact hk)
    have hq := hf (j / 2) hk
    rw [Addr.add_mid, Addr.add_mid] at hq
    have hg : ((List.range len).map f)[j / 2]?.getD (0, 0) = f (j / 2) := by simp [hk]
    rw [hg] at hp
    rcases Nat.mod_two_eq_zero_or_one j with hm2 | hm2
    · rw [show j = j / 2 * 2 by omega] at hj ⊢
      rw [hp.1] at hj
      rw [← hj]; exact hq.1
    · rw [show j = j / 2 * 2 + 1 by omega] at hj ⊢
      rw [hp.2] at hj
      rw [← hj]; exact hq.2

set_option maxRecDepth 100000 in
theorem open_spans_arg2 {r : Reach} {b0 : Nat} {v : Value} {d : DataW H} {p : List MemPlace} (hv : Value.okWide Try.prog w r b0 48 v) (h : DataW.Trod enc Try.prog w base spare held 48 v d p) :
    ∃ (A : Option Addr) (ss : List (Int × Int)) (cap : Nat), v = .slice A ss.length cap ∧ ss.length ≤ maxLen ∧ ss.length ≤ cap ∧ Vals w w.heap.size A (pairs ss) := by
  obtain ⟨a, len, cap, rfl⟩ := okWide_slice Try.underlying48 hv
  obtain ⟨fuel, hf⟩ := h
  exact open_spans_raw2 hf
end

end Go.Proofs.Ytanjolmelbipoaa

