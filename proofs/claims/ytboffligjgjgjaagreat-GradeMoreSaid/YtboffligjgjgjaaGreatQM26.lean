/-
  Between which stresses a section of a pole is by its grade and its own tests (the reference's): classes, words.
-/
import Derived.BigGuardPart
import Derived.Test.YtboffligjgjgjaaGreatQM8
set_option linter.all false
namespace Go.Proofs.YtboffligjgjgjaaGreat
open Go.RowKit Go.BigFrame
open R6 (done done_ne done_me upd_ne upd_me)

attribute [local go_sem] gives

theorem rfWithin_any (n lo hi : Int) (w : World) : Calls Tryz.prog 67 #[.int .i64 n, .int .i64 lo, .int .i64 hi] w fun e w' => e = .returned (.bool (inR n lo hi)) ∧ w = w' := by
  by_cases h1 : lo ≤ n
  · by_cases h2 : n ≤ hi
    · have e : inR n lo hi = true := inR_iff.2 ⟨h1, h2⟩
      rw [e]
      clear e
      go_enter Tryz.func67, Tryz.ntmps67
      go_wp2
      go_ret
      exact ⟨rfl, rfl⟩
    · have e : inR n lo hi = false := by simp [inR, h2]
      rw [e]
      clear e
      go_enter Tryz.func67, Tryz.ntmps67
      go_wp2
      go_ret
      exact ⟨rfl, rfl⟩
  · have e : inR n lo hi = false := by simp [inR, h1]
    rw [e]
    clear e
    go_enter Tryz.func67, Tryz.ntmps67
    go_wp2
    go_ret
    exact ⟨rfl, rfl⟩

set_option maxRecDepth 100000 in
set_option maxHeartbeats 4000000 in
theorem rfAt_any (ps : List Pol) (id : Int) (AP : Option Addr) (cp : Nat) (AT : Option Addr) (nt ct : Nat) (B : Nat) (w : World) (hB : B ≤ w.heap.size) (hz : Vals w B AP (ps.flatMap pcl)) (hl : ps.length ≤ 1000000) :
    Calls Tryz.prog 31 #[.agg #[.slice AP ps.length cp, .slice AT nt ct], .int .i64 id] w fun e w' => e = .returned (.int .i64 (idxL (fun p : Pol => decide (p.id = id)) ps 0)) ∧ Below w.heap.size w w' := by
  obtain ⟨w1, hw1⟩ : ∃ w1, w.alloc (.cells #[.slice AP ps.length cp, .slice AT nt ct] 25) = w1 := ⟨_, rfl⟩
  have hb1 : Below w.heap.size w w1 := by rw [← hw1]; exact grow1 _ _
  have hm1 : w1.heap[w.heap.size]? = some (.cells #[.slice AP ps.length cp, .slice AT nt ct] 25 (0, 0)) := by rw [← hw1]; exact alloc_at0 _ _
  have hc1 := fun i => cell_of_row w1 w.heap.size i _ _ _ hm1
  have hc0 := hc1 0
  obtain ⟨P, hP⟩ : ∃ P : Pol → Bool, P = fun p => decide (p.id = id) := ⟨_, rfl⟩
  rw [← hP]
  have HPP := Lib.hid hP
  have HZ := Lib.hid (And.intro hz hb1)
  clear hz hb1 hm1 hP hc1
  go_enter Tryz.func31, Tryz.ntmps31
  go_wp2
  go_loopg [5] ps.length (fun gg s5 wx => ∃ k : Nat, k + gg = ps.length ∧ s5 = .int .i64 k ∧ Hid (idxL P (ps.drop k) k = idxL P ps 0) ∧ wx = w1)
  case atStart => exact ⟨0, by omega, rfl, rfl, rfl⟩
  case round =>
    obtain ⟨k, hkg, rfl, hI, rfl⟩ := hrel
    cases gk with
    | zero =>
      have hI' := hI.out
      obtain rfl : k = ps.length := by omega
      rw [List.drop_length] at hI'
      have HI := Lib.hid hI'
      clear hI'
      go_wp2
      go_ret
      exact ⟨by rw [← HI.out]; rfl, HZ.out.2⟩
    | succ gg =>
      have hk : k < ps.length := by omega
      have hkz : (k : Int) < ps.length := by omega
      obtain ⟨c, off, hA, hcB, hc⟩ := vals_elem pcl_len HZ.out.1 (by decide) hk
      subst hA
      have hst := idxL_step (P := P) hk
      rw [hI.out] at hst
      have hcy : wr.cell? ⟨c, off + k * 12, none⟩ = some (.int .i64 ps[k].id) := (HZ.out.2.cell (p := ⟨c, off + k * 12, none⟩) (by simp; omega)).trans (hc 0 _ rfl)
      have hpp := congrFun HPP.out ps[k]
      generalize ps[k] = y at hcy hst hpp
      have HST := Lib.hid hst
      clear hc hst
      by_cases he : y.id = id
      · have e : P y = true := by rw [hpp]; simpa using he
        have HE := Lib.hid e
        clear e hpp
        go_wp2
        go_ret
        exact ⟨by rw [HST.out, HE.out]; rfl, HZ.out.2⟩
      · have e : P y = false := by rw [hpp]; simpa using he
        have HE := Lib.hid e
        clear e hpp
        go_wp2
        go_roundg gg
        case measure => omega
        case rel => exact ⟨k + 1, by omega, by go_num, by rw [HST.out, HE.out]; rfl, rfl⟩

set_option maxRecDepth 100000 in
set_option maxHeartbeats 4000000 in
theorem rfArea_any (p : Pol) (k : Nat) (hk : k < 3) (hs : okSecs p = true) (w : World) :
    Calls Tryz.prog 32 #[.agg (pcl p).toArray, .int .i64 (k : Int)] w fun e w' => e = .returned (.int .i64 (ar p k)) ∧ Below w.heap.size w w' := by
  have ha := ar_pos hs k
  simp only [okSecs, okSec, Bool.and_eq_true, inR_iff, decide_eq_true_eq] at hs
  obtain ⟨⟨a1, a2, a3⟩, ⟨b1, b2, b3⟩, ⟨c1, c2, c3⟩⟩ := hs
  unfold ar at ha ⊢
  have hc : ∀ W : World, W.heap[w.heap.size]? = some (.cells (pcl p).toArray 56 (0, 0)) → W.cell? ⟨w.heap.size, 7 + k, none⟩ = some (.int .i64 (ww p k)) ∧ W.cell? ⟨w.heap.size, 4 + k, none⟩ = some (.int .i64 (gg p k)) := fun W hW => by
    rw [cell_of_row W _ (7 + k) _ _ _ hW, cell_of_row W _ (4 + k) _ _ _ hW]
    have h3 : k = 0 ∨ k = 1 ∨ k = 2 := by omega
    rcases h3 with rfl | rfl | rfl <;> exact ⟨rfl, rfl⟩
  have hbw : 1 ≤ ww p k ∧ ww p k ≤ 60 ∧ 10 ≤ gg p k ∧ gg p k ≤ 300 := by
    have h3 : k = 0 ∨ k = 1 ∨ k = 2 := by omega
    rcases h3 with rfl | rfl | rfl
    · exact ⟨a1.1, a1.2, a2.1, a2.2⟩
    · exact ⟨b1.1, b1.2, b2.1, b2.2⟩
    · exact ⟨c1.1, c1.2, c2.1, c2.2⟩
  generalize ww p k = x at *
  generalize gg p k = g at *
  have v1 : IntKind.i64.wrap (3 * x) = 3 * x := IntWalk.i64_in _ (by omega)
  have v2 : IntKind.i64.wrap (g - x) = g - x := IntWalk.i64_in _ (by omega)
  have v3 : IntKind.i64.wrap (3 * x * (g - x)) = 3 * x * (g - x) := IntWalk.i64_in _ (by omega)
  have HV := Lib.hid (And.intro v1 (And.intro v2 v3))
  have HC0 := Lib.hid hc
  have hkz : (k : Int) < 3 := by omega
  have hk0 : (0 : Int) ≤ k := by omega
  clear a1 a2 a3 b1 b2 b3 c1 c2 c3 v1 v2 v3 ha hbw hc
  go_enter Tryz.func32, Tryz.ntmps32
  go_wp2
  refine R6.wp_walk (C := BoxM w [(w.heap.size, .cells (pcl p).toArray 56)] [] (fun _ => [])) 20 (by kernel_rfl) (by kernel_rfl) rfl (BoxM.start (grow1 w _) ⟨alloc_at0 w _, trivial⟩ (fun _ => rfl)) ?_
  simp only []
  repeat (first
    | (refine' R6.WalkR.det (fun _ => rfl) (fun D ρ W hK hC => ?_) ?_
       rotate_left
       · obtain ⟨f1, f2⟩ := HC0.out W hC.box.1
         obtain ⟨v1, v2, v3⟩ := HV.out
         have HC := Lib.hid hC
         clear hC hK
         go_simp
         first
           | with_reducible exact ⟨rfl, HC.out.move (by decide)⟩
           | fail
       simp only [Act.put, List.setIfInBounds_toArray, List.set_cons_succ, List.set_cons_zero]))
  refine R6.WalkR.nil (fun D ρ W hD hC => ?_)
  have HB := Lib.hid hC.bel
  clear hC hD
  go_wp2
  go_ret
  exact ⟨rfl, HB.out⟩

end Go.Proofs.YtboffligjgjgjaaGreat

namespace Go.Proofs.YtboffligjgjgjaaGreat
open Go.RowKit
open R6 (done done_ne done_me upd_ne upd_me)

attribute [local go_sem] gives

/-- A region that makes one block and writes it. -/
structure MkS (w1 : World) (ka ks sl : Nat) (ty : TypeId) (X Y : List Value) (D : Nat → Bool) (σ : Nat → Value) (W : World) : Prop where
  bel : Below w1.heap.size w1 W
  new : D ka = true → ∃ b, w1.heap.size ≤ b ∧ σ sl = .pointer (some ⟨b, 0, none⟩) ∧ W.heap[b]? = some (.cells (if D ks = true then Y else X).toArray ty (0, 0))
def mkSK (ka ks sl k : Nat) (d : Option Nat) : Bool := !(k == ka || k == ks || d == some sl)
section
variable {w1 W W' : World} {ka ks sl : Nat} {ty : TypeId} {X Y : List Value} {D : Nat → Bool} {σ σ' : Nat → Value}
theorem MkS.start (hD : ∀ k, D k = false) : MkS w1 ka ks sl ty X Y D σ w1.drew := ⟨(Below.refl _ _).drew, fun h => by rw [hD] at h; cases h⟩
theorem MkS.move {k : Nat} {d : Option Nat} {v : Value} (h : MkS w1 ka ks sl ty X Y D σ W) (hk : mkSK ka ks sl k d = true) : MkS w1 ka ks sl ty X Y (done D k) (R4.upd σ d v) W := by
  simp only [mkSK, Bool.not_eq_true', Bool.or_eq_false_iff, beq_eq_false_iff_ne, ne_eq] at hk
  obtain ⟨⟨h1, h2⟩, h3⟩ := hk
  have e1 := done_ne (D := D) (k := k) (j := ka) (by omega)
  have e2 := done_ne (D := D) (k := k) (j := ks) (by omega)
  exact ⟨h.bel, by rw [e1, e2, upd_ne h3]; exact h.new⟩
theorem MkS.next (h : MkS w1 ka ks sl ty X Y D σ W) (hg : Grows W W') : MkS w1 ka ks sl ty X Y D σ W' :=
  ⟨h.bel.trans (hg.mono h.bel.size), fun e => let ⟨b, h0, h1, h2⟩ := h.new e; ⟨b, h0, h1, (hg.block _ (lt_of_heap h2)).trans h2⟩⟩
theorem MkS.made {cs : Array Value} (h : MkS w1 ka ks sl ty X Y D σ W) (hne : (ka == ks) = false) (hs : D ks = false) (hc : cs = X.toArray) :
    MkS w1 ka ks sl ty X Y (done D ka) (R4.upd σ (some sl) (.pointer (some ⟨W.heap.size, 0, none⟩))) (W.alloc (.cells cs ty)) := by
  subst hc
  have h' := h.next (grow1 W (.cells X.toArray ty))
  have e2 := done_ne (D := D) (k := ka) (j := ks) (by simp at hne; omega)
  exact ⟨h'.bel, fun _ => ⟨_, h.bel.size, upd_me, by rw [e2, hs, if_neg (by decide)]; exact alloc_at0 _ _⟩⟩
theorem MkS.put {b : Nat} (h : MkS w1 ka ks sl ty X Y D σ W) (hne : (ka == ks) = false) (hb : w1.heap.size ≤ b) (hv : σ sl = .pointer (some ⟨b, 0, none⟩)) (hP : Put W W' b) (hM : W'.heap[b]? = some (.cells Y.toArray ty (0, 0))) :
    MkS w1 ka ks sl ty X Y (done D ks) σ W' := by
  have e1 := done_ne (D := D) (k := ks) (j := ka) (by simp at hne; omega)
  exact ⟨h.bel.trans (hP.below hb), fun _ => ⟨b, hb, hv, by rw [done_me, if_pos rfl]; exact hM⟩⟩
end

theorem gcl_st0 (g : Gd) {k : Nat} (hk : k < 3) : ∀ j v, (sp2 (st0 g k))[j]? = some v → (gcl g)[2 + k * 2 + j]? = some v := by
  intro j v hv
  have hj : j < 2 := (List.getElem?_eq_some_iff.1 hv).1
  have h3 : k = 0 ∨ k = 1 ∨ k = 2 := by omega
  have h2 : j = 0 ∨ j = 1 := by omega
  rcases h3 with rfl | rfl | rfl <;> rcases h2 with rfl | rfl <;> exact hv
theorem rowSheet5 : RowTy Tryz.prog 25 2 := ⟨⟨_, Tryz.underlying25, rfl⟩, by kernel_rfl⟩

end Go.Proofs.YtboffligjgjgjaaGreat
