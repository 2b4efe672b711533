/-
  Between which stresses a section of a pole is by its grade and its own tests (the reference's): classes, words.
-/
import Derived.BigGuardPart
import Derived.Test.YtpnnlmaipcjkmaaGreatQV7
set_option linter.all false
namespace Go.Proofs.YtpnnlmaipcjkmaaGreat
open Go.RowKit Go.BigFrame
open R6 (done done_ne done_me upd_ne upd_me)

attribute [local go_sem] gives

theorem rfWithin_any (n lo hi : Int) (w : World) : Calls Tryz.prog 67 #[.int .i64 n, .int .i64 lo, .int .i64 hi] w fun e w' => e = .returned (.bool (inR n lo hi)) ∧ w = w' := by
  by_cases h1 : lo ≤ n
  · by_cases h2 : n ≤ hi
    · have e : inR n lo hi = true := inR_iff.2 ⟨h1, h2⟩
      rw [e]
      clear e
      go_enter Tryz.func67, Tryz.ntmps67
      go_wp2
      go_ret
      exact ⟨rfl, rfl⟩
    · have e : inR n lo hi = false := by simp [inR, h2]
      rw [e]
      clear e
      go_enter Tryz.func67, Tryz.ntmps67
      go_wp2
      go_ret
      exact ⟨rfl, rfl⟩
  · have e : inR n lo hi = false := by simp [inR, h1]
    rw [e]
    clear e
    go_enter Tryz.func67, Tryz.ntmps67
    go_wp2
    go_ret
    exact ⟨rfl, rfl⟩

set_option maxRecDepth 100000 in
set_option maxHeartbeats 4000000 in
theorem rfAt_any (ps : List Pol) (id : Int) (AP : Option Addr) (cp : Nat) (AT : Option Addr) (nt ct : Nat) (B : Nat) (w : World) (hB : B ≤ w.heap.size) (hz : Vals w B AP (ps.flatMap pcl)) (hl : ps.length ≤ 1000000) :
    Calls Tryz.prog 31 #[.agg #[.slice AP ps.length cp, .slice AT nt ct], .int .i64 id] w fun e w' => e = .returned (.int .i64 (idxL (fun p : Pol => decide (p.id = id)) ps 0)) ∧ Below w.heap.size w w' := by
  obtain ⟨w1, hw1⟩ : ∃ w1, w.alloc (.cells #[.slice AP ps.length cp, .slice AT nt ct] 25) = w1 := ⟨_, rfl⟩
  have hb1 : Below w.heap.size w w1 := by rw [← hw1]; exact grow1 _ _
  have hm1 : w1.heap[w.heap.size]? = some (.cells #[.slice AP ps.length cp, .slice AT nt ct] 25 (0, 0)) := by rw [← hw1]; exact alloc_at0 _ _
  have hc1 := fun i => cell_of_row w1 w.heap.size i _ _ _ hm1
  have hc0 := hc1 0
  obtain ⟨P, hP⟩ : ∃ P : Pol → Bool, P = fun p => decide (p.id = id) := ⟨_, rfl⟩
  rw [← hP]
  have HPP := Lib.hid hP
  have HZ := Lib.hid (And.intro hz hb1)
  clear hz hb1 hm1 hP hc1
  go_enter Tryz.func31, Tryz.ntmps31
  go_wp2
  go_loopg [5] ps.length (fun gg s5 wx => ∃ k : Nat, k + gg = ps.length ∧ s5 = .int .i64 k ∧ Hid (idxL P (ps.drop k) k = idxL P ps 0) ∧ wx = w1)
  case atStart => exact ⟨0, by omega, rfl, rfl, rfl⟩
  case round =>
    obtain ⟨k, hkg, rfl, hI, rfl⟩ := hrel
    cases gk with
    | zero =>
      have hI' := hI.out
      obtain rfl : k = ps.length := by omega
      rw [List.drop_length] at hI'
      have HI := Lib.hid hI'
      clear hI'
      go_wp2
      go_ret
      exact ⟨by rw [← HI.out]; rfl, HZ.out.2⟩
    | succ gg =>
      have hk : k < ps.length := by omega
      have hkz : (k : Int) < ps.length := by omega
      obtain ⟨c, off, hA, hcB, hc⟩ := vals_elem pcl_len HZ.out.1 (by decide) hk
      subst hA
      have hst := idxL_step (P := P) hk
      rw [hI.out] at hst
      have hcy : wr.cell? ⟨c, off + k * 12, none⟩ = some (.int .i64 ps[k].id) := (HZ.out.2.cell (p := ⟨c, off + k * 12, none⟩) (by simp; omega)).trans (hc 0 _ rfl)
      have hpp := congrFun HPP.out ps[k]
      generalize ps[k] = y at hcy hst hpp
      have HST := Lib.hid hst
      clear hc hst
      by_cases he : y.id = id
      · have e : P y = true := by rw [hpp]; simpa using he
        have HE := Lib.hid e
        clear e hpp
        go_wp2
        go_ret
        exact ⟨by rw [HST.out, HE.out]; rfl, HZ.out.2⟩
      · have e : P y = false := by rw [hpp]; simpa using he
        have HE := Lib.hid e
        clear e hpp
        go_wp2
        go_roundg gg
        case measure => omega
        case rel => exact ⟨k + 1, by omega, by go_num, by rw [HST.out, HE.out]; rfl, rfl⟩

end Go.Proofs.YtpnnlmaipcjkmaaGreat

namespace Go.Proofs.YtpnnlmaipcjkmaaGreat
open Go.RowKit
open R6 (done done_ne done_me upd_ne upd_me)

attribute [local go_sem] gives

structure MkS (w1 : World) (ka ks sl : Nat) (ty : TypeId) (X Y : List Value) (D : Nat → Bool) (σ : Nat → Value) (W : World) : Prop where
  bel : Below w1.heap.size w1 W
  new : D ka = true → ∃ b, w1.heap.size ≤ b ∧ σ sl = .pointer (some ⟨b, 0, none⟩) ∧ W.heap[b]? = some (.cells (if D ks = true then Y else X).toArray ty (0, 0))
section
variable {w1 W W' : World} {ka ks sl : Nat} {ty : TypeId} {X Y : List Value} {D : Nat → Bool} {σ σ' : Nat → Value}
theorem MkS.start (hD : ∀ k, D k = false) : MkS w1 ka ks sl ty X Y D σ w1.drew := ⟨(Below.refl _ _).drew, fun h => by rw [hD] at h; cases h⟩
theorem MkS.next (h : MkS w1 ka ks sl ty X Y D σ W) (hg : Grows W W') : MkS w1 ka ks sl ty X Y D σ W' :=
  ⟨h.bel.trans (hg.mono h.bel.size), fun e => let ⟨b, h0, h1, h2⟩ := h.new e; ⟨b, h0, h1, (hg.block _ (lt_of_heap h2)).trans h2⟩⟩
theorem MkS.made {cs : Array Value} (h : MkS w1 ka ks sl ty X Y D σ W) (hne : (ka == ks) = false) (hs : D ks = false) (hc : cs = X.toArray) :
    MkS w1 ka ks sl ty X Y (done D ka) (R4.upd σ (some sl) (.pointer (some ⟨W.heap.size, 0, none⟩))) (W.alloc (.cells cs ty)) := by
  subst hc
  have h' := h.next (grow1 W (.cells X.toArray ty))
  have e2 := done_ne (D := D) (k := ka) (j := ks) (by simp at hne; omega)
  exact ⟨h'.bel, fun _ => ⟨_, h.bel.size, upd_me, by rw [e2, hs, if_neg (by decide)]; exact alloc_at0 _ _⟩⟩
theorem MkS.put {b : Nat} (h : MkS w1 ka ks sl ty X Y D σ W) (hne : (ka == ks) = false) (hb : w1.heap.size ≤ b) (hv : σ sl = .pointer (some ⟨b, 0, none⟩)) (hP : Put W W' b) (hM : W'.heap[b]? = some (.cells Y.toArray ty (0, 0))) :
    MkS w1 ka ks sl ty X Y (done D ks) σ W' := by
  have e1 := done_ne (D := D) (k := ks) (j := ka) (by simp at hne; omega)
  exact ⟨h.bel.trans (hP.below hb), fun _ => ⟨b, hb, hv, by rw [done_me, if_pos rfl]; exact hM⟩⟩
end

theorem gcl_st0 (g : Gd) {k : Nat} (hk : k < 3) : ∀ j v, (sp2 (st0 g k))[j]? = some v → (gcl g)[2 + k * 2 + j]? = some v := by
  intro j v hv
  have hj : j < 2 := (List.getElem?_eq_some_iff.1 hv).1
  have h3 : k = 0 ∨ k = 1 ∨ k = 2 := by omega
  have h2 : j = 0 ∨ j = 1 := by omega
  rcases h3 with rfl | rfl | rfl <;> rcases h2 with rfl | rfl <;> exact hv
end Go.Proofs.YtpnnlmaipcjkmaaGreat
