/-
  Twins of a sheet and a grading that a region makes, and the boxes that they come into.
-/
import Derived.ChangeKeysEq
import Derived.Test.YtpnnlmaipcjkmaaGreatQV4
import Derived.Deep.QuietTactic
import Derived.BigQuiet
import Derived.Test.YtpnnlmaipcjkmaaGreatQV17
import Derived.Test.YtpnnlmaipcjkmaaGreatQV24
set_option linter.all false
namespace Go.Proofs.YtpnnlmaipcjkmaaGreat
open Go.RowKit

theorem stSpan5 : Tryz.prog.underlying 50 = some (.struct (Tryz.prog.fieldsOf 50)) := by kernel_rfl
theorem heldSpan5 : Tryz.prog.stoodInHeld 50 = false := by kernel_rfl
theorem guardSpan5 : Tryz.prog.eqGuardType Tryz.prog.depth 50 = false := by kernel_rfl

theorem eqlSpan5 (w : World) (s : Int × Int) : (binOp .eql 50 (.agg (sp2 s).toArray) (.agg (sp2 s).toArray)).run Tryz.prog w = .ok (.bool true) w := by
  unfold sp2
  rw [run_eql_struct, run_equalIn_agg _ _ _ _ _ stSpan5 heldSpan5]
  simp [Program.fieldsOf, Tryz.underlying50, Op.eqFields, go_sem]
end Go.Proofs.YtpnnlmaipcjkmaaGreat

namespace Go.Proofs.YtpnnlmaipcjkmaaGreat
open Go.RowKit
open R6 (done done_ne done_me upd_ne upd_me)

attribute [local go_sem] gives

set_option maxRecDepth 100000 in
set_option maxHeartbeats 8000000 in
theorem rfSameInts_any (L : List Int) (A1 A2 : Option Addr) (c1 c2 : Nat) (B : Nat) (w : World) (h1 : Ints w B A1 L) (h2 : Ints w B A2 L) (hl : L.length ≤ 1000000) :
    Calls Tryz.prog 51 #[.slice A1 L.length c1, .slice A2 L.length c2] w fun e w' => e = .returned (.bool true) ∧ Below w.heap.size w w' := by
  have HP := Lib.hid (And.intro h1 h2)
  clear h1 h2
  go_enter Tryz.func51, Tryz.ntmps51
  go_wp2
  go_loopg [5] L.length (fun gn s5 wx => ∃ k : Nat, k + gn = L.length ∧ s5 = .int .i64 k ∧ Hid (Below w.heap.size w wx) ∧ Hid (∀ a : Addr, wx.cell? a = w.cell? a))
  case atStart => exact ⟨0, by omega, rfl, Below.refl _ _, fun _ => rfl⟩
  case round =>
    obtain ⟨k, hkg, rfl, hI, hcw⟩ := hrel
    cases gk with
    | zero =>
      obtain rfl : k = L.length := by omega
      go_wp2
      go_ret
      exact ⟨rfl, hI.out⟩
    | succ gn =>
      have hk : k < L.length := by omega
      have hkz : (k : Int) < L.length := by omega
      obtain ⟨b1, o1, hA1, -, hc1⟩ := HP.out.1 (by omega)
      obtain ⟨b2, o2, hA2, -, hc2⟩ := HP.out.2 (by omega)
      subst hA1 hA2
      have hx1 := hc1 k hk
      have hx2 := hc2 k hk
      generalize L[k]?.getD 0 = x at hx1 hx2
      have f1 : wr.cell? ⟨b1, o1 + k, none⟩ = _ := (hcw.out _).trans hx1
      have f2 : wr.cell? ⟨b2, o2 + k, none⟩ = _ := (hcw.out _).trans hx2
      clear hc1 hc2 hx1 hx2
      go_wp2
      go_quiet (fail)
      go_wp2
      go_roundg gn
      case measure => omega
      case rel => exact ⟨k + 1, by omega, by go_num, below_drewN hI.out _, hcw.out⟩

end Go.Proofs.YtpnnlmaipcjkmaaGreat

namespace Go.Proofs.YtpnnlmaipcjkmaaGreat
open Go.RowKit
open R6 (done done_ne done_me upd_ne upd_me)

theorem own_put {W W' : World} {base b : Nat} {e t : TypeId} {size n : Nat} {v : Value} {xs : List Value} {cs : Array Value} {fr : Nat × Nat} (h : W.ownsRow base e size v n xs) (hP : Put W W' b) (hb : W.heap[b]? = some (.cells cs t fr)) (hne : e ≠ t) : W'.ownsRow base e size v n xs := by
  refine h.kept hP.grown ?_
  cases hv : v.ownBlock with
  | none => exact .inl rfl
  | some g =>
    refine .inr ?_
    intro e2
    obtain ⟨c1, h1, _⟩ := own_bt h hv
    simp only [Option.some.injEq] at e2
    subst e2
    rw [h1] at hb
    simp only [Option.some.injEq, Obj.cells.injEq] at hb
    exact hne hb.2.1
theorem OwnS.grows {W W' : World} {base : Nat} {ps : List Pol} {ts : List Ts} {v1 v2 : Value} (h : OwnS W base ps ts v1 v2) (hg : Grows W W') : OwnS W' base ps ts v1 v2 := ⟨own_grows h.1 hg, own_grows h.2 hg⟩

structure LwC (w0 : World) (ps : List Pol) (ts : List Ts) (gs : List Gd) (vary : Int) (K : List (Nat × Obj)) (D : Nat → Bool) (σ : Nat → Value) (W : World) : Prop where
  bel : Below w0.heap.size w0 W
  box : keptK K W
  s27 : D 1 = true → ∃ v1 v2, σ 27 = .agg #[v1, v2] ∧ OwnS W w0.heap.size ps ts v1 v2
  s29 : D 3 = true → ∃ v3, σ 29 = .agg #[v3, .int .i64 vary] ∧ W.ownsRow w0.heap.size 53 8 v3 gs.length (gs.flatMap gcl)
  s9 : D 4 = true → ∃ b, σ 9 = .pointer (some ⟨b, 0, none⟩) ∧ w0.heap.size ≤ b ∧ ∃ X : List Value, X.length = 2 ∧ W.heap[b]? = some (.cells X.toArray 25 (0, 0)) ∧ (D 6 = true → σ 27 = .agg X.toArray)
  s10 : D 5 = true → ∃ b, σ 10 = .pointer (some ⟨b, 0, none⟩) ∧ w0.heap.size ≤ b ∧ ∃ X : List Value, X.length = 2 ∧ W.heap[b]? = some (.cells X.toArray 28 (0, 0)) ∧ (D 7 = true → σ 29 = .agg X.toArray)
section
variable {w0 W W' : World} {ps : List Pol} {ts : List Ts} {gs : List Gd} {vary : Int} {K : List (Nat × Obj)} {D : Nat → Bool} {σ : Nat → Value}
theorem LwC.grows (h : LwC w0 ps ts gs vary K D σ W) (hg : Grows W W') : LwC w0 ps ts gs vary K D σ W' :=
  ⟨h.bel.trans (hg.mono h.bel.size), h.box.next hg, fun a => let ⟨v1, v2, e, o⟩ := h.s27 a; ⟨v1, v2, e, o.grows hg⟩, fun a => let ⟨v3, e, o⟩ := h.s29 a; ⟨v3, e, own_grows o hg⟩,
   fun a => let ⟨b, e, hb, X, hX, hh, hd⟩ := h.s9 a; ⟨b, e, hb, X, hX, (hg.block _ (lt_of_heap hh)).trans hh, hd⟩, fun a => let ⟨b, e, hb, X, hX, hh, hd⟩ := h.s10 a; ⟨b, e, hb, X, hX, (hg.block _ (lt_of_heap hh)).trans hh, hd⟩⟩
end

end Go.Proofs.YtpnnlmaipcjkmaaGreat
