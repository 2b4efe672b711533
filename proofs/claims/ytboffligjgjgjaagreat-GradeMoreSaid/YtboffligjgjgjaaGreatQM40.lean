/-
  Sheets, gradings and lists of numbers that are compared: equal things are the same (the reference's).
-/
import Derived.Deep.QuietTactic
import Derived.BigQuiet
import Derived.Test.YtboffligjgjgjaaGreatQM39
import Derived.Test.YtboffligjgjgjaaGreatQM22
set_option linter.all false
namespace Go.Proofs.YtboffligjgjgjaaGreat
open Go.RowKit
open R6 (done done_ne done_me upd_ne upd_me)

attribute [local go_sem] gives

theorem gives_neq {P : Program} {op : Oper} {a : Act} {w : World} {R : Value → World → Prop} (ty ty2 : TypeId) (x y : Operand) (ho : op.op = .binOp .neq ty x y ty2) {u v : Value} (hx : a.eval x = u) (hy : a.eval y = v) {r : Value} (hg : (eqGuard .neq ty x y u v).run P w = .ok () w)
    (hr : (binOp .neq ty u v).run P w = .ok r w) (h : R r w) : gives P op a w R := by
  unfold gives execOp
  simp only [ho, hx, hy, Sem.run_bind, hg, hr, Result.andThen_ok]
  exact h
theorem guard_struct {P : Program} {ty : TypeId} {x y : Operand} {X Y : Array Value} {w : World} (hg : P.eqGuardType P.depth ty = false) : (eqGuard .neq ty x y (.agg X) (.agg Y)).run P w = .ok () w := by
  unfold eqGuard
  simp [hg, go_sem]

set_option maxRecDepth 100000 in
set_option maxHeartbeats 8000000 in
theorem rfSameInts_any (L : List Int) (A1 A2 : Option Addr) (c1 c2 : Nat) (B : Nat) (w : World) (h1 : Ints w B A1 L) (h2 : Ints w B A2 L) (hl : L.length ≤ 1000000) :
    Calls Tryz.prog 51 #[.slice A1 L.length c1, .slice A2 L.length c2] w fun e w' => e = .returned (.bool true) ∧ Below w.heap.size w w' := by
  have HP := Lib.hid (And.intro h1 h2)
  clear h1 h2
  go_enter Tryz.func51, Tryz.ntmps51
  go_wp2
  go_loopg [5] L.length (fun gn s5 wx => ∃ k : Nat, k + gn = L.length ∧ s5 = .int .i64 k ∧ Hid (Below w.heap.size w wx) ∧ Hid (∀ a : Addr, wx.cell? a = w.cell? a))
  case atStart => exact ⟨0, by omega, rfl, Below.refl _ _, fun _ => rfl⟩
  case round =>
    obtain ⟨k, hkg, rfl, hI, hcw⟩ := hrel
    cases gk with
    | zero =>
      obtain rfl : k = L.length := by omega
      go_wp2
      go_ret
      exact ⟨rfl, hI.out⟩
    | succ gn =>
      have hk : k < L.length := by omega
      have hkz : (k : Int) < L.length := by omega
      obtain ⟨b1, o1, hA1, -, hc1⟩ := HP.out.1 (by omega)
      obtain ⟨b2, o2, hA2, -, hc2⟩ := HP.out.2 (by omega)
      subst hA1 hA2
      have hx1 := hc1 k hk
      have hx2 := hc2 k hk
      generalize L[k]?.getD 0 = x at hx1 hx2
      have f1 : wr.cell? ⟨b1, o1 + k, none⟩ = _ := (hcw.out _).trans hx1
      have f2 : wr.cell? ⟨b2, o2 + k, none⟩ = _ := (hcw.out _).trans hx2
      clear hc1 hc2 hx1 hx2
      go_wp2
      go_quiet (fail)
      go_wp2
      go_roundg gn
      case measure => omega
      case rel => exact ⟨k + 1, by omega, by go_num, below_drewN hI.out _, hcw.out⟩

end Go.Proofs.YtboffligjgjgjaaGreat
