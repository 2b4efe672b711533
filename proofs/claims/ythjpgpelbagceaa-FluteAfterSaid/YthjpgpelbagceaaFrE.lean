/-
  Which flutes are great; a flute's twin.
-/
import Derived.Test.YthjpgpelbagceaaFrA
import Derived.Test.YthjpgpelbagceaaFuB2
set_option linter.all false
namespace Go.Proofs.Ythjpgpelbagceaa
open Go.RowKit
open R6 (done done_ne done_me upd_ne upd_me)

attribute [local go_sem] gives

/-- A blank. -/
structure Bk where
  len : Int
  e0 : Int
  e1 : Int
  f0 : Int
  f1 : Int
  s0 : Int
  s1 : Int
  gap : Int
  near : Int
  A : Option Addr
  cap : Nat
  zs : List Int
def bkc (b : Bk) : List Value := [.int .i64 b.len, .int .i64 b.e0, .int .i64 b.e1, .int .i64 b.f0, .int .i64 b.f1, .int .i64 b.s0, .int .i64 b.s1, .int .i64 b.gap, .int .i64 b.near, .slice b.A b.zs.length b.cap]
def bk0 : Bk := ⟨0, 0, 0, 0, 0, 0, 0, 0, 0, none, 0, []⟩
def fu0 : Fu := ⟨0, 0, 0, 0, 0, 0, 0, none, 0, []⟩
def greatF (f : Fu) (b : Bk) (n : Int) : Bool := decide (12 < f.hs.length) || decide (20 < b.zs.length) || decide (15 < n)
theorem rfGreat_any (f : Fu) (b : Bk) (n : Int) (w : World) :
    Calls Try.prog 25 #[.agg (fuc f).toArray, .agg (bkc b).toArray, .int .i64 n] w fun e w' => e = .returned (.bool (greatF f b n)) ∧ Below w.heap.size w w' := by
  have hg : Below w.heap.size w ((w.alloc (.cells (fuc f).toArray 28)).alloc (.cells (bkc b).toArray 34)) := ((Below.refl _ _).alloc (Nat.le_refl _) _).alloc (by simp) _
  unfold fuc bkc at hg ⊢
  have HG := Lib.hid hg
  clear hg
  by_cases h1 : 12 < f.hs.length
  · have h1z : decide ((12 : Int) < f.hs.length) = true := decide_eq_true (by omega)
    have e : greatF f b n = true := by simp [greatF, h1]
    rw [e]
    clear e h1
    go_enter Try.func25, Try.ntmps25
    go_wp2
    go_ret
    exact ⟨rfl, HG.out⟩
  have h1z : decide ((12 : Int) < f.hs.length) = false := decide_eq_false (by omega)
  by_cases h2 : 20 < b.zs.length
  · have h2z : decide ((20 : Int) < b.zs.length) = true := decide_eq_true (by omega)
    have e : greatF f b n = true := by simp [greatF, h2]
    rw [e]
    clear e h1 h2
    go_enter Try.func25, Try.ntmps25
    go_wp2
    go_ret
    exact ⟨rfl, HG.out⟩
  have h2z : decide ((20 : Int) < b.zs.length) = false := decide_eq_false (by omega)
  have e : greatF f b n = decide (15 < n) := by simp [greatF, h1, h2]
  rw [e]
  clear e h1 h2
  go_enter Try.func25, Try.ntmps25
  go_wp2
  go_ret
  exact ⟨rfl, HG.out⟩

end Go.Proofs.Ythjpgpelbagceaa
