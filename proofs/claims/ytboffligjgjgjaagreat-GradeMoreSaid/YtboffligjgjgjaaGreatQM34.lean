/-
  A list that a region makes, as a class for R6; cells of tests.
-/
import Derived.Test.YtboffligjgjgjaaGreatQM32
import Derived.Test.YtboffligjgjgjaaGreatQM33
import Derived.Test.YtboffligjgjgjaaGreatQM29
set_option linter.all false
namespace Go.Proofs.YtboffligjgjgjaaGreat
open Go.RowKit
open R6 (done done_ne done_me upd_ne upd_me)

/-- A list that a region makes. -/
structure MadeC (w1 : World) (ka sl n : Nat) (ty : TypeId) (X : List Value) (D : Nat → Bool) (σ : Nat → Value) (W : World) : Prop where
  bel : Below w1.heap.size w1 W
  mkd : D ka = true → ∃ b, σ sl = .slice (some ⟨b, 0, none⟩) n n ∧ w1.heap.size ≤ b ∧ W.heap[b]? = some (.cells X.toArray ty (0, 0))
def madeK (ka sl k : Nat) (d : Option Nat) : Bool := !(k == ka || d == some sl)
section
variable {w1 W W' : World} {ka sl n : Nat} {ty : TypeId} {X : List Value} {D : Nat → Bool} {σ : Nat → Value}
theorem MadeC.start (hD : ∀ k, D k = false) (h : Below w1.heap.size w1 W) : MadeC w1 ka sl n ty X D σ W := ⟨h, fun h => by rw [hD] at h; cases h⟩
theorem MadeC.move {k : Nat} {d : Option Nat} {v : Value} (h : MadeC w1 ka sl n ty X D σ W) (hk : madeK ka sl k d = true) : MadeC w1 ka sl n ty X (done D k) (R4.upd σ d v) W := by
  simp only [madeK, Bool.not_eq_true', Bool.or_eq_false_iff, beq_eq_false_iff_ne, ne_eq] at hk
  have e := done_ne (D := D) (k := k) (j := ka) (by omega)
  have u := upd_ne (ρ := σ) (v := v) hk.2
  exact ⟨h.bel, by rw [e, u]; exact h.mkd⟩
theorem MadeC.next (h : MadeC w1 ka sl n ty X D σ W) (hg : Grows W W') : MadeC w1 ka sl n ty X D σ W' :=
  ⟨h.bel.trans (hg.mono h.bel.size), fun e => let ⟨b, h1, h2, h3⟩ := h.mkd e; ⟨b, h1, h2, (hg.block _ (lt_of_heap h3)).trans h3⟩⟩
theorem MadeC.made {cs : Array Value} (h : MadeC w1 ka sl n ty X D σ W) (hc : cs = X.toArray) : MadeC w1 ka sl n ty X (done D ka) (R4.upd σ (some sl) (.slice (some ⟨W.heap.size, 0, none⟩) n n)) (W.alloc (.cells cs ty)) := by
  subst hc
  exact ⟨h.bel.trans ((grow1 W _).mono h.bel.size), fun _ => ⟨_, upd_me, h.bel.size, alloc_at0 _ _⟩⟩
end
theorem tcl_pair (a b : Ts) : [a, b].flatMap tcl = tcl a ++ tcl b := by simp
theorem grOk_of {gs : List Gd} {vary : Int} {ps : List Pol} {ts : List Ts} (h : gChk gs vary ps ts = 0) : GrOk gs vary ps ts := by
  obtain ⟨h1, h2⟩ := gChk_ok h
  obtain ⟨⟨a, b⟩, c, d, e⟩ := okSheet_parts h2
  obtain ⟨f, g, k⟩ := okGrading_parts h1
  exact ⟨g, f, a, b, c, d, e, k⟩
def sClash (gs : List Gd) (vary : Int) (ps : List Pol) (ts : List Ts) : List Int × Int := if gChk gs vary ps ts = 0 then (clashL gs vary ps ts, 0) else ([], gChk gs vary ps ts)
def ClashPost (w : World) (r : List Int × Int) (e : Ending) (w' : World) : Prop := ∃ A c, e = .returned (.tuple #[.slice A r.1.length c, .int .i64 r.2]) ∧ Ints w' w'.heap.size A r.1 ∧ Below w.heap.size w w'
theorem cells_below5 {w W : World} {n c o : Nat} {L : List Value} (hb : Below n w W) (hn : c < n) (hc : ∀ j v, L[j]? = some v → w.cell? ⟨c, o + j, none⟩ = some v) : ∀ j v, L[j]? = some v → W.cell? ⟨c, o + j, none⟩ = some v :=
  fun j v hv => (hb.cell (p := ⟨c, o + j, none⟩) hn).trans (hc j v hv)
theorem hik_dec {i k : Nat} (h : i < k) : decide (i < k) = true := by simpa using h

end Go.Proofs.YtboffligjgjgjaaGreat
