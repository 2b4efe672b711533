/-
  Which dryings and ponds are valid; what is left.
-/
import Derived.Test.YthjpgpelbagceaaCdA
set_option linter.all false
namespace Go.Proofs.Ythjpgpelbagceaa
open Go.RowKit
open R6 (done done_ne done_me upd_ne upd_me)

attribute [local go_sem] gives

theorem ints_lit {w : World} {g : Nat} {cs : Array Value} (zs : List Int) (h : w.heap[g]? = some (.cells cs 3 (0, 0))) (he : cs = (ints zs).toArray) : Ints w w.heap.size (some ⟨g, 0, none⟩) zs := fun _ =>
  ⟨g, 0, rfl, (Array.getElem?_eq_some_iff.1 h).1, fun k hk => by subst he; rw [Nat.zero_add]; exact (cell_of_row w g k _ _ _ h).trans (ints_at zs k hk)⟩

/-- A span is one, and lies in another one. -/
def okS (lo hi a b : Int) : Bool := decide (lo ≤ hi) && allB a b [lo, hi]

/-- A box, and, where it is wanted, a list of one number that a region makes. -/
structure BoxC (w0 : World) (x : Nat) (cs : Array Value) (ty : TypeId) (on : Bool) (kb tb : Nat) (n : Int) (D : Nat → Bool) (σ : Nat → Value) (W : World) : Prop where
  bel : Below w0.heap.size w0 W
  box : W.heap[x]? = some (.cells cs ty (0, 0))
  new : on = true → D kb = true → ∃ b, σ tb = .slice (some ⟨b, 0, none⟩) 1 1 ∧ W.heap[b]? = some (.cells #[.int .i64 n] 3 (0, 0))
def boxK (kb tb k : Nat) (d : Option Nat) : Bool := !(k == kb || d == some tb)
section
variable {w0 W W' : World} {x : Nat} {cs : Array Value} {ty : TypeId} {on : Bool} {kb tb : Nat} {n : Int} {D : Nat → Bool} {σ : Nat → Value}
theorem BoxC.move {k : Nat} {d : Option Nat} {v : Value} (h : BoxC w0 x cs ty on kb tb n D σ W) (hk : boxK kb tb k d = true) : BoxC w0 x cs ty on kb tb n (done D k) (R4.upd σ d v) W := by
  simp only [boxK, Bool.not_eq_true', Bool.or_eq_false_iff, beq_eq_false_iff_ne, ne_eq] at hk
  have e1 := done_ne (D := D) (k := k) (j := kb) (by omega)
  have u1 := upd_ne (ρ := σ) (v := v) hk.2
  exact ⟨h.bel, h.box, by rw [e1, u1]; exact h.new⟩
theorem BoxC.skip {D' : Nat → Bool} {σ' : Nat → Value} (h : BoxC w0 x cs ty false kb tb n D σ W) : BoxC w0 x cs ty false kb tb n D' σ' W := ⟨h.bel, h.box, fun e => by cases e⟩
theorem BoxC.next (h : BoxC w0 x cs ty on kb tb n D σ W) (hg : Grows W W') : BoxC w0 x cs ty on kb tb n D σ W' :=
  ⟨h.bel.trans (hg.mono h.bel.size), (hg.block _ (lt_of_heap h.box)).trans h.box, fun e f => let ⟨b, h1, h2⟩ := h.new e f; ⟨b, h1, (hg.block _ (lt_of_heap h2)).trans h2⟩⟩
theorem BoxC.made (h : BoxC w0 x cs ty on kb tb n D σ W) : BoxC w0 x cs ty on kb tb n (done D kb) (R4.upd σ (some tb) (.slice (some ⟨W.heap.size, 0, none⟩) 1 1)) (W.alloc (.cells #[.int .i64 n] 3)) :=
  ⟨(h.next (grow1 _ _)).bel, (h.next (grow1 _ _)).box, fun _ _ => ⟨_, upd_me, alloc_at0 _ _⟩⟩
theorem BoxC.start (hb : W = w0.alloc (.cells cs ty)) (hD : D kb = false) : BoxC w0 w0.heap.size cs ty on kb tb n D σ W.drew := by
  subst hb
  exact ⟨((Below.refl _ _).alloc (Nat.le_refl _) _).drew, alloc_at0 _ _, fun _ e => by rw [hD] at e; cases e⟩
end

/-- A drying: between which numbers it is wet, what part is lost each day, and how wet it may be. -/
structure Dr where
  wl : Int
  wh : Int
  ll : Int
  lh : Int
  most : Int
def dcells (d : Dr) : Array Value := #[.int .i64 d.wl, .int .i64 d.wh, .int .i64 d.ll, .int .i64 d.lh, .int .i64 d.most]
def okDr (d : Dr) : Bool := okS d.wl d.wh 0 1000 && okS d.ll d.lh 0 1000 && allB 0 1000 [d.most]
/-- A pond: what part flows out each day, and its limit. -/
structure Po where
  ol : Int
  oh : Int
  lim : Int
def pcells (p : Po) : Array Value := #[.int .i64 p.ol, .int .i64 p.oh, .int .i64 p.lim]
def okPo (p : Po) : Bool := okS p.ol p.oh 0 1000 && allB 0 1000000 [p.lim]
def okDrains (zs : List Int) : Bool := decide (zs.length ≤ 40) && allB 0 100000 zs

/-- What is left of an amount when a part of it is taken. -/
def leftZ (x p : Int) : Int := x - x * p / 1000
theorem leftZ_bnd {x p : Int} (hx : 0 ≤ x) (hp : 0 ≤ p) (hp1 : p ≤ 1000) : 0 ≤ leftZ x p ∧ leftZ x p ≤ x := by
  have h1 : 0 ≤ x * p := Int.mul_nonneg hx hp
  have h2 : x * p ≤ x * 1000 := Int.mul_le_mul_of_nonneg_left hp1 hx
  unfold leftZ
  omega

end Go.Proofs.Ythjpgpelbagceaa
