/-
  A batch that comes in, opened.
-/
import Derived.Test.YtpnnlmaipcjkmaaGreatQV2
import Derived.Deep.Slices
import Derived.Test.YtpnnlmaipcjkmaaGreatQV30
set_option linter.all false
namespace Go.Proofs.YtpnnlmaipcjkmaaGreat
open Go.RowKit

structure Bt where
  water : Int
  borax : Int
  lo : Int
  hi : Int
  need : Int

def fl (sp o c : Int) : Int := Int.tdiv ((o - c) * sp) 1000
end Go.Proofs.YtpnnlmaipcjkmaaGreat

namespace Go.Proofs.YtpnnlmaipcjkmaaGreat
open Go.RowKit
open R6 (done done_ne done_me upd_ne upd_me)

attribute [local go_sem] gives

structure Sl where
  A : Option Addr
  c : Nat
  zs : List Int
def slv (s : Sl) : Value := .slice s.A s.zs.length s.c
def slvs (l : List Sl) : List Value := l.map slv
structure Rows (w : World) (B : Nat) (A : Option Addr) (l : List Sl) : Prop where
  va : Vals w B A (slvs l)
  each : ∀ s ∈ l, Ints w B s.A s.zs
theorem Rows.below {w w' : World} {B : Nat} {A : Option Addr} {l : List Sl} (h : Rows w B A l) (hb : Below B w w') : Rows w' B A l := ⟨h.va.below hb, fun s hs => (h.each s hs).below hb⟩
theorem Rows.mono {w : World} {B B' : Nat} {A : Option Addr} {l : List Sl} (h : Rows w B A l) (hB : B ≤ B') : Rows w B' A l := ⟨h.va.mono hB, fun s hs => (h.each s hs).mono hB⟩
theorem slvs_len (l : List Sl) : (slvs l).length = l.length := by simp [slvs]
theorem slvs_at (l : List Sl) (k : Nat) (hk : k < l.length) : (slvs l)[k]? = some (slv l[k]) := by simp [slvs, hk]

def shortL (l : List Sl) : Prop := l.length ≤ 1000000 ∧ ∀ s ∈ l, s.zs.length ≤ 1000000

structure BoxL (w0 : World) (x : Nat) (cs : Array Value) (ty : TypeId) (L : List (Nat × Nat)) (f : Nat → Int) (D : Nat → Bool) (σ : Nat → Value) (W : World) : Prop where
  bel : Below w0.heap.size w0 W
  box : W.heap[x]? = some (.cells cs ty (0, 0))
  new : ∀ e ∈ L, D e.1 = true → ∃ b, σ e.2 = .slice (some ⟨b, 0, none⟩) 1 1 ∧ W.heap[b]? = some (.cells #[.int .i64 (f e.1)] 3 (0, 0))
def boxLM (L : List (Nat × Nat)) (k t : Nat) : Bool := L.all fun e => e == (k, t) || !(k == e.1 || t == e.2)
section
variable {w0 W W' : World} {x : Nat} {cs : Array Value} {ty : TypeId} {L : List (Nat × Nat)} {f : Nat → Int} {D : Nat → Bool} {σ : Nat → Value}
theorem BoxL.next (h : BoxL w0 x cs ty L f D σ W) (hg : Grows W W') : BoxL w0 x cs ty L f D σ W' :=
  ⟨h.bel.trans (hg.mono h.bel.size), (hg.block _ (lt_of_heap h.box)).trans h.box, fun e he hD => let ⟨b, h1, h2⟩ := h.new e he hD; ⟨b, h1, (hg.block _ (lt_of_heap h2)).trans h2⟩⟩
theorem BoxL.made {k t : Nat} {n : Int} (h : BoxL w0 x cs ty L f D σ W) (hk : boxLM L k t = true) (hn : f k = n) : BoxL w0 x cs ty L f (done D k) (R4.upd σ (some t) (.slice (some ⟨W.heap.size, 0, none⟩) 1 1)) (W.alloc (.cells #[.int .i64 n] 3)) := by
  subst hn
  have h' := h.next (grow1 W (.cells #[.int .i64 (f k)] 3))
  refine ⟨h'.bel, h'.box, fun e he hD => ?_⟩
  have hk' := List.all_eq_true.1 hk e he
  by_cases he2 : e = (k, t)
  · subst he2
    exact ⟨_, upd_me, alloc_at0 _ _⟩
  · simp only [Bool.or_eq_true, Bool.not_eq_true', Bool.or_eq_false_iff, beq_eq_false_iff_ne, ne_eq, beq_iff_eq, he2, false_or] at hk'
    rw [done_ne (by omega)] at hD
    rw [upd_ne (by simpa using hk'.2)]
    exact h'.new e he hD
theorem BoxL.start (hb : W = w0.alloc (.cells cs ty)) (hD : ∀ k, D k = false) : BoxL w0 w0.heap.size cs ty L f D σ W.drew := by
  subst hb
  exact ⟨((Below.refl _ _).alloc (Nat.le_refl _) _).drew, alloc_at0 _ _, fun e _ h => by rw [hD] at h; cases h⟩
end

def btcells (t : Bt) (P : Value) : Array Value := #[.int .i64 t.water, .int .i64 t.borax, P, .int .i64 t.lo, .int .i64 t.hi, .int .i64 t.need]
end Go.Proofs.YtpnnlmaipcjkmaaGreat

namespace Go.Proofs.YtpnnlmaipcjkmaaGreat
open Go.ChangeShapes Go.WideShapes Go.ChangeAt Go.RowKit Go.Deep

theorem Tryz.own : ownKnob Tryz.prog.godebug = none := by kernel_rfl
section
variable {H : Type} {enc : TypeId × Value → H} {w : World} {base : Nat} {spare : Nat → Bool} {held : Bool}

end

end Go.Proofs.YtpnnlmaipcjkmaaGreat
