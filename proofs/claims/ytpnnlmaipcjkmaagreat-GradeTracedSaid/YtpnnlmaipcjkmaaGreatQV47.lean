/-
  Which poles are fit by the books of vats (the program's Fit).
-/
import Derived.Test.YtpnnlmaipcjkmaaGreatQV46
import Derived.Test.YtpnnlmaipcjkmaaGreatQV24
set_option linter.all false
namespace Go.Proofs.YtpnnlmaipcjkmaaGreat
open Go.RowKit Go.Maps
open R6 (done done_ne done_me upd_ne upd_me)

attribute [local go_sem] gives

structure FtM (w : World) (mb kb m n : Nat) (T : Nat → List Int) (Y : List Int) (D : DataW Value) (W : World) : Prop where
  bel : Below w.heap.size w W
  map : MapT W mb (kb + 1) m n T D
  kn : W.heap[kb]? = some (.cells (u8s Y).toArray 5 (0, 0))
section
variable {w W W' : World} {mb kb m n : Nat} {T : Nat → List Int} {Y Y' : List Int} {D : DataW Value}
theorem FtM.grows (h : FtM w mb kb m n T Y D W) (hg : Grows W W') : FtM w mb kb m n T Y D W' := ⟨h.bel.trans (hg.mono h.bel.size), h.map.grows hg, (hg.block _ (lt_of_heap h.kn)).trans h.kn⟩
end
structure TrtC (wq : World) (L : List Int) (Ψ : World → Prop) (D : Nat → Bool) (σ : Nat → Value) (W : World) : Prop where
  bel : D 11 = false → Below wq.heap.size wq W
  res : D 7 = true → ∃ A c er, σ 51 = .tuple #[.slice A L.length c, .int .i64 er] ∧ (D 11 = false → OwnU W wq.heap.size (.slice A L.length c) L)
  post : D 11 = true → Ψ W
section
variable {wq W W' : World} {L : List Int} {Ψ : World → Prop} {D : Nat → Bool} {σ : Nat → Value}
theorem TrtC.fin (h : TrtC wq L Ψ D σ W) (h7 : D 7 = true) (hΨ : Ψ W') : TrtC wq L Ψ (done D 11) σ W' := by
  have e7 := done_ne (D := D) (k := 11) (j := 7) (by decide)
  obtain ⟨A, c, er, hv, -⟩ := h.res h7
  exact ⟨fun e => (by rw [done_me] at e; cases e), fun _ => ⟨A, c, er, hv, fun e => (by rw [done_me] at e; cases e)⟩, fun _ => hΨ⟩
end
end Go.Proofs.YtpnnlmaipcjkmaaGreat
