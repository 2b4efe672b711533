/-
  A batch after some hours (the program's).
-/
import Derived.TacticsInMore
import Derived.LoopNIn
import Derived.LoopIn
import Derived.Test.YtpnnlmaipcjkmaaGreatQV32
import Derived.Test.YtpnnlmaipcjkmaaGreatQV15
import Derived.RangeFuncBound
import Derived.RangeFuncCalls
import Derived.Shelf.Abstract
set_option linter.all false
namespace Go.Proofs.YtpnnlmaipcjkmaaGreat
open Go.RowKit

attribute [local go_sem] Oper.semAt_some

theorem Rows.same {w w' : World} {B : Nat} {A : Option Addr} {l : List Sl} (h : Rows w B A l) (hk : ∀ k, k < B → w'.heap[k]? = w.heap[k]?) : Rows w' B A l :=
  ⟨fun hl => let ⟨b, off, e, hb, hc⟩ := h.va hl; ⟨b, off, e, hb, fun k v hv => (World.cell?_of_block (w := w) (hk b hb)).trans (hc k v hv)⟩,
   fun s hs hl => let ⟨b, off, e, hb, hc⟩ := h.each s hs hl; ⟨b, off, e, hb, fun k hv => (World.cell?_of_block (w := w) (hk b hb)).trans (hc k hv)⟩⟩

end Go.Proofs.YtpnnlmaipcjkmaaGreat
