/-
  Soaks gone through; the map of what was treated.
-/
import Derived.Test.YtpnnlmaipcjkmaaGreatQV39
import Derived.Test.YtpnnlmaipcjkmaaGreatQV41
set_option linter.all false
namespace Go.Proofs.YtpnnlmaipcjkmaaGreat
open Go.RowKit
open R6 (done done_ne done_me upd_ne upd_me)

attribute [local go_sem] gives

structure Sk where
  t : Bt
  l : List Sl
  A : Option Addr
  c : Nat
  h : Int
def skb (x : Sk) : List Value := [.int .i64 x.t.water, .int .i64 x.t.borax, .slice x.A x.l.length x.c, .int .i64 x.t.lo, .int .i64 x.t.hi, .int .i64 x.t.need]
def skl (x : Sk) : List Value := [.int .i64 x.t.water, .int .i64 x.t.borax, .slice x.A x.l.length x.c, .int .i64 x.t.lo, .int .i64 x.t.hi, .int .i64 x.t.need, .int .i64 x.h]
theorem skl_len (x : Sk) : (skl x).length = 7 := rfl
structure SksAt (w : World) (B : Nat) (l : List Sk) (A : Option Addr) : Prop where
  v : Vals w B A (l.flatMap skl)
  r : ∀ x ∈ l, Rows w B x.A x.l
  s : ∀ x ∈ l, shortL x.l
theorem SksAt.below {w w' : World} {B : Nat} {l : List Sk} {A : Option Addr} (h : SksAt w B l A) (hb : Below B w w') : SksAt w' B l A := ⟨h.v.below hb, fun x hx => (h.r x hx).below hb, h.s⟩
theorem SksAt.mono {w : World} {B B' : Nat} {l : List Sk} {A : Option Addr} (h : SksAt w B l A) (hb : B ≤ B') : SksAt w B' l A := ⟨h.v.mono hb, fun x hx => (h.r x hx).mono hb, h.s⟩
theorem rowBatchA : RowTy Tryz.prog 63 6 := ⟨⟨_, Tryz.underlying63, rfl⟩, by kernel_rfl⟩
end Go.Proofs.YtpnnlmaipcjkmaaGreat

namespace Go.Proofs.YtpnnlmaipcjkmaaGreat
open Go.RowKit Go.Maps
open R6 (done done_ne done_me upd_ne upd_me)

attribute [local go_sem] gives

def zsl : Value := .slice none 0 0
structure MapT (W : World) (mb base m n : Nat) (T : Nat → List Int) (D : DataW Value) : Prop where
  own : W.ownsMap Tryz.prog 3 rdE mb m D
  at_ : ∀ k : Nat, Maps.has D (.int .i64 (k : Int)) = true → k < n ∧ ∃ A c, D.atKey (.int .i64 (k : Int)) (.held zsl) = .held (.slice A (T k).length c) ∧ OwnU W base (.slice A (T k).length c) (T k)
theorem MapT.made {W : World} {mb base n : Nat} {T : Nat → List Int} (h : W.heap[mb]? = some (.map #[] 0)) : MapT W mb base 0 n T (.map []) := by
  refine ⟨⟨#[], 0, h, ?_⟩, fun k hk => by simp [Maps.has] at hk⟩
  have := World.ownsMap_made (H := Value) W Tryz.prog 3 rdE
  obtain ⟨es, cl, hb, r⟩ := this
  rw [World.alloc_heap_new] at hb
  simp only [Option.some.injEq, Obj.map.injEq] at hb
  obtain ⟨rfl, rfl⟩ := hb
  exact r
theorem ownU_at {W W' : World} {base : Nat} {v : Value} {zs : List Int} (h : OwnU W base v zs) (hk : ∀ k, base ≤ k → k < W.heap.size → W'.heap[k]? = W.heap[k]?) : OwnU W' base v zs := by
  refine ⟨h.1, ?_⟩
  rcases h.2 with h6 | ⟨g, cap, cur, hv, hb, hh, h7⟩
  · exact .inl h6
  · exact .inr ⟨g, cap, cur, hv, hb, (hk g hb (lt_of_heap hh)).trans hh, h7⟩
theorem MapT.same {W W' : World} {mb base m n : Nat} {T : Nat → List Int} {D : DataW Value} (h : MapT W mb base m n T D) (e : W'.heap[mb]? = W.heap[mb]?) (hk : ∀ k, base ≤ k → k < W.heap.size → W'.heap[k]? = W.heap[k]?) : MapT W' mb base m n T D := by
  refine ⟨?_, fun k hk2 => ?_⟩
  · have h1 := h.own
    unfold World.ownsMap at h1 ⊢
    rw [e]
    exact h1
  · obtain ⟨h3, A, c, h4, h5⟩ := h.at_ k hk2
    exact ⟨h3, A, c, h4, ownU_at h5 hk⟩
theorem MapT.lt {W : World} {mb base m n : Nat} {T : Nat → List Int} {D : DataW Value} (h : MapT W mb base m n T D) : mb < W.heap.size := h.own.lt
theorem MapT.grows {W W' : World} {mb base m n : Nat} {T : Nat → List Int} {D : DataW Value} (h : MapT W mb base m n T D) (hg : Grows W W') : MapT W' mb base m n T D := h.same (hg.block _ h.lt) (fun k _ hk => hg.block k hk)
section
variable {op : Oper} {ops : Array Oper} {rest : List Oper} {a : Act} {w : World} {Q : Exit → Act → World → Prop} {R : Value → World → Prop} {M base m n : Nat} {T : Nat → List Int} {D : DataW Value}
end

end Go.Proofs.YtpnnlmaipcjkmaaGreat
