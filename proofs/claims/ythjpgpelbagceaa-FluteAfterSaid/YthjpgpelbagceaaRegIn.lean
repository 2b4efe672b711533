/-
  OUR OWN: a drawn region walked by R6 in a round of a range over a function.
-/
import Derived.Test.YthjpgpelbagceaaG1
import Derived.OrdersIn
import Derived.TacticsIn
import Derived.OwnWalkIn
import Derived.RangeFuncCalls
set_option linter.all false
namespace Go.Proofs.Ythjpgpelbagceaa
open Go.RowKit

section
variable {P : Program} {ops : Array Oper} {Q : Exit → Act → World → Prop}

theorem rowsIn_of {row : String} {args : Array Value} {w : World} {R R' : Value → World → Prop} {l n : Nat} (h : Rows P row args w R) (hr : ∀ v w', R v w' → R' v w') : RowsIn (Fence.wide.inRound l) n P row args w R' :=
  fun c cs _ => let ⟨v, w', r, s⟩ := h c cs; ⟨v, w', hr _ _ r, stepsIn_wide.2 s⟩

theorem callsIn_of {f : FuncId} {args : Array Value} {w : World} {R R' : Ending → World → Prop} {l n : Nat} (h : Calls P f args w R) (hr : ∀ e w', R e w' → R' e w') : CallsIn (Fence.wide.inRound l) n P f args w R' :=
  CallsIn.inRound l (callsIn_wide.2 (h.mono hr))

/-- What an operation does anywhere it does in a round. -/
theorem wpIn_of_wp {o : Oper} {a : Act} {w : World} {K K' : Act → World → Prop} (l n : Nat) (hnd : ∀ c, o.op ≠ .defer c) (h : o.wp P a w K Q) (hK : ∀ a w, K a w → K' a w) : o.wpIn (Fence.wide.inRound l) n P a w K' Q := by
  unfold Oper.wp at h
  unfold Oper.wpIn
  refine ⟨fun f _ => trivial, ?_⟩
  rw [Oper.semAt_plain _ _ _ hnd]
  generalize (execOp a.eval o).run P w = r at h
  cases r with
  | ok x w' =>
    cases x <;> simp only [Oper.upon, Oper.uponIn] at h ⊢ <;>
      first
        | exact hK _ _ h
        | exact ⟨fun h => (by simp [Fence.wide] at h), callsIn_of h (fun e w'' he => by cases e <;> first | exact hK _ _ he | exact he)⟩
        | exact ⟨fun h => (by simp [Fence.wide] at h), rowsIn_of h (fun v w'' he => hK _ _ he)⟩
        | exact h.elim
  | halt x w' => cases x <;> simp only [Oper.upon, Oper.uponIn] at h ⊢ <;> exact h

def noDefer (ops : Array Oper) : Bool := ops.all fun o => match o.op with
  | .defer _ => false
  | _ => true
theorem noDefer_ok (h : noDefer ops = true) {i : Nat} {o : Oper} (ho : ops[i]? = some o) : ∀ c, o.op ≠ .defer c := fun c hc => by
  have := Array.all_eq_true.1 h i (Array.getElem?_eq_some_iff.1 ho).1
  rw [(Array.getElem?_eq_some_iff.1 ho).2, hc] at this
  cases this

theorem wpAnyIn_of (l n : Nat) (hd : noDefer ops = true) (hQ : ¬ LetsOut Q) : ∀ (fuel : Nat) (listed : Array Bool) (a : Act) (w : World), wpAny P .any ops Q fuel listed a w → wpAnyIn (Fence.wide.inRound l) n P .any ops Q fuel listed a w
  | 0, _, _, _, h => h
  | fuel + 1, listed, a, w, h => by
    refine ⟨h.1, fun i hi => ?_⟩
    have hx := h.2 i hi
    unfold wpOp at hx
    unfold wpOpIn
    cases ho : ops[i]? with
    | none =>
      rw [ho] at hx
      exact wpAnyIn_of l n hd hQ fuel _ _ _ hx
    | some o =>
      rw [ho] at hx
      simp only at hx ⊢
      by_cases hw : Region.wanted o (yielded ops a.tmps) = true
      · rw [if_pos hw] at hx ⊢
        exact wpIn_of_wp l n (noDefer_ok hd ho) (hx.resolve_right fun h => hQ h.2) (fun a w => wpAnyIn_of l n hd hQ fuel _ a w)
      · rw [if_neg hw] at hx ⊢
        exact ⟨fun f _ => trivial, wpAnyIn_of l n hd hQ fuel _ _ _ hx⟩

variable {C : (Nat → Bool) → (Nat → Value) → World → Prop}
/-- Nothing but the end is left. -/
def onlyN (Q : Exit → Act → World → Prop) : Exit → Act → World → Prop
  | .normal, a, w => Q .normal a w
  | _, _, _ => False
theorem wpIn_walk {l m : Nat} {id : Nat} {a0 : Act} {w0 : World} (n : Nat) (hm : P.follows .mixedOrders = true) (hB : R4.regB ops n = true) (hd : noDefer ops = true) (hn : a0.tmps.size = n) (hC : C (fun _ => false) (fun t => a0.tmps.getD t undef) w0.drew)
    (h : R6.WalkR P ops C (Q .normal) 0 ops.toList (fun _ => a0)) : (Code.region id ops true).wpIn (Fence.wide.inRound l) m P Q a0 w0 := by
  obtain ⟨ks, hSt⟩ := h
  refine Code.wpIn_mono (Q := onlyN Q) (fun e a w hq => by cases e <;> first | exact hq | exact hq.elim) ?_
  refine wpIn_region_any hm (wpAnyIn_of l m hd (fun ⟨_, _, h⟩ => h) _ _ _ _ (R6.walk_sound (Q := onlyN Q) (R4.regB_ok hB) hn hSt ops.size (Array.replicate ops.size false) a0 _ ?_ ?_))
  · refine ⟨by simp, rfl, rfl, ?_, fun j o ho hl => by simp [Array.getElem?_replicate] at hl; split at hl <;> simp at hl, fun _ _ => rfl, fun j o kd ho hk hl => by simp [Array.getElem?_replicate] at hl; split at hl <;> simp at hl⟩
    have e : (fun j => (Array.replicate ops.size false).getD j false) = fun _ => false := by
      funext j
      simp [Array.getElem?_replicate]
      split <;> rfl
    rw [e]
    exact hC
  · simp [List.countP_replicate]
end

end Go.Proofs.Ythjpgpelbagceaa
