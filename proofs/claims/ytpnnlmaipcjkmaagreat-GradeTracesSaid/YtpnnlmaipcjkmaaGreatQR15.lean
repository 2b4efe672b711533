/-
  OUR OWN law of 'for .. := range seq { .. }' over an iterator that keeps its state in cells of its own, with any number of captured blocks (Iter's law, with a predicate in place of one block).
-/
import Derived.OrdersIn
import Derived.TacticsIn
import Derived.OwnWalkIn
import Derived.RangeFuncCalls
import Derived.Test.YtpnnlmaipcjkmaaGreatQR1
set_option linter.all false
namespace Go.Proofs.YtpnnlmaipcjkmaaGreat
open Go.RowKit

section
variable {P : Program} {ops : Array Oper} {Q : Exit → Act → World → Prop}

theorem rowsIn_of {row : String} {args : Array Value} {w : World} {R R' : Value → World → Prop} {l n : Nat} (h : Rows P row args w R) (hr : ∀ v w', R v w' → R' v w') : RowsIn (Fence.wide.inRound l) n P row args w R' :=
  fun c cs _ => let ⟨v, w', r, s⟩ := h c cs; ⟨v, w', hr _ _ r, stepsIn_wide.2 s⟩

theorem callsIn_of {f : FuncId} {args : Array Value} {w : World} {R R' : Ending → World → Prop} {l n : Nat} (h : Calls P f args w R) (hr : ∀ e w', R e w' → R' e w') : CallsIn (Fence.wide.inRound l) n P f args w R' :=
  CallsIn.inRound l (callsIn_wide.2 (h.mono hr))

theorem wpIn_of_wp {o : Oper} {a : Act} {w : World} {K K' : Act → World → Prop} (l n : Nat) (hnd : ∀ c, o.op ≠ .defer c) (h : o.wp P a w K Q) (hK : ∀ a w, K a w → K' a w) : o.wpIn (Fence.wide.inRound l) n P a w K' Q := by
  unfold Oper.wp at h
  unfold Oper.wpIn
  refine ⟨fun f _ => trivial, ?_⟩
  rw [Oper.semAt_plain _ _ _ hnd]
  generalize (execOp a.eval o).run P w = r at h
  cases r with
  | ok x w' =>
    cases x <;> simp only [Oper.upon, Oper.uponIn] at h ⊢ <;>
      first
        | exact hK _ _ h
        | exact ⟨fun h => (by simp [Fence.wide] at h), callsIn_of h (fun e w'' he => by cases e <;> first | exact hK _ _ he | exact he)⟩
        | exact ⟨fun h => (by simp [Fence.wide] at h), rowsIn_of h (fun v w'' he => hK _ _ he)⟩
        | exact h.elim
  | halt x w' => cases x <;> simp only [Oper.upon, Oper.uponIn] at h ⊢ <;> exact h

def noDefer (ops : Array Oper) : Bool := ops.all fun o => match o.op with
  | .defer _ => false
  | _ => true
theorem noDefer_ok (h : noDefer ops = true) {i : Nat} {o : Oper} (ho : ops[i]? = some o) : ∀ c, o.op ≠ .defer c := fun c hc => by
  have := Array.all_eq_true.1 h i (Array.getElem?_eq_some_iff.1 ho).1
  rw [(Array.getElem?_eq_some_iff.1 ho).2, hc] at this
  cases this

theorem wpAnyIn_of (l n : Nat) (hd : noDefer ops = true) (hQ : ¬ LetsOut Q) : ∀ (fuel : Nat) (listed : Array Bool) (a : Act) (w : World), wpAny P .any ops Q fuel listed a w → wpAnyIn (Fence.wide.inRound l) n P .any ops Q fuel listed a w
  | 0, _, _, _, h => h
  | fuel + 1, listed, a, w, h => by
    refine ⟨h.1, fun i hi => ?_⟩
    have hx := h.2 i hi
    unfold wpOp at hx
    unfold wpOpIn
    cases ho : ops[i]? with
    | none =>
      rw [ho] at hx
      exact wpAnyIn_of l n hd hQ fuel _ _ _ hx
    | some o =>
      rw [ho] at hx
      simp only at hx ⊢
      by_cases hw : Region.wanted o (yielded ops a.tmps) = true
      · rw [if_pos hw] at hx ⊢
        exact wpIn_of_wp l n (noDefer_ok hd ho) (hx.resolve_right fun h => hQ h.2) (fun a w => wpAnyIn_of l n hd hQ fuel _ a w)
      · rw [if_neg hw] at hx ⊢
        exact ⟨fun f _ => trivial, wpAnyIn_of l n hd hQ fuel _ _ _ hx⟩

variable {C : (Nat → Bool) → (Nat → Value) → World → Prop}
def onlyN (Q : Exit → Act → World → Prop) : Exit → Act → World → Prop
  | .normal, a, w => Q .normal a w
  | _, _, _ => False
theorem wpIn_walk {l m : Nat} {id : Nat} {a0 : Act} {w0 : World} (n : Nat) (hm : P.follows .mixedOrders = true) (hB : R4.regB ops n = true) (hd : noDefer ops = true) (hn : a0.tmps.size = n) (hC : C (fun _ => false) (fun t => a0.tmps.getD t undef) w0.drew)
    (h : R6.WalkR P ops C (Q .normal) 0 ops.toList (fun _ => a0)) : (Code.region id ops true).wpIn (Fence.wide.inRound l) m P Q a0 w0 := by
  obtain ⟨ks, hSt⟩ := h
  refine Code.wpIn_mono (Q := onlyN Q) (fun e a w hq => by cases e <;> first | exact hq | exact hq.elim) ?_
  refine wpIn_region_any hm (wpAnyIn_of l m hd (fun ⟨_, _, h⟩ => h) _ _ _ _ (R6.walk_sound (Q := onlyN Q) (R4.regB_ok hB) hn hSt ops.size (Array.replicate ops.size false) a0 _ ?_ ?_))
  · refine ⟨by simp, rfl, rfl, ?_, fun j o ho hl => by simp [Array.getElem?_replicate] at hl; split at hl <;> simp at hl, fun _ _ => rfl, fun j o kd ho hk hl => by simp [Array.getElem?_replicate] at hl; split at hl <;> simp at hl⟩
    have e : (fun j => (Array.replicate ops.size false).getD j false) = fun _ => false := by
      funext j
      simp [Array.getElem?_replicate]
      split <;> rfl
    rw [e]
    exact hC
  · simp [List.countP_replicate]
end

end Go.Proofs.YtpnnlmaipcjkmaaGreat

namespace Go.Proofs.YtpnnlmaipcjkmaaGreat
namespace R7
open R4 (upd slot_upd)
open R6 (needsI Knows needsI_done needsI_pre ancB ancB_ok done done_ne done_me upd_ne upd_me)

def givesF (F : Fence) (m : Nat) (P : Program) (o : Oper) (a : Act) (w : World) (R : Value → World → Prop) : Prop :=
  ∀ (a' : Act) (K : Act → World → Prop) (Q : Exit → Act → World → Prop), execOp a'.eval o = execOp a.eval o → (∀ v w', R v w' → K (a'.put o.dst v) w') → o.wpIn F m P a' w K Q

theorem wpIn_of_wp0 {P : Program} {o : Oper} {a : Act} {w : World} {K : Act → World → Prop} {Q : Exit → Act → World → Prop} (n : Nat) (hnd : ∀ c, o.op ≠ .defer c) (h : o.wp P a w K Q) : o.wpIn Fence.wide n P a w K Q := by
  unfold Oper.wp at h
  unfold Oper.wpIn
  refine ⟨fun f _ => trivial, ?_⟩
  rw [Oper.semAt_plain _ _ _ hnd]
  generalize (execOp a.eval o).run P w = r at h
  cases r with
  | ok x w' =>
    cases x <;> simp only [Oper.upon, Oper.uponIn] at h ⊢ <;>
      first
        | exact h
        | exact ⟨fun h => (by simp [Fence.wide] at h), callsIn_wide.2 h⟩
        | exact ⟨fun h => (by simp [Fence.wide] at h), fun c cs _ => let ⟨v, w', r, s⟩ := h c cs; ⟨v, w', r, stepsIn_wide.2 s⟩⟩
        | exact h.elim
  | halt x w' => cases x <;> simp only [Oper.upon, Oper.uponIn] at h ⊢ <;> exact h

theorem givesF.of {P : Program} {o : Oper} {a : Act} {w : World} {R : Value → World → Prop} {m : Nat} (hnd : ∀ c, o.op ≠ .defer c) (h : gives P o a w R) : givesF Fence.wide m P o a w R :=
  fun _ _ _ hev hK => wpIn_of_wp0 m hnd (h.wp hev hK)

section
variable (F : Fence) (m : Nat) (P : Program) (ops : Array Oper) (C : (Nat → Bool) → (Nat → Value) → World → Prop) (QN : Act → World → Prop)

inductive Kd where
  | un
  | det (c : Value)
  | nd (d : Nat)
  | fn (u : Nat) (G : Value → Value)

def ent : Kd → (Nat → Value) → Value
  | .un, _ => undef
  | .det c, _ => c
  | .nd d, ρ => ρ d
  | .fn u G, ρ => G (ρ u)
def nextA (A : (Nat → Value) → Act) (o : Oper) (kd : Kd) : (Nat → Value) → Act := fun ρ => (A ρ).put o.dst (ent kd ρ)

def StepOk (k : Nat) (o : Oper) (kd : Kd) (A : (Nat → Value) → Act) : Prop :=
  match kd with
  | .un => (∀ ρ, Region.wanted o (yielded ops (A ρ).tmps) = false) ∧ ∀ D ρ w, Knows ops k D → C D ρ w → C (done D k) (upd ρ o.dst undef) w
  | .det c => (∀ ρ, Region.wanted o (yielded ops (A ρ).tmps) = true) ∧ ∀ D ρ w, Knows ops k D → C D ρ w → givesF F m P o (A ρ) w (fun v w' => v = c ∧ C (done D k) (upd ρ o.dst v) w')
  | .nd d => (∀ ρ, Region.wanted o (yielded ops (A ρ).tmps) = true) ∧ (∀ D ρ w, Knows ops k D → C D ρ w → givesF F m P o (A ρ) w (fun v w' => C (done D k) (upd ρ o.dst v) w')) ∧ o.dst = some d
  | .fn u G => (∀ ρ, Region.wanted o (yielded ops (A ρ).tmps) = true) ∧ ancB ops k u = true ∧ ∀ D ρ w, Knows ops k D → C D ρ w → givesF F m P o (A ρ) w (fun v w' => v = G (ρ u) ∧ C (done D k) (upd ρ o.dst v) w')

def Steps : Nat → List Oper → List Kd → ((Nat → Value) → Act) → Prop
  | k, [], [], A => ∀ D ρ w, (∀ j, j < k → D j = true) → C D ρ w → QN (A ρ) w
  | k, o :: l, kd :: ks, A => StepOk F m P ops C k o kd A ∧ Steps (k + 1) l ks (nextA A o kd)
  | _, _, _, _ => False

def WalkR (k : Nat) (l : List Oper) (A : (Nat → Value) → Act) : Prop := ∃ ks, Steps F m P ops C QN k l ks A

variable {F m P ops C QN}

variable {k : Nat}
theorem WalkR.un {o : Oper} {l : List Oper} {A : (Nat → Value) → Act} (hw : ∀ ρ, Region.wanted o (yielded ops (A ρ).tmps) = false) (hu : ∀ D ρ w, Knows ops k D → C D ρ w → C (done D k) (upd ρ o.dst undef) w)
    (h : WalkR F m P ops C QN (k + 1) l (fun ρ => (A ρ).put o.dst undef)) : WalkR F m P ops C QN k (o :: l) A :=
  h.elim fun ks hk => ⟨.un :: ks, ⟨hw, hu⟩, hk⟩
theorem WalkR.det {o : Oper} {l : List Oper} {A : (Nat → Value) → Act} {c : Value} (hw : ∀ ρ, Region.wanted o (yielded ops (A ρ).tmps) = true)
    (hg : ∀ D ρ w, Knows ops k D → C D ρ w → givesF F m P o (A ρ) w (fun v w' => v = c ∧ C (done D k) (upd ρ o.dst v) w')) (h : WalkR F m P ops C QN (k + 1) l (fun ρ => (A ρ).put o.dst c)) : WalkR F m P ops C QN k (o :: l) A :=
  h.elim fun ks hk => ⟨.det c :: ks, ⟨hw, hg⟩, hk⟩
theorem WalkR.nd {o : Oper} {l : List Oper} {A : (Nat → Value) → Act} {d : Nat} (hw : ∀ ρ, Region.wanted o (yielded ops (A ρ).tmps) = true) (hd : o.dst = some d)
    (hg : ∀ D ρ w, Knows ops k D → C D ρ w → givesF F m P o (A ρ) w (fun v w' => C (done D k) (upd ρ o.dst v) w')) (h : WalkR F m P ops C QN (k + 1) l (fun ρ => (A ρ).put o.dst (ρ d))) : WalkR F m P ops C QN k (o :: l) A :=
  h.elim fun ks hk => ⟨.nd d :: ks, ⟨hw, hg, hd⟩, hk⟩
theorem WalkR.fn {o : Oper} {l : List Oper} {A : (Nat → Value) → Act} (u : Nat) (G : Value → Value) (hw : ∀ ρ, Region.wanted o (yielded ops (A ρ).tmps) = true) (hanc : ancB ops k u = true)
    (hg : ∀ D ρ w, Knows ops k D → C D ρ w → givesF F m P o (A ρ) w (fun v w' => v = G (ρ u) ∧ C (done D k) (upd ρ o.dst v) w')) (h : WalkR F m P ops C QN (k + 1) l (fun ρ => (A ρ).put o.dst (G (ρ u)))) : WalkR F m P ops C QN k (o :: l) A :=
  h.elim fun ks hk => ⟨.fn u G :: ks, ⟨hw, hanc, hg⟩, hk⟩

end

end R7
end Go.Proofs.YtpnnlmaipcjkmaaGreat

namespace Go.Proofs.YtpnnlmaipcjkmaaGreat
open Go.RowKit

def SeqP (F : Fence) (n : Nat) (P : Program) (gf : Nat) (lb : Array Value) (all : List (Array Value)) (n₀ : Nat) (Cap : Nat → Prop) (w : World) : Prop :=
  ∀ (l : Nat) (X : Nat → Prop) (J Jx : Nat → World → Prop) (W : World), Below w.heap.size w W → (∀ k, X k → n₀ ≤ k ∧ ¬ Cap k ∧ k < W.heap.size) →
    (∀ k A B, J k A → Below W.heap.size A B → J k B) → (∀ k A B, Jx k A → Below W.heap.size A B → Jx k B) →
    (∀ k r W1, all[k]? = some r → J k W1 → W.heap.size ≤ W1.heap.size → YieldAt F (n - 1) P l r W1 fun e W' =>
      (e = .returned (.bool true) ∧ J (k + 1) W' ∧ KeepsX X W1 W') ∨ (e = .returned (.bool false) ∧ Jx k W')) →
    J 0 W →
    CallsIn F n P gf (#[.func (.yield l) #[] #[]] ++ lb) W fun e W' => (∃ v, e = .returned v) ∧ (J all.length W' ∨ ∃ k, k < all.length ∧ Jx k W')

variable {F : Fence} {n : Nat} {P : Program}

theorem wpIn_rangeP {g : Operand} {ps : Array Tmp} {assign body : Code} {Q : Exit → Act → World → Prop} {a : Act} {w : World}
    (hro : F.round = none) (h1 : 1 ≤ n) {gf : Nat} {lb : Array Value} (hg : a.eval g = .func (.func gf) #[] lb) (hFg : F.fn gf) (eg : ∀ args w, (callFunc gf args).run P w = .ok (.enter gf args) w)
    {all : List (Array Value)} {n₀ : Nat} {Cap : Nat → Prop} {w0 : World} (hseq : SeqP F (n - 1) P gf lb all n₀ Cap w0) (hb0 : Below w0.heap.size w0 w) (hn₀ : n₀ ≤ w.heap.size) (hCap : ∀ k, Cap k → k < w.heap.size) (hps : ∀ r ∈ all, r.size = ps.size)
    (X : Nat → Prop) (hX : ∀ k, X k → n₀ ≤ k ∧ ¬ Cap k ∧ k < w.heap.size)
    (I : Nat → World → Prop) (Ix : Code → Nat → World → Prop) (hI : ∀ k A B, I k A → Below w.heap.size A B → I k B) (hIx : ∀ c k A B, Ix c k A → Below w.heap.size A B → Ix c k B) (h0 : I 0 w)
    (Ax : Nat → Nat → Act → World → Prop) (hAx : ∀ k b a' A B, Ax k b a' A → (∀ j, b ≤ j → B.heap[j]? = A.heap[j]?) → Ax k b a' B)
    (hassign : ∀ (l k : Nat) (r : Array Value) (W : World) (K : Act → World → Prop), all[k]? = some r → I k W → (∀ a' W', Below W.heap.size W W' → Ax k W.heap.size a' W' → K a' W') →
      assign.wpIn (F.inRound l) (n - 1 - 1) P (Exit.then K (fun _ _ _ => False)) { tmps := (ps.zip r).foldl (fun t (p, v) => t.setIfInBounds p v) a.tmps, defers := [] } W)
    (hbody : ∀ (l k b : Nat) (r : Array Value) (a' : Act) (W : World), all[k]? = some r → w.heap.size ≤ b → b ≤ W.heap.size → I k W → Ax k b a' W → body.wpIn (F.inRound l) (n - 1 - 1) P (postX (fun j => X j ∨ b ≤ j) (I (k + 1)) (fun c => Ix c k) W) a' W)
    (hdone : ∀ (D : Nat) (W : World), D = w.heap.size → I all.length W → W.heap[D]? = some (.deferred (some [])) → Q .normal { a with defers := { target := .collected D, args := #[] } :: a.defers } W)
    (hstop : ∀ (D : Nat) (c : Code) (k : Nat) (W : World), D = w.heap.size → k < all.length → Ix c k W → W.heap[D]? = some (.deferred (some [])) → c.wpIn F n P Q { a with defers := { target := .collected D, args := #[] } :: a.defers } W) :
    (Code.rangeFunc g ps assign body).wpIn F n P Q a w := by
  refine wpIn_rangeFunc ?_
  intro fn hfn
  rw [hro]
  obtain ⟨rec, hrec⟩ : ∃ rec : LoopState → Option Code → Loop, rec = fun st pe => { state := st, pending := pe, fn, tmps := a.tmps, params := ps, assign, body, defers := w.heap.size } := ⟨_, rfl⟩
  obtain ⟨W1, hW1⟩ : ∃ W1, (w.alloc (.deferred (some []))).alloc (.loop (rec .ready none)) = W1 := ⟨_, rfl⟩
  have hL1 : W1.heap[w.heap.size + 1]? = some (.loop (rec .ready none)) := by
    rw [← hW1]; have := World.alloc_heap_new (w.alloc (.deferred (some []))) (.loop (rec .ready none)); rwa [World.size_alloc] at this
  have hK1 : W1.heap[w.heap.size]? = some (.deferred (some [])) := by
    rw [← hW1]; exact (Below.heap_alloc _ _ _ (by simp)).trans (World.alloc_heap_new w _)
  have hsz : W1.heap.size = w.heap.size + 2 := by rw [← hW1]; simp
  have hb01 : Below w.heap.size w W1 := by rw [← hW1]; exact ((Below.refl _ w).alloc (Nat.le_refl _) _).alloc (by simp) _
  have hI1 : I 0 W1 := hI _ _ _ h0 hb01
  have hb1 : Below w0.heap.size w0 W1 := hb0.trans (hb01.mono hb0.size)
  refine ⟨w.heap.size + 1, [{ target := .collected w.heap.size, args := #[] }], W1, { target := .fn (.func gf) lb, args := #[.func (.yield (w.heap.size + 1)) #[] #[]] }, W1, gf,
    #[.func (.yield (w.heap.size + 1)) #[] #[]] ++ lb, W1, ?_, ?_, ?_, ?_, fun _ => h1, ?_⟩
  · rw [← hW1, hrec]; exact run_enterLoop_outer _ _ _ _ _
  · simp only [resolve, hg]
    simp [go_sem]
  · intro f' hf'; simp [Target.leads] at hf'; subst hf'; exact hFg
  · simp [invoke, go_sem, eg]
  · have hlow : ∀ {A B : World} {r : Nat} {o : Obj}, Below W1.heap.size A B → r < W1.heap.size → A.heap[r]? = some o → B.heap[r]? = some o := fun hb hr ho => (hb.block _ hr).trans ho
    refine (hseq (w.heap.size + 1) (fun k => X k ∨ k = w.heap.size + 1)
      (fun k W => I k W ∧ W.heap[w.heap.size + 1]? = some (.loop (rec .ready none)) ∧ W.heap[w.heap.size]? = some (.deferred (some [])))
      (fun k W => ∃ c, Ix c k W ∧ W.heap[w.heap.size + 1]? = some (.loop (rec .done (some c))) ∧ W.heap[w.heap.size]? = some (.deferred (some [])))
      W1 hb1 ?_
      (fun k A B hs hb => ⟨hI k A B hs.1 (hb.mono (by omega)), hlow hb (by omega) hs.2.1, hlow hb (by omega) hs.2.2⟩)
      (fun k A B hs hb => by
        obtain ⟨c, hc, hl, hk⟩ := hs
        exact ⟨c, hIx c k A B hc (hb.mono (by omega)), hlow hb (by omega) hl, hlow hb (by omega) hk⟩)
      ?_ ⟨hI1, hL1, hK1⟩).mono ?_
    · rintro k (hk | rfl)
      · have := hX k hk; exact ⟨this.1, this.2.1, by omega⟩
      · exact ⟨by omega, fun h => by have := hCap _ h; omega, by omega⟩
    · -- ONE ROUND
      rintro k r W hr ⟨hi, hl, hk⟩ hsW
      have hlt : w.heap.size + 1 < W.heap.size := (Array.getElem?_eq_some_iff.1 hl).1
      have hy := run_yield (P := P) (args := r) hl (by rw [hrec]; exact hps r (List.mem_of_getElem? hr))
      rw [hrec] at hy
      refine ⟨fn, _, assign, body, hy, roundIn_of_wpIn hfn (hassign _ k r W _ hr hi (fun a' Wa hba hax => ?_))⟩
      have hlA : Wa.heap[w.heap.size + 1]? = some (.loop (rec .ready none)) := (hba.block _ hlt).trans hl
      have hkA : Wa.heap[w.heap.size]? = some (.deferred (some [])) := (hba.block _ (by omega)).trans hk
      have hltA : w.heap.size + 1 < Wa.heap.size := Nat.lt_of_lt_of_le hlt hba.size
      refine ⟨_, run_beginRound hlA (by rw [hrec]), ?_⟩
      have hl2 : (Wa.putObj (w.heap.size + 1) (.loop { rec .ready none with state := .busy })).heap[w.heap.size + 1]? = some (.loop { rec .ready none with state := .busy }) := World.putObj_heap_same hltA
      have hk2 : (Wa.putObj (w.heap.size + 1) (.loop { rec .ready none with state := .busy })).heap[w.heap.size]? = some (.deferred (some [])) := (World.putObj_heap_other (by omega)).trans hkA
      have hi2 : I k (Wa.putObj (w.heap.size + 1) (.loop { rec .ready none with state := .busy })) :=
        hI k _ _ hi (below_putObj (hba.mono (by omega)) (by omega) _)
      have hx2 := hAx k W.heap.size a' Wa (Wa.putObj (w.heap.size + 1) (.loop { rec .ready none with state := .busy })) hax (fun j hj => World.putObj_heap_other (by omega))
      refine wpIn_mono (hbody _ k W.heap.size r a' _ hr (by omega) (by simpa using hba.size) hi2 hx2) ?_
      have fin : ∀ (jump : Option Code) (W3 : World), KeepsX (fun j => X j ∨ W.heap.size ≤ j) (Wa.putObj (w.heap.size + 1) (.loop { rec .ready none with state := .busy })) W3 →
          (Instr.endRound (w.heap.size + 1) jump).run P W3 = .ok (.bool jump.isNone) (W3.putObj (w.heap.size + 1) (.loop (rec (if jump.isNone then .ready else .done) jump))) ∧
          W3.heap[w.heap.size + 1]? = some (.loop { rec .ready none with state := .busy }) ∧
          (W3.putObj (w.heap.size + 1) (.loop (rec (if jump.isNone then .ready else .done) jump))).heap[w.heap.size + 1]? = some (.loop (rec (if jump.isNone then .ready else .done) jump)) ∧
          (W3.putObj (w.heap.size + 1) (.loop (rec (if jump.isNone then .ready else .done) jump))).heap[w.heap.size]? = some (.deferred (some [])) := fun jump W3 hk3 => by
        have hl3 := (hk3.same _ (by simpa using hltA) (by rintro (h | h); have := hX _ h; all_goals omega)).trans hl2
        have hk3' := (hk3.same (w.heap.size) (by simp; omega) (by rintro (h | h); have := hX _ h; all_goals omega)).trans hk2
        have := run_endRound (P := P) jump hl3
        rw [hrec] at this ⊢
        exact ⟨this, by rw [hrec] at hl3; exact hl3, World.putObj_heap_same (Array.getElem?_eq_some_iff.1 hl3).1, (World.putObj_heap_other (by omega)).trans hk3'⟩
      have keep : ∀ {W3 : World} (o : Obj), KeepsX (fun j => X j ∨ W.heap.size ≤ j) (Wa.putObj (w.heap.size + 1) (.loop { rec .ready none with state := .busy })) W3 → KeepsX (fun k => X k ∨ k = w.heap.size + 1) W (W3.putObj (w.heap.size + 1) o) := fun {W3} o hk3 =>
        ⟨by have := hk3.size; simp at this ⊢; exact Nat.le_trans hba.size this, fun j hj hx => by
          have hne : j ≠ w.heap.size + 1 := fun e => hx (.inr e)
          rw [World.putObj_heap_other hne]
          exact (hk3.same j (by simp; have := hba.size; omega) (by rintro (h | h); exact hx (.inl h); omega)).trans ((World.putObj_heap_other hne).trans (hba.block j hj))⟩
      have bel : ∀ {W3 : World} (o : Obj), Below w.heap.size W3 (W3.putObj (w.heap.size + 1) o) := fun o => below_putObj (Below.refl _ _) (by omega) o
      rintro e a3 W3 hp
      cases e with
      | normal =>
        obtain ⟨hk3, hi3⟩ := hp
        obtain ⟨hr, hl3, hl4, hk4⟩ := fin none W3 hk3
        exact ⟨_, _, hr, .inl ⟨rfl, ⟨hI _ _ _ hi3 (bel _), hl4, hk4⟩, keep _ hk3⟩⟩
      | ret =>
        obtain ⟨hk3, hi3⟩ := hp
        obtain ⟨hr, hl3, hl4, hk4⟩ := fin (some .ret) W3 hk3
        exact ⟨_, _, hr, .inr ⟨rfl, .ret, hIx _ _ _ _ hi3 (bel _), hl4, hk4⟩⟩
      | exit id =>
        obtain ⟨hk3, hi3⟩ := hp
        obtain ⟨hr, hl3, hl4, hk4⟩ := fin (some (.exit id)) W3 hk3
        exact ⟨_, _, hr, .inr ⟨rfl, .exit id, hIx _ _ _ _ hi3 (bel _), hl4, hk4⟩⟩
      | goto t =>
        obtain ⟨hk3, hi3⟩ := hp
        obtain ⟨hr, hl3, hl4, hk4⟩ := fin (some (.goto t)) W3 hk3
        exact ⟨_, _, hr, .inr ⟨rfl, .goto t, hIx _ _ _ _ hi3 (bel _), hl4, hk4⟩⟩
      | panic ch => exact hp.elim
      | outgrown => exact hp.elim
    · -- BEHIND THE ITERATOR
      have bel : ∀ {W3 : World} (o : Obj), Below w.heap.size W3 (W3.putObj (w.heap.size + 1) o) := fun o => below_putObj (Below.refl _ _) (by omega) o
      rintro e W2 ⟨⟨v, rfl⟩, (⟨hi, hl, hk⟩ | ⟨k, hkl, c, hi, hl, hk⟩)⟩
      · exact ⟨none, _, by have := run_endLoop (P := P) hl (by rw [hrec]; simp); rw [hrec] at this; exact this, hdone _ _ rfl (hI _ _ _ hi (bel _)) ((World.putObj_heap_other (by omega)).trans hk)⟩
      · exact ⟨some c, _, by have := run_endLoop (P := P) hl (by rw [hrec]; simp); rw [hrec] at this; exact this, hstop _ c k _ rfl hkl (hIx _ _ _ _ hi (bel _)) ((World.putObj_heap_other (by omega)).trans hk)⟩

end Go.Proofs.YtpnnlmaipcjkmaaGreat
