/-
  Texts laid together: RegIn, Regs7.
-/
import Derived.OrdersIn
import Derived.TacticsIn
import Derived.OwnWalkIn
import Derived.RangeFuncCalls
import Derived.Test.YtjjipkgconmfcaaB91
set_option linter.all false
namespace Go.Proofs.Ytjjipkgconmfcaa
open Go.RowKit

section
variable {P : Program} {ops : Array Oper} {Q : Exit → Act → World → Prop}

theorem rowsIn_of {row : String} {args : Array Value} {w : World} {R R' : Value → World → Prop} {l n : Nat} (h : Rows P row args w R) (hr : ∀ v w', R v w' → R' v w') : RowsIn (Fence.wide.inRound l) n P row args w R' :=
  fun c cs _ => let ⟨v, w', r, s⟩ := h c cs; ⟨v, w', hr _ _ r, stepsIn_wide.2 s⟩

theorem callsIn_of {f : FuncId} {args : Array Value} {w : World} {R R' : Ending → World → Prop} {l n : Nat} (h : Calls P f args w R) (hr : ∀ e w', R e w' → R' e w') : CallsIn (Fence.wide.inRound l) n P f args w R' :=
  CallsIn.inRound l (callsIn_wide.2 (h.mono hr))

/-- What an operation does anywhere it does in a round. -/
theorem wpIn_of_wp {o : Oper} {a : Act} {w : World} {K K' : Act → World → Prop} (l n : Nat) (hnd : ∀ c, o.op ≠ .defer c) (h : o.wp P a w K Q) (hK : ∀ a w, K a w → K' a w) : o.wpIn (Fence.wide.inRound l) n P a w K' Q := by
  unfold Oper.wp at h
  unfold Oper.wpIn
  refine ⟨fun f _ => trivial, ?_⟩
  rw [Oper.semAt_plain _ _ _ hnd]
  generalize (execOp a.eval o).run P w = r at h
  cases r with
  | ok x w' =>
    cases x <;> simp only [Oper.upon, Oper.uponIn] at h ⊢ <;>
      first
        | exact hK _ _ h
        | exact ⟨fun h => (by simp [Fence.wide] at h), callsIn_of h (fun e w'' he => by cases e <;> first | exact hK _ _ he | exact he)⟩
        | exact ⟨fun h => (by simp [Fence.wide] at h), rowsIn_of h (fun v w'' he => hK _ _ he)⟩
        | exact h.elim
  | halt x w' => cases x <;> simp only [Oper.upon, Oper.uponIn] at h ⊢ <;> exact h

def noDefer (ops : Array Oper) : Bool := ops.all fun o => match o.op with
  | .defer _ => false
  | _ => true
theorem noDefer_ok (h : noDefer ops = true) {i : Nat} {o : Oper} (ho : ops[i]? = some o) : ∀ c, o.op ≠ .defer c := fun c hc => by
  have := Array.all_eq_true.1 h i (Array.getElem?_eq_some_iff.1 ho).1
  rw [(Array.getElem?_eq_some_iff.1 ho).2, hc] at this
  cases this

theorem wpAnyIn_of (l n : Nat) (hd : noDefer ops = true) (hQ : ¬ LetsOut Q) : ∀ (fuel : Nat) (listed : Array Bool) (a : Act) (w : World), wpAny P .any ops Q fuel listed a w → wpAnyIn (Fence.wide.inRound l) n P .any ops Q fuel listed a w
  | 0, _, _, _, h => h
  | fuel + 1, listed, a, w, h => by
    refine ⟨h.1, fun i hi => ?_⟩
    have hx := h.2 i hi
    unfold wpOp at hx
    unfold wpOpIn
    cases ho : ops[i]? with
    | none =>
      rw [ho] at hx
      exact wpAnyIn_of l n hd hQ fuel _ _ _ hx
    | some o =>
      rw [ho] at hx
      simp only at hx ⊢
      by_cases hw : Region.wanted o (yielded ops a.tmps) = true
      · rw [if_pos hw] at hx ⊢
        exact wpIn_of_wp l n (noDefer_ok hd ho) (hx.resolve_right fun h => hQ h.2) (fun a w => wpAnyIn_of l n hd hQ fuel _ a w)
      · rw [if_neg hw] at hx ⊢
        exact ⟨fun f _ => trivial, wpAnyIn_of l n hd hQ fuel _ _ _ hx⟩

variable {C : (Nat → Bool) → (Nat → Value) → World → Prop}
/-- Nothing but the end is left. -/
def onlyN (Q : Exit → Act → World → Prop) : Exit → Act → World → Prop
  | .normal, a, w => Q .normal a w
  | _, _, _ => False
theorem wpIn_walk {l m : Nat} {id : Nat} {a0 : Act} {w0 : World} (n : Nat) (hm : P.follows .mixedOrders = true) (hB : R4.regB ops n = true) (hd : noDefer ops = true) (hn : a0.tmps.size = n) (hC : C (fun _ => false) (fun t => a0.tmps.getD t undef) w0.drew)
    (h : R6.WalkR P ops C (Q .normal) 0 ops.toList (fun _ => a0)) : (Code.region id ops true).wpIn (Fence.wide.inRound l) m P Q a0 w0 := by
  obtain ⟨ks, hSt⟩ := h
  refine Code.wpIn_mono (Q := onlyN Q) (fun e a w hq => by cases e <;> first | exact hq | exact hq.elim) ?_
  refine wpIn_region_any hm (wpAnyIn_of l m hd (fun ⟨_, _, h⟩ => h) _ _ _ _ (R6.walk_sound (Q := onlyN Q) (R4.regB_ok hB) hn hSt ops.size (Array.replicate ops.size false) a0 _ ?_ ?_))
  · refine ⟨by simp, rfl, rfl, ?_, fun j o ho hl => by simp [Array.getElem?_replicate] at hl; split at hl <;> simp at hl, fun _ _ => rfl, fun j o kd ho hk hl => by simp [Array.getElem?_replicate] at hl; split at hl <;> simp at hl⟩
    have e : (fun j => (Array.replicate ops.size false).getD j false) = fun _ => false := by
      funext j
      simp [Array.getElem?_replicate]
      split <;> rfl
    rw [e]
    exact hC
  · simp [List.countP_replicate]
end

end Go.Proofs.Ytjjipkgconmfcaa

namespace Go.Proofs.Ytjjipkgconmfcaa
namespace R7
open R4 (upd slot_upd)
open R6 (needsI Knows needsI_done needsI_pre ancB ancB_ok done done_ne done_me upd_ne upd_me)

/-- What an operation gives, in a fence. -/
def givesF (F : Fence) (m : Nat) (P : Program) (o : Oper) (a : Act) (w : World) (R : Value → World → Prop) : Prop :=
  ∀ (a' : Act) (K : Act → World → Prop) (Q : Exit → Act → World → Prop), execOp a'.eval o = execOp a.eval o → (∀ v w', R v w' → K (a'.put o.dst v) w') → o.wpIn F m P a' w K Q

theorem wpIn_of_wp0 {P : Program} {o : Oper} {a : Act} {w : World} {K : Act → World → Prop} {Q : Exit → Act → World → Prop} (n : Nat) (hnd : ∀ c, o.op ≠ .defer c) (h : o.wp P a w K Q) : o.wpIn Fence.wide n P a w K Q := by
  unfold Oper.wp at h
  unfold Oper.wpIn
  refine ⟨fun f _ => trivial, ?_⟩
  rw [Oper.semAt_plain _ _ _ hnd]
  generalize (execOp a.eval o).run P w = r at h
  cases r with
  | ok x w' =>
    cases x <;> simp only [Oper.upon, Oper.uponIn] at h ⊢ <;>
      first
        | exact h
        | exact ⟨fun h => (by simp [Fence.wide] at h), callsIn_wide.2 h⟩
        | exact ⟨fun h => (by simp [Fence.wide] at h), fun c cs _ => let ⟨v, w', r, s⟩ := h c cs; ⟨v, w', r, stepsIn_wide.2 s⟩⟩
        | exact h.elim
  | halt x w' => cases x <;> simp only [Oper.upon, Oper.uponIn] at h ⊢ <;> exact h

theorem givesF.of {P : Program} {o : Oper} {a : Act} {w : World} {R : Value → World → Prop} {m : Nat} (hnd : ∀ c, o.op ≠ .defer c) (h : gives P o a w R) : givesF Fence.wide m P o a w R :=
  fun _ _ _ hev hK => wpIn_of_wp0 m hnd (h.wp hev hK)

theorem givesF.yield {F : Fence} {m : Nat} {P : Program} {op : Oper} {a : Act} {w : World} {R : Value → World → Prop} (f : Operand) (args : Array Operand) (ats : Array TypeId) (ho : op.op = .call { callee := .value f, args := args, argTypes := ats })
    (hF : ∀ f, F.fn f) (hn : 1 ≤ m) {l : Nat} (hf : a.eval f = .func (.yield l) #[] #[]) {vs : Array Value} (hvs : args.map a.eval = vs)
    {R' : Ending → World → Prop} (hY : YieldAt F (m - 1) P l vs w R') (h : ∀ e w', R' e w' → ∃ v, e = .returned v ∧ R v w') : givesF F m P op a w R := by
  obtain ⟨fn, tmps, assign, body, hy, hR⟩ := hY
  intro a' K Q hev hK
  unfold Oper.wpIn
  refine ⟨fun f _ => hF f, ?_⟩
  rw [Oper.semAt_plain F _ _ (by rw [ho]; intro c hc'; cases hc'), hev]
  have hrun : (execOp a.eval op).run P w = .ok (.round l fn tmps assign body) w := by
    unfold execOp
    simp only [ho, resolve, hf, hvs, Deferred.ofValue, Sem.run_bind, Sem.run_pure, Result.andThen_ok]
    simp [invoke, hy]
  rw [hrun, Oper.uponIn_round]
  refine ⟨fun _ => hn, hR.mono ?_⟩
  intro e w' hr
  obtain ⟨v, rfl, hw⟩ := h e w' hr
  exact hK _ _ hw

section
variable (F : Fence) (m : Nat) (P : Program) (ops : Array Oper) (C : (Nat → Bool) → (Nat → Value) → World → Prop) (QN : Act → World → Prop)

/-- How an operation is met: it isn't wanted; it yields one value; it yields some value; it yields a value that slot u tells. -/
inductive Kd where
  | un
  | det (c : Value)
  | nd (d : Nat)
  | fn (u : Nat) (G : Value → Value)

def ent : Kd → (Nat → Value) → Value
  | .un, _ => undef
  | .det c, _ => c
  | .nd d, ρ => ρ d
  | .fn u G, ρ => G (ρ u)
def nextA (A : (Nat → Value) → Act) (o : Oper) (kd : Kd) : (Nat → Value) → Act := fun ρ => (A ρ).put o.dst (ent kd ρ)

/-- What is owed for one operation. -/
def StepOk (k : Nat) (o : Oper) (kd : Kd) (A : (Nat → Value) → Act) : Prop :=
  match kd with
  | .un => (∀ ρ, Region.wanted o (yielded ops (A ρ).tmps) = false) ∧ ∀ D ρ w, Knows ops k D → C D ρ w → C (done D k) (upd ρ o.dst undef) w
  | .det c => (∀ ρ, Region.wanted o (yielded ops (A ρ).tmps) = true) ∧ ∀ D ρ w, Knows ops k D → C D ρ w → givesF F m P o (A ρ) w (fun v w' => v = c ∧ C (done D k) (upd ρ o.dst v) w')
  | .nd d => (∀ ρ, Region.wanted o (yielded ops (A ρ).tmps) = true) ∧ (∀ D ρ w, Knows ops k D → C D ρ w → givesF F m P o (A ρ) w (fun v w' => C (done D k) (upd ρ o.dst v) w')) ∧ o.dst = some d
  | .fn u G => (∀ ρ, Region.wanted o (yielded ops (A ρ).tmps) = true) ∧ ancB ops k u = true ∧ ∀ D ρ w, Knows ops k D → C D ρ w → givesF F m P o (A ρ) w (fun v w' => v = G (ρ u) ∧ C (done D k) (upd ρ o.dst v) w')

/-- The walk in the text's order. -/
def Steps : Nat → List Oper → List Kd → ((Nat → Value) → Act) → Prop
  | k, [], [], A => ∀ D ρ w, (∀ j, j < k → D j = true) → C D ρ w → QN (A ρ) w
  | k, o :: l, kd :: ks, A => StepOk F m P ops C k o kd A ∧ Steps (k + 1) l ks (nextA A o kd)
  | _, _, _, _ => False

/-- .. without its list: what a proof goes through. -/
def WalkR (k : Nat) (l : List Oper) (A : (Nat → Value) → Act) : Prop := ∃ ks, Steps F m P ops C QN k l ks A

def stA (A : (Nat → Value) → Act) : List Oper → List Kd → Nat → (Nat → Value) → Act
  | o :: l, kd :: ks, i + 1 => stA (nextA A o kd) l ks i
  | _, _, _ => A

variable {F m P ops C QN}

theorem Steps.at_ : ∀ {l : List Oper} {ks : List Kd} {A : (Nat → Value) → Act} {k : Nat}, Steps F m P ops C QN k l ks A → ∀ i o, l[i]? = some o → ∃ kd, ks[i]? = some kd ∧ StepOk F m P ops C (k + i) o kd (stA A l ks i)
  | o :: l, kd :: ks, A, k, h, 0, o', ho => by
    simp at ho; subst ho
    exact ⟨kd, rfl, h.1⟩
  | o :: l, kd :: ks, A, k, h, i + 1, o', ho => by
    have := Steps.at_ h.2 i o' (by simpa using ho)
    rwa [show k + 1 + i = k + (i + 1) by omega] at this
  | [], _, _, _, _, _, _, ho => by simp at ho
  | _ :: _, [], _, _, h, _, _, _ => h.elim

theorem Steps.end_ : ∀ {l : List Oper} {ks : List Kd} {A : (Nat → Value) → Act} {k : Nat}, Steps F m P ops C QN k l ks A →
    ks.length = l.length ∧ ∀ D ρ w, (∀ j, j < k + l.length → D j = true) → C D ρ w → QN (stA A l ks l.length ρ) w
  | [], [], A, k, h => ⟨rfl, h⟩
  | o :: l, kd :: ks, A, k, h => by
    obtain ⟨h1, h2⟩ := Steps.end_ h.2
    refine ⟨by simp [h1], fun D ρ w hD hC => h2 D ρ w (fun j hj => hD j ?_) hC⟩
    simp only [List.length_cons]
    omega
  | [], _ :: _, _, _, h => h.elim
  | _ :: _, [], _, _, h => h.elim

theorem stA_size : ∀ (A : (Nat → Value) → Act) (l : List Oper) (ks : List Kd) (i : Nat) (ρ : Nat → Value), (stA A l ks i ρ).tmps.size = (A ρ).tmps.size ∧ (stA A l ks i ρ).defers = (A ρ).defers
  | A, o :: l, kd :: ks, i + 1, ρ => by
    have := stA_size (nextA A o kd) l ks i ρ
    simpa [stA, nextA, size_put, defers_put] using this
  | A, [], _, _, ρ => by simp [stA]
  | A, _ :: _, [], _, ρ => by simp [stA]
  | A, _ :: _, _ :: _, 0, ρ => by simp [stA]

/-- A slot that none of the first i operations writes. -/
theorem stA_other : ∀ (A : (Nat → Value) → Act) (l : List Oper) (ks : List Kd) (i : Nat) (ρ : Nat → Value) (t : Nat), (∀ j o, j < i → l[j]? = some o → o.dst ≠ some t) → slot (stA A l ks i ρ) t = slot (A ρ) t
  | A, o :: l, kd :: ks, i + 1, ρ, t, h => by
    rw [show stA A (o :: l) (kd :: ks) (i + 1) ρ = stA (nextA A o kd) l ks i ρ from rfl,
      stA_other (nextA A o kd) l ks i ρ t (fun j o' hj ho => h (j + 1) o' (by omega) (by simpa using ho))]
    exact slot_put_ne (h 0 o (by omega) rfl)
  | A, [], _, _, ρ, t, _ => by simp [stA]
  | A, _ :: _, [], _, ρ, t, _ => by simp [stA]
  | A, _ :: _, _ :: _, 0, ρ, t, _ => by simp [stA]

/-- A slot that one of them writes, and none after it. -/
theorem stA_wrote : ∀ (A : (Nat → Value) → Act) (l : List Oper) (ks : List Kd) (i : Nat) (ρ : Nat → Value) (t j : Nat) (o : Oper) (kd : Kd), j < i → l[j]? = some o → ks[j]? = some kd → o.dst = some t → t < (A ρ).tmps.size →
    (∀ j' o', j < j' → j' < i → l[j']? = some o' → o'.dst ≠ some t) → slot (stA A l ks i ρ) t = ent kd ρ
  | A, o :: l, kd :: ks, i + 1, ρ, t, 0, o', kd', hj, ho, hk, hd, ht, h => by
    simp at ho hk; subst ho hk
    rw [show stA A (o :: l) (kd :: ks) (i + 1) ρ = stA (nextA A o kd) l ks i ρ from rfl,
      stA_other (nextA A o kd) l ks i ρ t (fun j o' hj ho => h (j + 1) o' (by omega) (by omega) (by simpa using ho))]
    show slot ((A ρ).put o.dst (ent kd ρ)) t = _
    rw [hd]; exact slot_put_same ht
  | A, o :: l, kd :: ks, i + 1, ρ, t, j + 1, o', kd', hj, ho, hk, hd, ht, h =>
    stA_wrote (nextA A o kd) l ks i ρ t j o' kd' (by omega) (by simpa using ho) (by simpa using hk) hd (by simpa [nextA, size_put] using ht) (fun j' o'' h1 h2 h3 => h (j' + 1) o'' (by omega) (by omega) (by simpa using h3))
  | A, [], _, _, ρ, t, j, o, kd, _, ho, _, _, _, _ => by simp at ho
  | A, _ :: _, [], _, ρ, t, j, o, kd, _, _, hk, _, _, _ => by simp at hk
  | A, _ :: _, _ :: _, 0, ρ, t, j, o, kd, hj, _, _, _, _, _ => by omega

/-- What holds on the way: of the operations that have come up. -/
structure InvR (C : (Nat → Bool) → (Nat → Value) → World → Prop) (ks : List Kd) (ops : Array Oper) (a0 : Act) (listed : Array Bool) (a : Act) (w : World) : Prop where
  len : listed.size = ops.size
  size : a.tmps.size = a0.tmps.size
  defers : a.defers = a0.defers
  cls : C (fun j => listed.getD j false) (slot a) w
  closed : ∀ (j : Nat) (o : Oper), ops[j]? = some o → listed.getD j false = true → ∀ e ∈ o.after, Region.binds .any e = true → listed.getD e.on false = true
  other : ∀ t, (∀ (j : Nat) (o : Oper), ops[j]? = some o → listed.getD j false = true → o.dst ≠ some t) → slot a t = slot a0 t
  wrote : ∀ (j : Nat) (o : Oper) (kd : Kd), ops[j]? = some o → ks[j]? = some kd → listed.getD j false = true → ∀ d, o.dst = some d → slot a d = ent kd (slot a)

theorem slot_at {n : Nat} {a0 : Act} {listed : Array Bool} {a : Act} {w : World} {ks : List Kd} (R : R4.RegOk n ops) (hn : a0.tmps.size = n) (hk : ks.length = ops.size) (I : InvR C ks ops a0 listed a w) {k : Nat} {o : Oper} (ho : ops[k]? = some o)
    (hr : ∀ e ∈ o.after, Region.binds .any e = true → listed.getD e.on false = true) (h0 : listed.getD k false = false) {t : Nat} (ht : t ∈ o.looksAt ops) :
    slot a t = slot (stA (fun _ => a0) ops.toList ks k (slot a)) t := by
  by_cases hw : ∃ (j : Nat) (oj : Oper), ops[j]? = some oj ∧ oj.dst = some t
  · obtain ⟨j, oj, hoj, hd⟩ := hw
    rcases R.waits k o j oj t ho hoj hd ht with ⟨hjk, e, he, hb, rfl⟩ | ⟨hjk, e, he, hb, hek⟩
    · have hl := hr e he hb
      have hjs : e.on < ks.length := by rw [hk]; exact (Array.getElem?_eq_some_iff.1 hoj).1
      have hkd : ks[e.on]? = some ks[e.on] := List.getElem?_eq_getElem hjs
      rw [stA_wrote (fun _ => a0) ops.toList ks k (slot a) t e.on oj _ hjk (by simpa using hoj) hkd hd (by rw [hn]; exact R.inb _ _ _ hoj hd)
        (fun j' o' h1 h2 h3 h4 => by
          have := R.once e.on oj j' o' t hoj (by simpa using h3) h4 hd
          omega)]
      exact I.wrote e.on oj _ hoj hkd hl t hd
    · rw [stA_other (fun _ => a0) ops.toList ks k (slot a) t (fun j' oj' hj' hoj' hd' => by
        have := R.once j oj j' oj' t hoj (by simpa using hoj') hd' hd
        omega)]
      refine I.other t (fun j' oj' hoj' hl hd' => ?_)
      have hjj := R.once j oj j' oj' t hoj hoj' hd' hd
      subst hjj
      have := I.closed j' oj hoj hl e he hb
      rw [hek, h0] at this; cases this
  · rw [stA_other (fun _ => a0) ops.toList ks k (slot a) t (fun j oj _ hoj hd => hw ⟨j, oj, by simpa using hoj, hd⟩)]
    exact I.other t (fun j oj hoj _ hd => hw ⟨j, oj, hoj, hd⟩)

theorem walk_sound {n : Nat} {a0 : Act} {ks : List Kd} {Q : Exit → Act → World → Prop} (hF : ∀ f, F.fn f) (R : R4.RegOk n ops) (hn : a0.tmps.size = n) (hSt : Steps F m P ops C (Q .normal) 0 ops.toList ks (fun _ => a0)) :
    ∀ (fuel : Nat) (listed : Array Bool) (a : Act) (w : World), InvR C ks ops a0 listed a w → listed.toList.countP (fun b => !b) ≤ fuel → wpAnyIn F m P .any ops Q fuel listed a w := by
  obtain ⟨hk, hend⟩ := hSt.end_
  simp only [Array.length_toList] at hk hend
  -- all have come up: the state is the walk's last one
  have fin : ∀ (listed : Array Bool) (a : Act) (w : World), InvR C ks ops a0 listed a w → Region.ready .any ops listed = [] → Q .normal a w := by
    intro listed a w I hr
    have hall : ∀ k, k < ops.size → listed.getD k false = true := by
      intro k
      induction k using Nat.strongRecOn with
      | _ k ih =>
        intro hlt
        have hks : k < listed.size := by rw [I.len]; exact hlt
        cases hb : listed.getD k false with
        | true => rfl
        | false =>
          exfalso
          have hk2 : k ∈ Region.ready .any ops listed := by
            refine mem_ready.2 ⟨by simpa [hks] using hb, ops[k], Array.getElem?_eq_getElem hlt, fun e he hbi => ?_⟩
            have hlt2 := R.back k _ (Array.getElem?_eq_getElem hlt) e he hbi
            exact ih e.on hlt2 (by omega)
          rw [hr] at hk2; cases hk2
    have ha : a = stA (fun _ => a0) ops.toList ks ops.size (slot a) := by
      have hsz := stA_size (fun _ => a0) ops.toList ks ops.size (slot a)
      have hslot : ∀ t, slot a t = slot (stA (fun _ => a0) ops.toList ks ops.size (slot a)) t := by
        intro t
        by_cases hw : ∃ (j : Nat) (oj : Oper), ops[j]? = some oj ∧ oj.dst = some t
        · obtain ⟨j, oj, hoj, hd⟩ := hw
          have hj := (Array.getElem?_eq_some_iff.1 hoj).1
          have hkd : ks[j]? = some ks[j] := List.getElem?_eq_getElem (by omega)
          rw [stA_wrote (fun _ => a0) ops.toList ks ops.size (slot a) t j oj _ hj (by simpa using hoj) hkd hd (by rw [hn]; exact R.inb _ _ _ hoj hd)
            (fun j' o' h1 h2 h3 h4 => by
              have := R.once j oj j' o' t hoj (by simpa using h3) h4 hd
              omega)]
          exact I.wrote j oj _ hoj hkd (hall j hj) t hd
        · rw [stA_other (fun _ => a0) ops.toList ks ops.size (slot a) t (fun j oj _ hoj hd => hw ⟨j, oj, by simpa using hoj, hd⟩)]
          exact I.other t (fun j oj hoj _ hd => hw ⟨j, oj, hoj, hd⟩)
      obtain ⟨h1, h2⟩ := hsz
      have hd := I.defers
      have hs := I.size
      generalize stA (fun _ => a0) ops.toList ks ops.size (slot a) = b at *
      obtain ⟨ta, da⟩ := a
      obtain ⟨tb, db⟩ := b
      simp only [Act.mk.injEq] at *
      refine ⟨?_, by rw [hd, h2]⟩
      apply Array.ext
      · omega
      · intro i hi1 hi2
        have := hslot i
        simp only [slot] at this
        simpa [hi1, hi2] using this
    rw [ha]
    refine hend _ _ w (fun j hj => hall j (by omega)) I.cls
  intro fuel
  induction fuel with
  | zero =>
    intro listed a w I hc
    have hr : Region.ready .any ops listed = [] := by
      rw [List.eq_nil_iff_forall_not_mem]
      intro k hk2
      obtain ⟨h0, o, ho, _⟩ := mem_ready.1 hk2
      have hks : k < listed.size := by rw [I.len]; exact (Array.getElem?_eq_some_iff.1 ho).1
      have hm : listed[k] ∈ listed.toList := by simp
      have := List.countP_eq_zero.1 (by omega : listed.toList.countP (fun b => !b) = 0) _ hm
      simp [hks] at h0
      simp [h0] at this
    exact ⟨hr, fin listed a w I hr⟩
  | succ fuel ih =>
    intro listed a w I hc
    refine ⟨fin listed a w I, fun k hk2 => ?_⟩
    obtain ⟨h0, o, ho, hr⟩ := mem_ready.1 hk2
    have hks : k < listed.size := by rw [I.len]; exact (Array.getElem?_eq_some_iff.1 ho).1
    obtain ⟨kd, hkd, hst⟩ := hSt.at_ k o (by simpa using ho)
    rw [Nat.zero_add] at hst
    have h0k : listed.getD k false = false := by
      simp only [Array.getD_eq_getD_getElem?, Array.getElem?_eq_getElem hks, Option.getD_some] at h0 ⊢; exact h0
    have hsl : ∀ t, t ∈ o.looksAt ops → slot a t = slot (stA (fun _ => a0) ops.toList ks k (slot a)) t := fun t ht => slot_at R hn hk I ho hr h0k ht
    have hsz := stA_size (fun _ => a0) ops.toList ks k (slot a)
    have hev : execOp a.eval o = execOp (stA (fun _ => a0) ops.toList ks k (slot a)).eval o :=
      execOp_congr o (R.sel k o ho) fun x hx => by
        cases x with
        | tmp t => exact hsl t (List.mem_append_left _ (List.mem_filterMap.2 ⟨.tmp t, by simpa using hx, rfl⟩))
        | _ => rfl
    have hwn : Region.wanted o (yielded ops a.tmps) = Region.wanted o (yielded ops (stA (fun _ => a0) ops.toList ks k (slot a)).tmps) := by
      unfold Region.wanted
      cases hg : o.guard with
      | none => rfl
      | some gw =>
        obtain ⟨g, want⟩ := gw
        have : yielded ops a.tmps g = yielded ops (stA (fun _ => a0) ops.toList ks k (slot a)).tmps g := by
          unfold yielded
          cases ht : (ops[g]?).bind (·.dst) with
          | none => rfl
          | some t =>
            have hm : t ∈ o.looksAt ops := by simp [Oper.looksAt, hg, ht]
            have hs := hsl t hm
            have hsz' := I.size
            have e1 : a.tmps.size = (stA (fun _ => a0) ops.toList ks k (slot a)).tmps.size := by rw [hsz.1, hsz']
            simp only [slot] at hs
            have : a.tmps[t]? = (stA (fun _ => a0) ops.toList ks k (slot a)).tmps[t]? := by
              rcases Nat.lt_or_ge t a.tmps.size with h | h
              · have h2 : t < (stA (fun _ => a0) ops.toList ks k (slot a)).tmps.size := by rw [← e1]; exact h
                simpa [h, h2] using hs
              · rw [Array.getElem?_eq_none h, Array.getElem?_eq_none (by omega)]
            simp [this]
        simp only [this]
    have hcount : (listed.setIfInBounds k true).toList.countP (fun b => !b) ≤ fuel := by
      have hf : listed.toList[k]? = some false := by simp [hks] at h0; simp [hks, h0]
      have := countP_set hf
      rw [Array.toList_setIfInBounds]
      omega
    have hset : ∀ j, (listed.setIfInBounds k true).getD j false = true ↔ j = k ∨ listed.getD j false = true := by
      intro j
      by_cases hjk : j = k
      · subst hjk; simp [hks]
      · rw [getD_set_ne false (Ne.symm hjk)]; simp [hjk]
    have hkn : Knows ops k (fun j => listed.getD j false) := ⟨h0k, fun j hj => needsI_pre I.closed ho hr _ j hj, fun j hj => by
      cases hb : listed.getD j false with
      | false => rfl
      | true =>
        have := needsI_done (D := fun j => listed.getD j false) I.closed _ j k hb hj
        rw [h0k] at this; cases this⟩
    have hD : (fun j => (listed.setIfInBounds k true).getD j false) = done (fun j => listed.getD j false) k := by
      funext j
      unfold done
      by_cases hjk : j = k
      · subst hjk; simp [hks]
      · rw [getD_set_ne false (Ne.symm hjk)]; simp [hjk]
    -- the state behind the operation
    have next : ∀ v w', C (done (fun j => listed.getD j false) k) (slot (a.put o.dst v)) w' → (∀ d, o.dst = some d → v = ent kd (slot (a.put o.dst v))) → (∀ d, kd = .nd d → o.dst = some d) →
        InvR C ks ops a0 (listed.setIfInBounds k true) (a.put o.dst v) w' := by
      intro v w' hC' hv hnd
      have hin : ∀ d, o.dst = some d → d < a.tmps.size := fun d hd => by rw [I.size, hn]; exact R.inb k o d ho hd
      refine ⟨by simp [I.len], by rw [size_put, I.size], by rw [defers_put, I.defers], by rw [hD]; exact hC', fun j oj hoj hlj e he hb => ?_, fun t ht => ?_, fun j oj kj hoj hkj hlj d hd => ?_⟩
      · rcases (hset j).1 hlj with rfl | hlk
        · rw [ho] at hoj; cases hoj
          exact (hset _).2 (.inr (hr e he hb))
        · exact (hset _).2 (.inr (I.closed j oj hoj hlk e he hb))
      · rw [slot_put_ne (ht k o ho ((hset k).2 (.inl rfl)))]
        exact I.other t (fun j oj hoj hlj => ht j oj hoj ((hset j).2 (.inr hlj)))
      · rcases (hset j).1 hlj with rfl | hlk
        · rw [ho] at hoj; cases hoj
          rw [hkd] at hkj; cases hkj
          have : slot (a.put o.dst v) d = v := by rw [hd]; exact slot_put_same (hin d hd)
          rw [this]; exact hv d hd
        · have hjk : j ≠ k := fun e => by rw [e, h0k] at hlk; cases hlk
          have h1 := I.wrote j oj kj hoj hkj hlk
          have hne : ∀ d, oj.dst = some d → o.dst ≠ some d := fun d hd hd' => hjk (R.once k o j oj d ho hoj hd hd')
          rw [slot_put_ne (hne d hd), h1 d hd]
          cases kj with
          | un => rfl
          | det c => rfl
          | nd d' =>
            obtain ⟨kd', hkd', hst'⟩ := hSt.at_ j oj (by simpa using hoj)
            rw [hkj] at hkd'; cases hkd'
            exact (slot_put_ne (hne d' hst'.2.2)).symm
          | fn u G =>
            obtain ⟨kd', hkd', hst'⟩ := hSt.at_ j oj (by simpa using hoj)
            rw [hkj] at hkd'; cases hkd'
            obtain ⟨i, oi, hi1, hi2, hi3⟩ := ancB_ok hst'.2.1
            rw [Nat.zero_add] at hi1
            have hli := needsI_done (D := fun j => listed.getD j false) I.closed _ j i hlk hi1
            have hne2 : o.dst ≠ some u := fun hd' => by
              have := R.once k o i oi u ho hi2 hi3 hd'
              rw [this] at hli
              rw [h0k] at hli; cases hli
            show G (slot a u) = G (slot (a.put o.dst v) u)
            rw [slot_put_ne hne2]
    have hinb : ∀ t, o.dst = some t → t < a.tmps.size := fun d hd => by rw [I.size, hn]; exact R.inb k o d ho hd
    unfold wpOpIn
    simp only [ho]
    cases kd with
    | un =>
      have : Region.wanted o (yielded ops a.tmps) = false := by rw [hwn]; exact hst.1 _
      simp only [this, Bool.false_eq_true, if_false]
      exact ⟨fun f _ => hF f, ih _ _ _ (next undef w (by rw [slot_upd hinb]; exact hst.2 _ _ _ hkn I.cls) (fun _ _ => rfl) (fun d h => by cases h)) hcount⟩
    | det c =>
      obtain ⟨hw, hg⟩ := hst
      have : Region.wanted o (yielded ops a.tmps) = true := by rw [hwn]; exact hw _
      simp only [this, if_true]
      refine hg _ (slot a) w hkn I.cls a _ Q hev fun v w' ⟨hv, hC'⟩ => ?_
      exact ih _ _ _ (next v w' (by rw [slot_upd hinb]; exact hC') (fun _ _ => hv) (fun d h => by cases h)) hcount
    | nd d =>
      obtain ⟨hw, hg, hd⟩ := hst
      have : Region.wanted o (yielded ops a.tmps) = true := by rw [hwn]; exact hw _
      simp only [this, if_true]
      refine hg _ (slot a) w hkn I.cls a _ Q hev fun v w' hC' => ?_
      refine ih _ _ _ (next v w' (by rw [slot_upd hinb]; exact hC') (fun _ _ => ?_) (fun d' h => by cases h; exact hd)) hcount
      show v = slot (a.put o.dst v) d
      rw [hd]
      exact (slot_put_same (by rw [I.size, hn]; exact R.inb k o d ho hd)).symm
    | fn u G =>
      obtain ⟨hw, hanc, hg⟩ := hst
      have : Region.wanted o (yielded ops a.tmps) = true := by rw [hwn]; exact hw _
      simp only [this, if_true]
      refine hg _ (slot a) w hkn I.cls a _ Q hev fun v w' ⟨hv, hC'⟩ => ?_
      refine ih _ _ _ (next v w' (by rw [slot_upd hinb]; exact hC') (fun _ _ => ?_) (fun d' h => by cases h)) hcount
      obtain ⟨i, oi, hi1, hi2, hi3⟩ := ancB_ok hanc
      have hli := hkn.pre i hi1
      have hne2 : o.dst ≠ some u := fun hd' => by
        have := R.once k o i oi u ho hi2 hi3 hd'
        rw [this, h0k] at hli; cases hli
      show v = G (slot (a.put o.dst v) u)
      rw [slot_put_ne hne2]
      exact hv

/-- A REGION THAT DRAWS ITS ORDER, WALKED ONCE. -/
theorem wpIn_walk (hF : ∀ f, F.fn f) {id : Nat} {Q : Exit → Act → World → Prop} {a0 : Act} {w0 : World} (n : Nat) (hm : P.follows .mixedOrders = true) (hB : R4.regB ops n = true) (hn : a0.tmps.size = n) (hC : C (fun _ => false) (slot a0) w0.drew)
    (h : WalkR F m P ops C (Q .normal) 0 ops.toList (fun _ => a0)) : (Code.region id ops true).wpIn F m P Q a0 w0 := by
  obtain ⟨ks, hSt⟩ := h
  refine wpIn_region_any hm (walk_sound hF (R4.regB_ok hB) hn hSt ops.size (Array.replicate ops.size false) a0 _ ?_ ?_)
  · refine ⟨by simp, rfl, rfl, ?_, fun j o ho hl => by simp [Array.getElem?_replicate] at hl; split at hl <;> simp at hl, fun _ _ => rfl, fun j o kd ho hk hl => by simp [Array.getElem?_replicate] at hl; split at hl <;> simp at hl⟩
    have e : (fun j => (Array.replicate ops.size false).getD j false) = fun _ => false := by
      funext j
      simp [Array.getElem?_replicate]
      split <;> rfl
    rw [e]
    exact hC
  · simp [List.countP_replicate]

/-! ### The moves -/
variable {k : Nat}
theorem WalkR.nil {A : (Nat → Value) → Act} (h : ∀ D ρ w, (∀ j, j < k → D j = true) → C D ρ w → QN (A ρ) w) : WalkR F m P ops C QN k [] A := ⟨[], h⟩
theorem WalkR.un {o : Oper} {l : List Oper} {A : (Nat → Value) → Act} (hw : ∀ ρ, Region.wanted o (yielded ops (A ρ).tmps) = false) (hu : ∀ D ρ w, Knows ops k D → C D ρ w → C (done D k) (upd ρ o.dst undef) w)
    (h : WalkR F m P ops C QN (k + 1) l (fun ρ => (A ρ).put o.dst undef)) : WalkR F m P ops C QN k (o :: l) A :=
  h.elim fun ks hk => ⟨.un :: ks, ⟨hw, hu⟩, hk⟩
theorem WalkR.det {o : Oper} {l : List Oper} {A : (Nat → Value) → Act} {c : Value} (hw : ∀ ρ, Region.wanted o (yielded ops (A ρ).tmps) = true)
    (hg : ∀ D ρ w, Knows ops k D → C D ρ w → givesF F m P o (A ρ) w (fun v w' => v = c ∧ C (done D k) (upd ρ o.dst v) w')) (h : WalkR F m P ops C QN (k + 1) l (fun ρ => (A ρ).put o.dst c)) : WalkR F m P ops C QN k (o :: l) A :=
  h.elim fun ks hk => ⟨.det c :: ks, ⟨hw, hg⟩, hk⟩
theorem WalkR.nd {o : Oper} {l : List Oper} {A : (Nat → Value) → Act} {d : Nat} (hw : ∀ ρ, Region.wanted o (yielded ops (A ρ).tmps) = true) (hd : o.dst = some d)
    (hg : ∀ D ρ w, Knows ops k D → C D ρ w → givesF F m P o (A ρ) w (fun v w' => C (done D k) (upd ρ o.dst v) w')) (h : WalkR F m P ops C QN (k + 1) l (fun ρ => (A ρ).put o.dst (ρ d))) : WalkR F m P ops C QN k (o :: l) A :=
  h.elim fun ks hk => ⟨.nd d :: ks, ⟨hw, hg, hd⟩, hk⟩
theorem WalkR.fn {o : Oper} {l : List Oper} {A : (Nat → Value) → Act} (u : Nat) (G : Value → Value) (hw : ∀ ρ, Region.wanted o (yielded ops (A ρ).tmps) = true) (hanc : ancB ops k u = true)
    (hg : ∀ D ρ w, Knows ops k D → C D ρ w → givesF F m P o (A ρ) w (fun v w' => v = G (ρ u) ∧ C (done D k) (upd ρ o.dst v) w')) (h : WalkR F m P ops C QN (k + 1) l (fun ρ => (A ρ).put o.dst (G (ρ u)))) : WalkR F m P ops C QN k (o :: l) A :=
  h.elim fun ks hk => ⟨.fn u G :: ks, ⟨hw, hanc, hg⟩, hk⟩

end

end R7
end Go.Proofs.Ytjjipkgconmfcaa
