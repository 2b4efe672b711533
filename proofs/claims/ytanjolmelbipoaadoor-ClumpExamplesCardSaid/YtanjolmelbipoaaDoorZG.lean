/-
  The greatest harvest as plain lists; a third law of drawn regions; harvests; what mostOf remembers; its closure at a state that is known.
-/
import Derived.Test.YtanjolmelbipoaaDoorZB
import Derived.Test.YtanjolmelbipoaaDoorZA
import Derived.Deep.DeepCutAuto
import Derived.Maps.OwnSet
import Derived.DeepKeys4
import Derived.Deep.LoopGhost
namespace Go.Proofs.YtanjolmelbipoaaDoor

/-- A plan and what is cut by it, if there is one. -/
abbrev Pl := Option (List Int × Int)

/-- The better one of what was found, and of a year's cut with what comes behind it. -/
def upd (n : Int) (best rest : Pl) : Pl :=
  match rest, best with
  | none, _ => best
  | some (p, t), none => some (n :: p, n + t)
  | some (p, t), some (q, u) => if u < n + t then some (n :: p, n + t) else some (q, u)

/-- Numbers are tried one after the other, as long as they are allowed. -/
def tryL (ok : Int → Bool) (f : Int → Pl) : Nat → Int → Pl → Pl
  | 0, _, best => best
  | k + 1, n, best => if ok n = true then tryL ok f k (n + 1) (upd n best (f n)) else best

/-- The first of the best plans that are sure. -/
def bestL (h : Hab) (r b : Nat) : List (Int × Int) → List Int → Pl
  | [], _ => some ([], 0)
  | p :: ps, l => tryL (okY r h.keep l (shotsL b l h.lo p.1)) (fun n => bestL h r b ps (yearL l (shotsL b l h.lo p.1) n)) 31 0 none

/-- What is known of a plan for m years. -/
def Good (m : Nat) (o : Pl) : Prop := ∀ p t, o = some (p, t) → p.length = m ∧ Bnd 0 30 p ∧ t = p.sum ∧ 0 ≤ t ∧ t ≤ 30 * m

theorem Good.none {m : Nat} : Good m none := fun _ _ h => by cases h
theorem Good.upd {m : Nat} {n : Int} (h0 : 0 ≤ n) (h1 : n ≤ 30) {best rest : Pl} (hb : Good (m + 1) best) (hr : Good m rest) : Good (m + 1) (upd n best rest) := by
  have key : ∀ p t, rest = some (p, t) → Good (m + 1) (some (n :: p, n + t)) := fun p t e => by
    obtain ⟨e1, e2, e3, e4, e5⟩ := hr p t e
    intro p' t' e'
    cases e'
    refine ⟨by simp [e1], ?_, by simp [e3], by omega, by push_cast; omega⟩
    rw [Bnd.iff_mem] at e2 ⊢
    intro x hx
    rcases List.mem_cons.1 hx with rfl | hx
    · exact ⟨h0, h1⟩
    · exact e2 x hx
  unfold Proofs.YtanjolmelbipoaaDoor.upd
  split
  · exact hb
  · exact key _ _ rfl
  · split
    · exact key _ _ rfl
    · exact hb

theorem Good.tryL {m : Nat} {ok : Int → Bool} {f : Int → Pl} (hf : ∀ n, 0 ≤ n → n ≤ 30 → Good m (f n)) : ∀ (k : Nat) (n : Int) (best : Pl), 0 ≤ n → n + k ≤ 31 → Good (m + 1) best → Good (m + 1) (tryL ok f k n best)
  | 0, _, _, _, _, hb => hb
  | k + 1, n, best, h0, h1, hb => by
    unfold Proofs.YtanjolmelbipoaaDoor.tryL
    split
    · exact Good.tryL hf k (n + 1) _ (by omega) (by push_cast at h1; omega) (hb.upd h0 (by push_cast at h1; omega) (hf n h0 (by push_cast at h1; omega)))
    · exact hb

theorem bestL_good (h : Hab) (r b : Nat) : ∀ (ps : List (Int × Int)) (l : List Int), Good ps.length (bestL h r b ps l)
  | [], _ => fun p t e => by
    have e' : some (([] : List Int), (0 : Int)) = some (p, t) := e
    cases e'
    exact ⟨rfl, fun k hk => absurd hk (by simp), rfl, Int.le_refl _, by simp⟩
  | _ :: ps, _ => Good.tryL (fun _ _ _ => bestL_good h r b ps _) 31 0 none (Int.le_refl _) (by decide) Good.none

/-- As Most tells it. -/
def mostOut : Pl → List Int × Int × Int
  | some (p, t) => (p, t, 0)
  | none => ([], 0, 6)

/-! ### As the program keeps it -/
/-- Whether there is a plan, its culms, and the plan from the first year on. -/
def hvT (y : Nat) : Pl → Bool × Int × List Int
  | none => (false, 0, [0, 0, 0, 0])
  | some (p, t) => (true, t, List.replicate y 0 ++ p ++ List.replicate (4 - y - p.length) 0)
def wor (x : Bool × Int × List Int) : Int := if x.1 = true then x.2.1 else -1
def wit (y : Nat) (n : Int) (x : Bool × Int × List Int) : Bool × Int × List Int := (x.1, x.2.1 + n, x.2.2.set y n)

theorem hvT_len {m y : Nat} {o : Pl} (hy : y + m ≤ 4) (ho : Good m o) : (hvT y o).2.2.length = 4 := by
  cases o with
  | none => rfl
  | some x =>
    obtain ⟨p, t⟩ := x
    have := (ho p t rfl).1
    simp [hvT]
    omega
theorem hvT_tot {m y : Nat} {o : Pl} (ho : Good m o) : 0 ≤ (hvT y o).2.1 ∧ (hvT y o).2.1 ≤ 30 * m := by
  cases o with
  | none => simp [hvT]; omega
  | some x =>
    obtain ⟨p, t⟩ := x
    have := (ho p t rfl).2.2.2
    simpa [hvT] using this

theorem wit_some {m y : Nat} {p : List Int} {t n : Int} (hp : p.length = m) (hy : y + (m + 1) ≤ 4) : wit y n (hvT (y + 1) (some (p, t))) = hvT y (some (n :: p, n + t)) := by
  simp only [wit, hvT, List.length_cons, Prod.mk.injEq, true_and]
  refine ⟨by omega, ?_⟩
  rw [List.append_assoc, List.append_assoc, List.replicate_succ', List.append_assoc, List.set_append_right _ _ (by simp)]
  simp
  omega

theorem step_best {m y : Nat} {bo ro : Pl} {n : Int} (hy : y + (m + 1) ≤ 4) (h0 : 0 ≤ n) (hb : Good (m + 1) bo) (hr : Good m ro) :
    (if wor (hvT y bo) < wor (wit y n (hvT (y + 1) ro)) then wit y n (hvT (y + 1) ro) else hvT y bo) = hvT y (upd n bo ro) := by
  cases ro with
  | none =>
    have h1 : wor (wit y n (hvT (y + 1) none)) = -1 := rfl
    have h2 : -1 ≤ wor (hvT y bo) := by
      have := (hvT_tot (y := y) hb).1
      unfold wor
      split <;> omega
    rw [h1, if_neg (by omega)]
    cases bo <;> rfl
  | some x =>
    obtain ⟨p, t⟩ := x
    obtain ⟨e1, _, _, e4, _⟩ := hr p t rfl
    rw [wit_some e1 hy]
    have h1 : wor (hvT y (some (n :: p, n + t))) = n + t := rfl
    rw [h1]
    cases bo with
    | none =>
      have h2 : wor (hvT y none) = -1 := rfl
      rw [h2, if_pos (by omega)]
      rfl
    | some z =>
      obtain ⟨q, u⟩ := z
      have h2 : wor (hvT y (some (q, u))) = u := rfl
      rw [h2]
      simp only [upd]
      split <;> rfl

theorem tryL_yes {ok : Int → Bool} {f : Int → Pl} {k : Nat} {n : Int} {best : Pl} (h : ok n = true) : tryL ok f (k + 1) n best = tryL ok f k (n + 1) (upd n best (f n)) := by
  rw [tryL, if_pos h]
theorem tryL_no {ok : Int → Bool} {f : Int → Pl} {k : Nat} {n : Int} {best : Pl} (h : ok n = false) : tryL ok f k n best = best := by
  cases k with
  | zero => rfl
  | succ k => rw [tryL, if_neg (by simp [h])]

/-- How often a result is kept, at most. -/
def kept : Nat → Nat
  | 0 => 0
  | m + 1 => 1 + 31 * kept m
theorem kept_le : ∀ {m : Nat}, m ≤ 4 → kept m ≤ 30784
  | 0, _ => by decide
  | 1, _ => by decide
  | 2, _ => by decide
  | 3, _ => by decide
  | 4, _ => by decide
  | m + 5, h => by omega

end Go.Proofs.YtanjolmelbipoaaDoor

namespace Go.Proofs.YtanjolmelbipoaaDoor
namespace R3
open R2

/-- Whether operation i waits for the one that writes slot d, in so many steps. -/
def needsD (ops : Array Oper) : Nat → Nat → Nat → Bool
  | 0, _, _ => false
  | f + 1, i, d =>
    match ops[i]? with
    | none => false
    | some o => o.after.any fun e => Region.binds .any e && ((match ops[e.on]? with | some oe => oe.dst == some d | none => false) || needsD ops f e.on d)

/-- Each operation that writes x0 is the one that writes slot d, or waits for it. -/
def aheadB (ops : Array Oper) (x0 : Option Nat) (d : Nat) : Bool :=
  (List.range ops.size).all fun i =>
    match ops[i]? with
    | none => true
    | some oi => oi.dst != x0 || oi.dst == some d || needsD ops ops.size i d

theorem aheadB_ok {ops : Array Oper} {x0 : Option Nat} {d i : Nat} {oi : Oper} (h : aheadB ops x0 d = true) (hi : ops[i]? = some oi) (hx : oi.dst = x0) : oi.dst = some d ∨ needsD ops ops.size i d = true := by
  simp only [aheadB, List.all_eq_true, List.mem_range] at h
  have := h i (Array.getElem?_eq_some_iff.1 hi).1
  simp only [hi, Bool.or_eq_true, bne_iff_ne, ne_eq, beq_iff_eq] at this
  rcases this with (h1 | h1) | h1
  · exact absurd hx h1
  · exact .inl h1
  · exact .inr h1

theorem needsD_ok {ops : Array Oper} {listed : Array Bool} (hc : ∀ (j : Nat) (o : Oper), ops[j]? = some o → listed.getD j false = true → ∀ e ∈ o.after, Region.binds .any e = true → listed.getD e.on false = true) :
    ∀ (f i d : Nat), listed.getD i false = true → needsD ops f i d = true → ∃ j oj, ops[j]? = some oj ∧ oj.dst = some d ∧ listed.getD j false = true
  | 0, _, _, _, h => by simp [needsD] at h
  | f + 1, i, d, hl, h => by
    unfold needsD at h
    split at h
    · cases h
    · rename_i o ho
      obtain ⟨e, he, hb⟩ := Array.any_eq_true'.1 h
      simp only [Bool.and_eq_true, Bool.or_eq_true] at hb
      have hle := hc i o ho hl e he hb.1
      rcases hb.2 with h1 | h1
      · split at h1
        · rename_i oe hoe
          exact ⟨e.on, oe, hoe, by simpa using h1, hle⟩
        · cases h1
      · exact needsD_ok hc f e.on d hle h1

section
variable (P : Program) (ops : Array Oper) (C : World → Prop) (S : Oper → World → World → Prop) (x0 : Option Nat) (Ψ : World → Prop) (QN : Act → World → Prop)

/-- What is owed for one operation. -/
def StepOk (o : Oper) (kd : R2.Kd) (A : (Nat → Value) → Act) (hs : List (Nat × Fact)) (us : List (Nat × Nat × Fact)) : Prop :=
  match kd with
  | .un => ∀ ρ, Region.wanted o (yielded ops (A ρ).tmps) = false
  | .det c => (∀ ρ, Region.wanted o (yielded ops (A ρ).tmps) = true) ∧ ∃ ts : List Nat, o.looksAt ops = ts ∧
      ∀ ρ w, C w → (∀ p ∈ hs, p.1 ∈ ts → p.2 (ρ p.1) w) → ((∀ p ∈ us, p.1 ∈ ts → o.dst = some p.2.1 → p.2.2 (ρ p.1) w) ∧ ((∃ d, o.dst = some d ∧ aheadB ops x0 d = true) → Ψ w)) → gives P o (A ρ) w (fun v w' => v = c ∧ S o w w' ∧ C w')
  | .nd d Φ => (∀ ρ, Region.wanted o (yielded ops (A ρ).tmps) = true) ∧ (∃ ts : List Nat, o.looksAt ops = ts ∧
      ∀ ρ w, C w → (∀ p ∈ hs, p.1 ∈ ts → p.2 (ρ p.1) w) → ((∀ p ∈ us, p.1 ∈ ts → o.dst = some p.2.1 → p.2.2 (ρ p.1) w) ∧ ((∃ d, o.dst = some d ∧ aheadB ops x0 d = true) → Ψ w)) → gives P o (A ρ) w (fun v w' => Φ v w' ∧ S o w w' ∧ C w')) ∧ o.dst = some d ∧ (∀ (o' : Oper) v w w', o'.dst ≠ some d → (∀ u ∈ R2.depsOf ops o, o'.dst ≠ some u) → Φ v w → S o' w w' → C w' → Φ v w')
  | .fx t Φ => (∀ ρ, Region.wanted o (yielded ops (A ρ).tmps) = true) ∧ (∃ ts : List Nat, o.looksAt ops = ts ∧ t ∈ ts ∧ t ∈ R2.depsOf ops o ∧
      ∀ ρ w, C w → (∀ p ∈ hs, p.1 ∈ ts → p.2 (ρ p.1) w) → ((∀ p ∈ us, p.1 ∈ ts → o.dst = some p.2.1 → p.2.2 (ρ p.1) w) ∧ ((∃ d, o.dst = some d ∧ aheadB ops x0 d = true) → Ψ w)) → gives P o (A ρ) w (fun _ w' => Φ (slot (A ρ) t) w' ∧ S o w w' ∧ C w')) ∧ o.dst = none ∧ (∀ (o' : Oper) v w w', Φ v w → S o' w w' → C w' → Φ v w')
  | .tp d x Φ => (∀ ρ, Region.wanted o (yielded ops (A ρ).tmps) = true) ∧ (∃ ts : List Nat, o.looksAt ops = ts ∧
      ∀ ρ w, C w → (∀ p ∈ hs, p.1 ∈ ts → p.2 (ρ p.1) w) → ((∀ p ∈ us, p.1 ∈ ts → o.dst = some p.2.1 → p.2.2 (ρ p.1) w) ∧ ((∃ d, o.dst = some d ∧ aheadB ops x0 d = true) → Ψ w)) → gives P o (A ρ) w (fun v w' => Φ v w' ∧ S o w w' ∧ C w')) ∧ o.dst = some d ∧ (∀ (o' : Oper) v w w', o'.dst ≠ some d → o'.dst ≠ some x → Φ v w → S o' w w' → C w' → Φ v w')

/-- The walk in the text's order. -/
def Steps : List Oper → List R2.Kd → ((Nat → Value) → Act) → List (Nat × Fact) → List (Nat × Nat × Fact) → List (Nat × Fact) → Prop
  | [], [], A, hs, _, fs => ∀ ρ w, C w → (∀ p ∈ hs, p.2 (ρ p.1) w) → (∀ p ∈ fs, p.2 (slot (A ρ) p.1) w) → QN (A ρ) w
  | o :: l, kd :: ks, A, hs, us, fs => StepOk P ops C S x0 Ψ o kd A hs us ∧ Steps l ks (R2.nextA A o kd) (R2.nextH hs kd) (R2.nextT us kd) (R2.nextF fs kd)
  | _, _, _, _, _, _ => False

/-- .. without its list: what a proof goes through. -/
def WalkR (l : List Oper) (A : (Nat → Value) → Act) (hs : List (Nat × Fact)) (us : List (Nat × Nat × Fact)) (fs : List (Nat × Fact)) : Prop := ∃ ks, Steps P ops C S x0 Ψ QN l ks A hs us fs

variable {P ops C S x0 Ψ QN}

theorem Steps.at_ : ∀ {l : List Oper} {ks : List R2.Kd} {A : (Nat → Value) → Act} {hs : List (Nat × Fact)} {us : List (Nat × Nat × Fact)} {fs : List (Nat × Fact)}, Steps P ops C S x0 Ψ QN l ks A hs us fs → ∀ i o, l[i]? = some o → ∃ kd, ks[i]? = some kd ∧ StepOk P ops C S x0 Ψ o kd (R2.stA A l ks i) (R2.stH hs ks i) (R2.stT us ks i)
  | o :: l, kd :: ks, A, hs, us, fs, h, 0, o', ho => by
    simp at ho; subst ho
    exact ⟨kd, rfl, h.1⟩
  | o :: l, kd :: ks, A, hs, us, fs, h, i + 1, o', ho => Steps.at_ h.2 i o' (by simpa using ho)
  | [], _, _, _, _, _, _, _, _, ho => by simp at ho
  | _ :: _, [], _, _, _, _, h, _, _, _ => h.elim

theorem Steps.end_ : ∀ {l : List Oper} {ks : List R2.Kd} {A : (Nat → Value) → Act} {hs : List (Nat × Fact)} {us : List (Nat × Nat × Fact)} {fs : List (Nat × Fact)}, Steps P ops C S x0 Ψ QN l ks A hs us fs →
    ks.length = l.length ∧ ∀ ρ w, C w → (∀ p ∈ R2.stH hs ks l.length, p.2 (ρ p.1) w) → (∀ p ∈ R2.stF fs ks l.length, p.2 (slot (R2.stA A l ks l.length ρ) p.1) w) → QN (R2.stA A l ks l.length ρ) w
  | [], [], A, hs, us, fs, h => ⟨rfl, h⟩
  | o :: l, kd :: ks, A, hs, us, fs, h => by
    obtain ⟨h1, h2⟩ := Steps.end_ h.2
    exact ⟨by simp [h1], h2⟩
  | [], _ :: _, _, _, _, _, h => h.elim
  | _ :: _, [], _, _, _, _, h => h.elim

/-- What holds on the way: of the operations that have come up. -/
structure InvR (C : World → Prop) (x0 : Option Nat) (Ψ : World → Prop) (ks : List R2.Kd) (ops : Array Oper) (a0 : Act) (listed : Array Bool) (a : Act) (w : World) : Prop where
  len : listed.size = ops.size
  size : a.tmps.size = a0.tmps.size
  defers : a.defers = a0.defers
  cls : C w
  psi : (∀ (i : Nat) (oi : Oper), ops[i]? = some oi → oi.dst = x0 → listed.getD i false = false) → Ψ w
  closed : ∀ (j : Nat) (o : Oper), ops[j]? = some o → listed.getD j false = true → ∀ e ∈ o.after, Region.binds .any e = true → listed.getD e.on false = true
  other : ∀ t, (∀ (j : Nat) (o : Oper), ops[j]? = some o → listed.getD j false = true → o.dst ≠ some t) → slot a t = slot a0 t
  wrote : ∀ (j : Nat) (o : Oper) (kd : R2.Kd), ops[j]? = some o → ks[j]? = some kd → listed.getD j false = true →
    (∀ d, o.dst = some d → slot a d = R2.ent kd (slot a)) ∧ (∀ d Φ, kd = .nd d Φ → o.dst = some d ∧ Φ (slot a d) w) ∧ (∀ t Φ, kd = .fx t Φ → t ∈ R2.depsOf ops o ∧ Φ (slot a t) w) ∧
    (∀ d x Φ, kd = .tp d x Φ → o.dst = some d ∧ ((∀ (i : Nat) (oi : Oper), ops[i]? = some oi → oi.dst = some x → listed.getD i false = false) → Φ (slot a d) w))

theorem slot_at {n : Nat} {a0 : Act} {listed : Array Bool} {a : Act} {w : World} {ks : List R2.Kd} (R : R2.RegOk n ops) (hn : a0.tmps.size = n) (hk : ks.length = ops.size) (I : InvR C x0 Ψ ks ops a0 listed a w) {k : Nat} {o : Oper} (ho : ops[k]? = some o)
    (hr : ∀ e ∈ o.after, Region.binds .any e = true → listed.getD e.on false = true) (h0 : listed.getD k false = false) {t : Nat} (ht : t ∈ o.looksAt ops) :
    slot a t = slot (R2.stA (fun _ => a0) ops.toList ks k (slot a)) t := by
  by_cases hw : ∃ (j : Nat) (oj : Oper), ops[j]? = some oj ∧ oj.dst = some t
  · obtain ⟨j, oj, hoj, hd⟩ := hw
    rcases R.waits k o j oj t ho hoj hd ht with ⟨hjk, e, he, hb, rfl⟩ | ⟨hjk, e, he, hb, hek⟩
    · have hl := hr e he hb
      have hjs : e.on < ks.length := by rw [hk]; exact (Array.getElem?_eq_some_iff.1 hoj).1
      have hkd : ks[e.on]? = some ks[e.on] := List.getElem?_eq_getElem hjs
      rw [R2.stA_wrote (fun _ => a0) ops.toList ks k (slot a) t e.on oj _ hjk (by simpa using hoj) hkd hd (by rw [hn]; exact R.inb _ _ _ hoj hd)
        (fun j' o' h1 h2 h3 h4 => by
          have := R.once e.on oj j' o' t hoj (by simpa using h3) h4 hd
          omega)]
      exact (I.wrote e.on oj _ hoj hkd hl).1 t hd
    · rw [R2.stA_other (fun _ => a0) ops.toList ks k (slot a) t (fun j' oj' hj' hoj' hd' => by
        have := R.once j oj j' oj' t hoj (by simpa using hoj') hd' hd
        omega)]
      refine I.other t (fun j' oj' hoj' hl hd' => ?_)
      have hjj := R.once j oj j' oj' t hoj hoj' hd' hd
      subst hjj
      have := I.closed j' oj hoj hl e he hb
      rw [hek, h0] at this; cases this
  · rw [R2.stA_other (fun _ => a0) ops.toList ks k (slot a) t (fun j oj _ hoj hd => hw ⟨j, oj, by simpa using hoj, hd⟩)]
    exact I.other t (fun j oj hoj _ hd => hw ⟨j, oj, hoj, hd⟩)

theorem walk_sound {n : Nat} {a0 : Act} {ks : List R2.Kd} {Q : Exit → Act → World → Prop} (R : R2.RegOk n ops) (hn : a0.tmps.size = n) (hS : ∀ o w, S o w w) (hPsi : ∀ (o' : Oper) w w', o'.dst ≠ x0 → Ψ w → S o' w w' → C w' → Ψ w') (hSt : Steps P ops C S x0 Ψ (Q .normal) ops.toList ks (fun _ => a0) [] [] []) :
    ∀ (fuel : Nat) (listed : Array Bool) (a : Act) (w : World), InvR C x0 Ψ ks ops a0 listed a w → listed.toList.countP (fun b => !b) ≤ fuel → wpAny P .any ops Q fuel listed a w := by
  obtain ⟨hk, hend⟩ := hSt.end_
  simp only [Array.length_toList] at hk hend
  -- all have come up: the state is the walk's last one
  have fin : ∀ (listed : Array Bool) (a : Act) (w : World), InvR C x0 Ψ ks ops a0 listed a w → Region.ready .any ops listed = [] → Q .normal a w := by
    intro listed a w I hr
    have hall : ∀ k, k < ops.size → listed.getD k false = true := by
      intro k
      induction k using Nat.strongRecOn with
      | _ k ih =>
        intro hlt
        have hks : k < listed.size := by rw [I.len]; exact hlt
        cases hb : listed.getD k false with
        | true => rfl
        | false =>
          exfalso
          have hk2 : k ∈ Region.ready .any ops listed := by
            refine mem_ready.2 ⟨by simpa [hks] using hb, ops[k], Array.getElem?_eq_getElem hlt, fun e he hbi => ?_⟩
            have hlt2 := R.back k _ (Array.getElem?_eq_getElem hlt) e he hbi
            exact ih e.on hlt2 (by omega)
          rw [hr] at hk2; cases hk2
    have ha : a = R2.stA (fun _ => a0) ops.toList ks ops.size (slot a) := by
      have hsz := R2.stA_size (fun _ => a0) ops.toList ks ops.size (slot a)
      have hslot : ∀ t, slot a t = slot (R2.stA (fun _ => a0) ops.toList ks ops.size (slot a)) t := by
        intro t
        by_cases hw : ∃ (j : Nat) (oj : Oper), ops[j]? = some oj ∧ oj.dst = some t
        · obtain ⟨j, oj, hoj, hd⟩ := hw
          have hj := (Array.getElem?_eq_some_iff.1 hoj).1
          have hkd : ks[j]? = some ks[j] := List.getElem?_eq_getElem (by omega)
          rw [R2.stA_wrote (fun _ => a0) ops.toList ks ops.size (slot a) t j oj _ hj (by simpa using hoj) hkd hd (by rw [hn]; exact R.inb _ _ _ hoj hd)
            (fun j' o' h1 h2 h3 h4 => by
              have := R.once j oj j' o' t hoj (by simpa using h3) h4 hd
              omega)]
          exact (I.wrote j oj _ hoj hkd (hall j hj)).1 t hd
        · rw [R2.stA_other (fun _ => a0) ops.toList ks ops.size (slot a) t (fun j oj _ hoj hd => hw ⟨j, oj, by simpa using hoj, hd⟩)]
          exact I.other t (fun j oj hoj _ hd => hw ⟨j, oj, hoj, hd⟩)
      obtain ⟨h1, h2⟩ := hsz
      have hd := I.defers
      have hs := I.size
      generalize R2.stA (fun _ => a0) ops.toList ks ops.size (slot a) = b at *
      obtain ⟨ta, da⟩ := a
      obtain ⟨tb, db⟩ := b
      simp only [Act.mk.injEq] at *
      refine ⟨?_, by rw [hd, h2]⟩
      apply Array.ext
      · omega
      · intro i hi1 hi2
        have := hslot i
        simp only [slot] at this
        simpa [hi1, hi2] using this
    rw [ha]
    refine hend _ w I.cls (fun p hp => ?_) (fun p hp => ?_)
    · rcases R2.stH_mem [] ks ops.size p hp with h1 | ⟨j, hj, hkd⟩
      · cases h1
      · exact ((I.wrote j _ _ (Array.getElem?_eq_getElem hj) hkd (hall j hj)).2.1 p.1 p.2 rfl).2
    · rcases R2.stF_mem [] ks ops.size p hp with h1 | ⟨j, hj, hkd⟩
      · cases h1
      · rw [← ha]
        exact ((I.wrote j _ _ (Array.getElem?_eq_getElem hj) hkd (hall j hj)).2.2.1 p.1 p.2 rfl).2
  intro fuel
  induction fuel with
  | zero =>
    intro listed a w I hc
    have hr : Region.ready .any ops listed = [] := by
      rw [List.eq_nil_iff_forall_not_mem]
      intro k hk2
      obtain ⟨h0, o, ho, _⟩ := mem_ready.1 hk2
      have hks : k < listed.size := by rw [I.len]; exact (Array.getElem?_eq_some_iff.1 ho).1
      have hm : listed[k] ∈ listed.toList := by simp
      have := List.countP_eq_zero.1 (by omega : listed.toList.countP (fun b => !b) = 0) _ hm
      simp [hks] at h0
      simp [h0] at this
    exact ⟨hr, fin listed a w I hr⟩
  | succ fuel ih =>
    intro listed a w I hc
    refine ⟨fin listed a w I, fun k hk2 => ?_⟩
    obtain ⟨h0, o, ho, hr⟩ := mem_ready.1 hk2
    have hks : k < listed.size := by rw [I.len]; exact (Array.getElem?_eq_some_iff.1 ho).1
    obtain ⟨kd, hkd, hst⟩ := hSt.at_ k o (by simpa using ho)
    have h0k : listed.getD k false = false := by
      simp only [Array.getD_eq_getD_getElem?, Array.getElem?_eq_getElem hks, Option.getD_some] at h0 ⊢; exact h0
    have hsl : ∀ t, t ∈ o.looksAt ops → slot a t = slot (R2.stA (fun _ => a0) ops.toList ks k (slot a)) t := fun t ht => slot_at R hn hk I ho hr h0k ht
    have hsz := R2.stA_size (fun _ => a0) ops.toList ks k (slot a)
    have hev : execOp a.eval o = execOp (R2.stA (fun _ => a0) ops.toList ks k (slot a)).eval o :=
      execOp_congr o (R.sel k o ho) fun x hx => by
        cases x with
        | tmp t => exact hsl t (List.mem_append_left _ (List.mem_filterMap.2 ⟨.tmp t, by simpa using hx, rfl⟩))
        | _ => rfl
    have hwn : Region.wanted o (yielded ops a.tmps) = Region.wanted o (yielded ops (R2.stA (fun _ => a0) ops.toList ks k (slot a)).tmps) := by
      unfold Region.wanted
      cases hg : o.guard with
      | none => rfl
      | some gw =>
        obtain ⟨g, want⟩ := gw
        have : yielded ops a.tmps g = yielded ops (R2.stA (fun _ => a0) ops.toList ks k (slot a)).tmps g := by
          unfold yielded
          cases ht : (ops[g]?).bind (·.dst) with
          | none => rfl
          | some t =>
            have hm : t ∈ o.looksAt ops := by simp [Oper.looksAt, hg, ht]
            have hs := hsl t hm
            have hsz' := I.size
            have e1 : a.tmps.size = (R2.stA (fun _ => a0) ops.toList ks k (slot a)).tmps.size := by rw [hsz.1, hsz']
            simp only [slot] at hs
            have : a.tmps[t]? = (R2.stA (fun _ => a0) ops.toList ks k (slot a)).tmps[t]? := by
              rcases Nat.lt_or_ge t a.tmps.size with h | h
              · have h2 : t < (R2.stA (fun _ => a0) ops.toList ks k (slot a)).tmps.size := by rw [← e1]; exact h
                simpa [h, h2] using hs
              · rw [Array.getElem?_eq_none h, Array.getElem?_eq_none (by omega)]
            simp [this]
        simp only [this]
    have hcount : (listed.setIfInBounds k true).toList.countP (fun b => !b) ≤ fuel := by
      have hf : listed.toList[k]? = some false := by simp [hks] at h0; simp [hks, h0]
      have := countP_set hf
      rw [Array.toList_setIfInBounds]
      omega
    have hset : ∀ j, (listed.setIfInBounds k true).getD j false = true ↔ j = k ∨ listed.getD j false = true := by
      intro j
      by_cases hjk : j = k
      · subst hjk; simp [hks]
      · rw [getD_set_ne false (Ne.symm hjk)]; simp [hjk]
    -- an operation that is done waits for nothing that is not
    have notdone : ∀ (j : Nat) (oj : Oper), ops[j]? = some oj → listed.getD j false = true → ∀ u ∈ R2.depsOf ops oj, o.dst ≠ some u := by
      intro j oj hoj hlj u hu hd'
      obtain ⟨e, he, hb, od, hod, hdu⟩ := R2.mem_deps.1 hu
      have hek := R.once k o e.on od u ho hod hdu hd'
      have := I.closed j oj hoj hlj e he hb
      rw [hek, h0k] at this; cases this
    -- the state behind the operation
    have next : ∀ v w', S o w w' → C w' → v = R2.ent kd (slot (a.put o.dst v)) → (∀ d Φ, kd = .nd d Φ → o.dst = some d ∧ Φ v w') → (∀ t Φ, kd = .fx t Φ → t ∈ R2.depsOf ops o ∧ Φ (slot (a.put o.dst v) t) w') → (∀ d x Φ, kd = .tp d x Φ → o.dst = some d ∧ Φ v w') →
        InvR C x0 Ψ ks ops a0 (listed.setIfInBounds k true) (a.put o.dst v) w' := by
      intro v w' hS' hC' hv hnd hfx htp
      have hin : ∀ d, o.dst = some d → d < a.tmps.size := fun d hd => by rw [I.size, hn]; exact R.inb k o d ho hd
      refine ⟨by simp [I.len], by rw [size_put, I.size], by rw [defers_put, I.defers], hC', fun hno => ?_, fun j oj hoj hlj e he hb => ?_, fun t ht => ?_, fun j oj kj hoj hkj hlj => ?_⟩
      · have hnx : o.dst ≠ x0 := fun hx => by
          have := hno k o ho hx
          rw [(hset k).2 (.inl rfl)] at this; cases this
        refine hPsi o _ _ hnx (I.psi fun i oi hoi hx => ?_) hS' hC'
        have := hno i oi hoi hx
        cases hb : listed.getD i false with
        | false => rfl
        | true => rw [(hset i).2 (.inr hb)] at this; cases this
      · rcases (hset j).1 hlj with rfl | hlk
        · rw [ho] at hoj; cases hoj
          exact (hset _).2 (.inr (hr e he hb))
        · exact (hset _).2 (.inr (I.closed j oj hoj hlk e he hb))
      · rw [slot_put_ne (ht k o ho ((hset k).2 (.inl rfl)))]
        exact I.other t (fun j oj hoj hlj => ht j oj hoj ((hset j).2 (.inr hlj)))
      · rcases (hset j).1 hlj with rfl | hlk
        · rw [ho] at hoj; cases hoj
          rw [hkd] at hkj; cases hkj
          refine ⟨fun d hd => ?_, fun d Φ hkn => ?_, hfx, fun d x Φ hkn => ?_⟩
          · have : slot (a.put o.dst v) d = v := by rw [hd]; exact slot_put_same (hin d hd)
            rw [this]; exact hv
          · obtain ⟨hd, hΦ⟩ := hnd d Φ hkn
            refine ⟨hd, ?_⟩
            have : slot (a.put o.dst v) d = v := by rw [hd]; exact slot_put_same (hin d hd)
            rw [this]; exact hΦ
          · obtain ⟨hd, hΦ⟩ := htp d x Φ hkn
            refine ⟨hd, fun _ => ?_⟩
            have : slot (a.put o.dst v) d = v := by rw [hd]; exact slot_put_same (hin d hd)
            rw [this]; exact hΦ
        · have hjk : j ≠ k := fun e => by rw [e, h0k] at hlk; cases hlk
          obtain ⟨h1, h2, h3, h4⟩ := I.wrote j oj kj hoj hkj hlk
          have hne : ∀ d, oj.dst = some d → o.dst ≠ some d := fun d hd hd' => hjk (R.once k o j oj d ho hoj hd hd')
          obtain ⟨kd', hkd', hst'⟩ := hSt.at_ j oj (by simpa using hoj)
          rw [hkj] at hkd'; cases hkd'
          refine ⟨fun d hd => ?_, fun d Φ hkn => ?_, fun t Φ hkn => ?_, fun d x Φ hkn => ?_⟩
          · rw [slot_put_ne (hne d hd), h1 d hd]
            cases kj with
            | un => rfl
            | det c => rfl
            | fx t Φ => rfl
            | nd d' Φ =>
              obtain ⟨hd', _⟩ := h2 d' Φ rfl
              exact (slot_put_ne (hne d' hd')).symm
            | tp d' x Φ =>
              obtain ⟨hd', _⟩ := h4 d' x Φ rfl
              exact (slot_put_ne (hne d' hd')).symm
          · obtain ⟨hd, hΦ⟩ := h2 d Φ hkn
            subst hkn
            refine ⟨hd, ?_⟩
            rw [slot_put_ne (hne d hd)]
            exact hst'.2.2.2 o _ _ _ (hne d hd) (notdone j oj hoj hlk) hΦ hS' hC'
          · obtain ⟨ht, hΦ⟩ := h3 t Φ hkn
            subst hkn
            refine ⟨ht, ?_⟩
            rw [slot_put_ne (notdone j oj hoj hlk t ht)]
            exact hst'.2.2.2 o _ _ _ hΦ hS' hC'
          · obtain ⟨hd, hΦ⟩ := h4 d x Φ hkn
            subst hkn
            refine ⟨hd, fun hno => ?_⟩
            rw [slot_put_ne (hne d hd)]
            have hnx : o.dst ≠ some x := fun hx => by
              have := hno k o ho hx
              rw [(hset k).2 (.inl rfl)] at this; cases this
            refine hst'.2.2.2 o _ _ _ (hne d hd) hnx (hΦ fun i oi hoi hx => ?_) hS' hC'
            have := hno i oi hoi hx
            cases hb : listed.getD i false with
            | false => rfl
            | true => rw [(hset i).2 (.inr hb)] at this; cases this
    have hfacts : ∀ ts : List Nat, o.looksAt ops = ts → ∀ p ∈ R2.stH [] ks k, p.1 ∈ ts → p.2 (slot a p.1) w := by
      intro ts hts p hp hpt
      rcases R2.stH_mem [] ks k p hp with h1 | ⟨j, hj, hkj⟩
      · cases h1
      · have hjl : j < ops.size := by have := (Array.getElem?_eq_some_iff.1 ho).1; omega
        have hoj := Array.getElem?_eq_getElem hjl
        obtain ⟨kd', hkd', hst'⟩ := hSt.at_ j ops[j] (by rw [Array.getElem?_toList]; exact hoj)
        rw [hkj] at hkd'; cases hkd'
        have hd := hst'.2.2.1
        obtain ⟨e, he, hb, hej⟩ : ∃ e ∈ o.after, Region.binds .any e = true ∧ e.on = j := by
          rcases R.waits k o j _ p.1 ho hoj hd (by rw [hts]; exact hpt) with ⟨_, h⟩ | ⟨h, _⟩
          · exact h
          · omega
        have hl := hr e he hb
        rw [hej] at hl
        exact ((I.wrote j _ _ hoj hkj hl).2.1 p.1 p.2 rfl).2
    have htemp : ∀ ts : List Nat, o.looksAt ops = ts → ∀ p ∈ R2.stT [] ks k, p.1 ∈ ts → o.dst = some p.2.1 → p.2.2 (slot a p.1) w := by
      intro ts hts p hp hpt hpx
      rcases R2.stT_mem [] ks k p hp with h1 | ⟨j, hj, hkj⟩
      · cases h1
      · have hjl : j < ops.size := by have := (Array.getElem?_eq_some_iff.1 ho).1; omega
        have hoj := Array.getElem?_eq_getElem hjl
        obtain ⟨kd', hkd', hst'⟩ := hSt.at_ j ops[j] (by rw [Array.getElem?_toList]; exact hoj)
        rw [hkj] at hkd'; cases hkd'
        have hd := hst'.2.2.1
        obtain ⟨e, he, hb, hej⟩ : ∃ e ∈ o.after, Region.binds .any e = true ∧ e.on = j := by
          rcases R.waits k o j _ p.1 ho hoj hd (by rw [hts]; exact hpt) with ⟨_, h⟩ | ⟨h, _⟩
          · exact h
          · omega
        have hl := hr e he hb
        rw [hej] at hl
        refine ((I.wrote j _ _ hoj hkj hl).2.2.2 p.1 p.2.1 p.2.2 rfl).2 fun i oi hoi hx => ?_
        have : i = k := R.once k o i oi p.2.1 ho hoi hx hpx
        rw [this]; exact h0k
    have hpsi : (∃ d, o.dst = some d ∧ aheadB ops x0 d = true) → Ψ w := fun ⟨d, hd, hb⟩ => I.psi fun i oi hoi hx => by
      cases hl : listed.getD i false with
      | false => rfl
      | true =>
        exfalso
        rcases aheadB_ok hb hoi hx with h1 | h1
        · have : i = k := R.once k o i oi d ho hoi h1 hd
          rw [this, h0k] at hl; cases hl
        · obtain ⟨j, oj, hoj, hjd, hlj⟩ := needsD_ok I.closed _ i d hl h1
          have : j = k := R.once k o j oj d ho hoj hjd hd
          rw [this, h0k] at hlj; cases hlj
    unfold wpOp
    simp only [ho]
    cases kd with
    | un =>
      have : Region.wanted o (yielded ops a.tmps) = false := by rw [hwn]; exact hst _
      simp only [this, Bool.false_eq_true, if_false]
      exact ih _ _ _ (next undef w (hS o w) I.cls rfl (fun d Φ h => by cases h) (fun t Φ h => by cases h) (fun d x Φ h => by cases h)) hcount
    | det c =>
      obtain ⟨hw, ts, hts, hg⟩ := hst
      have : Region.wanted o (yielded ops a.tmps) = true := by rw [hwn]; exact hw _
      simp only [this, if_true]
      refine .inl ((hg (slot a) w I.cls (hfacts ts hts) ⟨htemp ts hts, hpsi⟩).wp hev fun v w' ⟨hv, hS', hC'⟩ => ?_)
      exact ih _ _ _ (next v w' hS' hC' hv (fun d Φ h => by cases h) (fun t Φ h => by cases h) (fun d x Φ h => by cases h)) hcount
    | nd d Φ =>
      obtain ⟨hw, ⟨ts, hts, hg⟩, hd, _⟩ := hst
      have : Region.wanted o (yielded ops a.tmps) = true := by rw [hwn]; exact hw _
      simp only [this, if_true]
      refine .inl ((hg (slot a) w I.cls (hfacts ts hts) ⟨htemp ts hts, hpsi⟩).wp hev fun v w' ⟨hv, hS', hC'⟩ => ?_)
      refine ih _ _ _ (next v w' hS' hC' ?_ (fun d' Φ' h => by cases h; exact ⟨hd, hv⟩) (fun t Φ h => by cases h) (fun d x Φ h => by cases h)) hcount
      show v = slot (a.put o.dst v) d
      rw [hd]
      exact (slot_put_same (by rw [I.size, hn]; exact R.inb k o d ho hd)).symm
    | tp d x Φ =>
      obtain ⟨hw, ⟨ts, hts, hg⟩, hd, _⟩ := hst
      have : Region.wanted o (yielded ops a.tmps) = true := by rw [hwn]; exact hw _
      simp only [this, if_true]
      refine .inl ((hg (slot a) w I.cls (hfacts ts hts) ⟨htemp ts hts, hpsi⟩).wp hev fun v w' ⟨hv, hS', hC'⟩ => ?_)
      refine ih _ _ _ (next v w' hS' hC' ?_ (fun d' Φ' h => by cases h) (fun t Φ h => by cases h) (fun d' x' Φ' h => by cases h; exact ⟨hd, hv⟩)) hcount
      show v = slot (a.put o.dst v) d
      rw [hd]
      exact (slot_put_same (by rw [I.size, hn]; exact R.inb k o d ho hd)).symm
    | fx t Φ =>
      obtain ⟨hw, ⟨ts, hts, ht, htd, hg⟩, hd, _⟩ := hst
      have : Region.wanted o (yielded ops a.tmps) = true := by rw [hwn]; exact hw _
      simp only [this, if_true]
      refine .inl ((hg (slot a) w I.cls (hfacts ts hts) ⟨htemp ts hts, hpsi⟩).wp hev fun v w' ⟨hv, hS', hC'⟩ => ?_)
      have e : a.put o.dst v = a := by rw [hd]; rfl
      have e2 : a.put o.dst undef = a := by rw [hd]; rfl
      rw [e]
      have ht' : t ∈ o.looksAt ops := by rw [hts]; exact ht
      have hn := next undef w' hS' hC' rfl (fun d' Φ' h => by cases h) (fun t' Φ' h => by
        cases h
        rw [e2]
        refine ⟨htd, ?_⟩
        rw [hsl t ht']
        exact hv) (fun d x Φ h => by cases h)
      rw [e2] at hn
      exact ih _ _ _ hn hcount

/-- A REGION THAT DRAWS ITS ORDER, WALKED ONCE; Ψ holds till the operation that writes slot x0. -/
theorem wp_walkT {id : Nat} {Q : Exit → Act → World → Prop} {a0 : Act} {w0 : World} (n : Nat) (x0 : Option Nat) (Ψ : World → Prop) (hm : P.follows .mixedOrders = true) (hB : R2.regB ops n = true) (hn : a0.tmps.size = n) (hS : ∀ o w, S o w w) (hC : C w0.drew)
    (hPsi : ∀ (o' : Oper) w w', o'.dst ≠ x0 → Ψ w → S o' w w' → C w' → Ψ w') (h0 : Ψ w0.drew)
    (h : WalkR P ops C S x0 Ψ (Q .normal) ops.toList (fun _ => a0) [] [] []) : (Code.region id ops true).wp P Q a0 w0 := by
  obtain ⟨ks, hSt⟩ := h
  refine wp_region_any hm (walk_sound (R2.regB_ok hB) hn hS hPsi hSt ops.size (Array.replicate ops.size false) a0 _ ?_ ?_)
  · exact ⟨by simp, rfl, rfl, hC, fun _ => h0, fun j o ho hl => by simp [Array.getElem?_replicate] at hl; split at hl <;> simp at hl, fun _ _ => rfl, fun j o kd ho hk hl => by simp [Array.getElem?_replicate] at hl; split at hl <;> simp at hl⟩
  · simp [List.countP_replicate]

/-! ### The moves -/
variable {fs : List (Nat × Fact)} {us : List (Nat × Nat × Fact)}
theorem WalkR.nil {A : (Nat → Value) → Act} {hs : List (Nat × Fact)} (h : ∀ ρ w, C w → (∀ p ∈ hs, p.2 (ρ p.1) w) → (∀ p ∈ fs, p.2 (slot (A ρ) p.1) w) → QN (A ρ) w) : WalkR P ops C S x0 Ψ QN [] A hs us fs := ⟨[], h⟩
theorem WalkR.un {o : Oper} {l : List Oper} {A : (Nat → Value) → Act} {hs : List (Nat × Fact)} (hw : ∀ ρ, Region.wanted o (yielded ops (A ρ).tmps) = false) (h : WalkR P ops C S x0 Ψ QN l (fun ρ => (A ρ).put o.dst undef) hs us fs) : WalkR P ops C S x0 Ψ QN (o :: l) A hs us fs :=
  h.elim fun ks hk => ⟨.un :: ks, hw, hk⟩
theorem WalkR.det {o : Oper} {l : List Oper} {A : (Nat → Value) → Act} {hs : List (Nat × Fact)} {c : Value} {ts : List Nat} (hw : ∀ ρ, Region.wanted o (yielded ops (A ρ).tmps) = true) (hts : o.looksAt ops = ts)
    (hg : ∀ ρ w, C w → (∀ p ∈ hs, p.1 ∈ ts → p.2 (ρ p.1) w) → ((∀ p ∈ us, p.1 ∈ ts → o.dst = some p.2.1 → p.2.2 (ρ p.1) w) ∧ ((∃ d, o.dst = some d ∧ aheadB ops x0 d = true) → Ψ w)) → gives P o (A ρ) w (fun v w' => v = c ∧ S o w w' ∧ C w')) (h : WalkR P ops C S x0 Ψ QN l (fun ρ => (A ρ).put o.dst c) hs us fs) : WalkR P ops C S x0 Ψ QN (o :: l) A hs us fs :=
  h.elim fun ks hk => ⟨.det c :: ks, ⟨hw, ts, hts, hg⟩, hk⟩
theorem WalkR.nd {o : Oper} {l : List Oper} {A : (Nat → Value) → Act} {hs : List (Nat × Fact)} {d : Nat} (Φ : Fact) {ts : List Nat} (hw : ∀ ρ, Region.wanted o (yielded ops (A ρ).tmps) = true) (hts : o.looksAt ops = ts) (hd : o.dst = some d) (hst : ∀ (o' : Oper) v w w', o'.dst ≠ some d → (∀ u ∈ R2.depsOf ops o, o'.dst ≠ some u) → Φ v w → S o' w w' → C w' → Φ v w')
    (hg : ∀ ρ w, C w → (∀ p ∈ hs, p.1 ∈ ts → p.2 (ρ p.1) w) → ((∀ p ∈ us, p.1 ∈ ts → o.dst = some p.2.1 → p.2.2 (ρ p.1) w) ∧ ((∃ d, o.dst = some d ∧ aheadB ops x0 d = true) → Ψ w)) → gives P o (A ρ) w (fun v w' => Φ v w' ∧ S o w w' ∧ C w')) (h : WalkR P ops C S x0 Ψ QN l (fun ρ => (A ρ).put o.dst (ρ d)) ((d, Φ) :: hs) us fs) : WalkR P ops C S x0 Ψ QN (o :: l) A hs us fs :=
  h.elim fun ks hk => ⟨.nd d Φ :: ks, ⟨hw, ⟨ts, hts, hg⟩, hd, hst⟩, hk⟩
theorem WalkR.tp {o : Oper} {l : List Oper} {A : (Nat → Value) → Act} {hs : List (Nat × Fact)} {d : Nat} (x : Nat) (Φ : Fact) {ts : List Nat} (hw : ∀ ρ, Region.wanted o (yielded ops (A ρ).tmps) = true) (hts : o.looksAt ops = ts) (hd : o.dst = some d) (hst : ∀ (o' : Oper) v w w', o'.dst ≠ some d → o'.dst ≠ some x → Φ v w → S o' w w' → C w' → Φ v w')
    (hg : ∀ ρ w, C w → (∀ p ∈ hs, p.1 ∈ ts → p.2 (ρ p.1) w) → ((∀ p ∈ us, p.1 ∈ ts → o.dst = some p.2.1 → p.2.2 (ρ p.1) w) ∧ ((∃ d, o.dst = some d ∧ aheadB ops x0 d = true) → Ψ w)) → gives P o (A ρ) w (fun v w' => Φ v w' ∧ S o w w' ∧ C w')) (h : WalkR P ops C S x0 Ψ QN l (fun ρ => (A ρ).put o.dst (ρ d)) hs ((d, x, Φ) :: us) fs) : WalkR P ops C S x0 Ψ QN (o :: l) A hs us fs :=
  h.elim fun ks hk => ⟨.tp d x Φ :: ks, ⟨hw, ⟨ts, hts, hg⟩, hd, hst⟩, hk⟩
theorem WalkR.fx {o : Oper} {l : List Oper} {A : (Nat → Value) → Act} {hs : List (Nat × Fact)} (t : Nat) (Φ : Fact) {ts : List Nat} (hw : ∀ ρ, Region.wanted o (yielded ops (A ρ).tmps) = true) (hts : o.looksAt ops = ts) (ht : t ∈ ts) (htd : t ∈ R2.depsOf ops o) (hd : o.dst = none) (hst : ∀ (o' : Oper) v w w', Φ v w → S o' w w' → C w' → Φ v w')
    (hg : ∀ ρ w, C w → (∀ p ∈ hs, p.1 ∈ ts → p.2 (ρ p.1) w) → ((∀ p ∈ us, p.1 ∈ ts → o.dst = some p.2.1 → p.2.2 (ρ p.1) w) ∧ ((∃ d, o.dst = some d ∧ aheadB ops x0 d = true) → Ψ w)) → gives P o (A ρ) w (fun _ w' => Φ (slot (A ρ) t) w' ∧ S o w w' ∧ C w')) (h : WalkR P ops C S x0 Ψ QN l A hs us ((t, Φ) :: fs)) : WalkR P ops C S x0 Ψ QN (o :: l) A hs us fs :=
  h.elim fun ks hk => ⟨.fx t Φ :: ks, ⟨hw, ⟨ts, hts, ht, htd, hg⟩, hd, hst⟩, by rw [show R2.nextA A o (.fx t Φ) = A from funext fun ρ => by simp [R2.nextA, hd, Act.put]]; exact hk⟩

end

end R3
end Go.Proofs.YtanjolmelbipoaaDoor

namespace Go.Proofs.YtanjolmelbipoaaDoor
open Go.RowKit

attribute [local go_sem] gives

/-- A harvest's cells. -/
def hvl (x : Bool × Int × List Int) : List Value := .bool x.1 :: .int .i64 x.2.1 :: ints x.2.2
theorem rowHarvest : RowTy Tryd.prog 75 6 := ⟨⟨_, Tryd.underlying75, rfl⟩, by kernel_rfl⟩
theorem hvl_one (x : Bool × Int × List Int) : ∀ v ∈ hvl x, v.oneCell' = true := by
  intro v hv
  simp only [hvl, List.mem_cons] at hv
  rcases hv with rfl | rfl | hv
  · rfl
  · rfl
  · exact oneCells_ints _ v hv
theorem hvl_len {x : Bool × Int × List Int} (h : x.2.2.length = 4) : (hvl x).length = 6 := by simp [hvl, ints, h]
theorem len4 {l : List Int} (h : l.length = 4) : ∃ a b c d, l = [a, b, c, d] := by
  match l, h with
  | [a, b, c, d], _ => exact ⟨a, b, c, d, rfl⟩

theorem len6 {α : Type} {l : List α} (h : l.length = 6) : ∃ a b c d e f, l = [a, b, c, d, e, f] := by
  match l, h with
  | [a, b, c, d, e, f], _ => exact ⟨a, b, c, d, e, f, rfl⟩
theorem splice_all {α : Type} {L M : List α} (h : L.length = M.length) : splice L 0 M = M := by simp [splice, ← h]

theorem worth_any (x : Bool × Int × List Int) (hx : x.2.2.length = 4) (w : World) :
    Calls Tryd.prog 41 #[.agg (hvl x).toArray] w fun e w' => e = .returned (.int .i64 (wor x)) ∧ Below w.heap.size w w' := by
  obtain ⟨s, t, p⟩ := x
  obtain ⟨a, b, c, d, rfl⟩ := len4 hx
  simp only [hvl, ints, List.map_cons, List.map_nil]
  cases s
  all_goals
    go_enter Tryd.func41, Tryd.ntmps41
    go_wp2
    go_ret
    exact ⟨rfl, (Below.refl _ _).alloc (Nat.le_refl _) _⟩

set_option maxHeartbeats 1000000 in
theorem with_any (x : Bool × Int × List Int) (hx : x.2.2.length = 4) (y : Nat) (hy : y < 4) (n : Int) (h0 : 0 ≤ n) (h1 : n ≤ 30) (t0 : 0 ≤ x.2.1) (t1 : x.2.1 ≤ 1000) (w : World) :
    Calls Tryd.prog 40 #[.agg (hvl x).toArray, .int .i64 y, .int .i64 n] w fun e w' => e = .returned (.agg (hvl (wit y n x)).toArray) ∧ Below w.heap.size w w' := by
  obtain ⟨s, t, p⟩ := x
  obtain ⟨a, b, c, d, rfl⟩ := len4 hx
  simp only [hvl, ints, List.map_cons, List.map_nil, wit]
  simp only at t0 t1
  match y, hy with
  | 0, _ | 1, _ | 2, _ | 3, _ =>
    go_enter Tryd.func40, Tryd.ntmps40
    go_wp2
    refine bodyPost_ret (v := .agg _) (by simp [results, Tryd.results40, go_sem]) rfl ⟨rfl, ?_⟩
    exact ((Below.refl _ _).alloc (Nat.le_refl _) _).alloc (by simp) _

/-- Where better is: both harvests lie as they lay. -/
structure BetAt (w : World) (x y : List Value) (W : World) : Prop where
  h0 : W.heap[w.heap.size]? = some (.cells x.toArray 75 (0, 0))
  h1 : W.heap[w.heap.size + 1]? = some (.cells y.toArray 75 (0, 0))
  h2 : W.heap[w.heap.size + 1 + 1]? = some (.cells (hvl (false, 0, [0, 0, 0, 0])).toArray 75 (0, 0))
  bel : Below w.heap.size w W
  lt : w.heap.size + 2 < W.heap.size
theorem BetAt.next {w : World} {x y : List Value} {W W' : World} (hh : BetAt w x y W) (hg : Grows W W') : BetAt w x y W' :=
  ⟨(hg.block _ (lt_of_heap hh.h0)).trans hh.h0, (hg.block _ (lt_of_heap hh.h1)).trans hh.h1, (hg.block _ hh.lt).trans hh.h2, hh.bel.trans (hg.mono (by have := hh.lt; omega)), Nat.lt_of_lt_of_le hh.lt hg.size⟩

set_option maxRecDepth 100000 in
set_option maxHeartbeats 2000000 in
theorem better_any (x y : Bool × Int × List Int) (hx : x.2.2.length = 4) (hy : y.2.2.length = 4) (w : World) :
    Calls Tryd.prog 39 #[.agg (hvl x).toArray, .agg (hvl y).toArray, .func (.func 41) #[] #[]] w fun e w' => e = .returned (.agg (hvl (if wor x < wor y then y else x)).toArray) ∧ Below w.heap.size w w' := by
  have HX := Lib.hid (And.intro (fun W => worth_any x hx W) (And.intro (show RowTy Tryd.prog 75 (hvl x).length by rw [hvl_len hx]; exact rowHarvest) (And.intro (hvl_one x) (hvl_len hx))))
  have HY := Lib.hid (And.intro (fun W => worth_any y hy W) (And.intro (show RowTy Tryd.prog 75 (hvl y).length by rw [hvl_len hy]; exact rowHarvest) (And.intro (hvl_one y) (hvl_len hy))))
  have hif : (hvl (if wor x < wor y then y else x)) = if wor x < wor y then hvl y else hvl x := by split <;> rfl
  rw [hif]
  generalize wor x = m at HX ⊢
  generalize wor y = n at HY ⊢
  generalize hvl x = X at HX ⊢
  generalize hvl y = Y at HY ⊢
  clear hif hx hy
  by_cases hlt : m < n
  all_goals
    go_enter Tryd.func39, Tryd.ntmps39
    go_wp2
    have hSp : BetAt w X Y (((w.alloc (.cells X.toArray 75)).alloc (.cells Y.toArray 75)).alloc (.cells (hvl (false, 0, [0, 0, 0, 0])).toArray 75)) :=
      ⟨alloc3_at0 w _ _ _, alloc3_at1 w _ _ _, alloc3_at2 w _ _ _, (((Below.refl _ w).alloc (Nat.le_refl _) _).alloc (by simp) _).alloc (by simp <;> omega) _, by simp⟩
    have SP := Lib.hid hSp
    clear hSp
    refine wp_walk (C := BetAt w X Y) (S := Grows) 16 (by kernel_rfl) (by kernel_rfl) rfl Grows.refl (SP.out.next (Below.refl _ _).drew) ?_
    simp only []
    repeat
      (refine' WalkR.det (fun _ => rfl) rfl (fun ρ W hW hH => ?_) ?_
       rotate_left
       · clear hH
         have HW := Lib.hid hW
         clear hW
         first
           | exact gives_load_blk 75 (.tmp 4) rfl rfl HW.out.h1 Y at0 HY.out.2.1 ⟨rfl, Grows.refl _, HW.out⟩
           | exact gives_load_blk 75 (.tmp 3) rfl rfl HW.out.h0 X at0 HX.out.2.1 ⟨rfl, Grows.refl _, HW.out⟩
           | (go_simp
              first
                | with_reducible exact ⟨rfl, Grows.refl _, HW.out⟩
                | (go_at_call 41; refine (HY.out.1 W).mono ?_; rintro e W1 ⟨rfl, hB1⟩; exact ⟨_, rfl, rfl, hB1, HW.out.next hB1⟩)
                | (go_at_call 41; refine (HX.out.1 W).mono ?_; rintro e W1 ⟨rfl, hB1⟩; exact ⟨_, rfl, rfl, hB1, HW.out.next hB1⟩))
       simp only [Act.put, List.setIfInBounds_toArray, List.set_cons_succ, List.set_cons_zero])
    refine WalkR.nil (fun ρ W hW hH => ?_)
    clear hH
    have HW := Lib.hid hW
    clear hW
    go_wp2_with (first
      | (show wpList _ _ _ (Oper.mk (some 14) _ _ _ _ _ :: _) _ _
         refine wpList_load_blk 75 (.tmp 4) rfl rfl rfl HW.out.h1 Y at0 HY.out.2.1 ?_)
      | (show wpList _ _ _ (Oper.mk (some 15) _ _ _ _ _ :: _) _ _
         refine wpList_load_blk 75 (.tmp 3) rfl rfl rfl HW.out.h0 X at0 HX.out.2.1 ?_)
      | (show wpList _ _ _ (Oper.mk none (Op.store _ (Operand.tmp 6) (Operand.tmp 14)) _ _ _ _ :: _) _ _
         refine wpList_store_blk 75 (.tmp 6) (.tmp 14) rfl rfl rfl rfl rfl HW.out.h2 (by rw [HY.out.2.2.2]; decide) HY.out.2.2.1 HY.out.2.1 ?_
         intro w2 hP2 hM2
         rw [splice_all (by rw [HY.out.2.2.2]; rfl)] at hM2
         have B2 := Lib.hid (And.intro (HW.out.bel.trans (hP2.below (B := w.heap.size) (by omega))) hM2)
         clear hP2 hM2)
      | (show wpList _ _ _ (Oper.mk none (Op.store _ (Operand.tmp 6) (Operand.tmp 15)) _ _ _ _ :: _) _ _
         refine wpList_store_blk 75 (.tmp 6) (.tmp 15) rfl rfl rfl rfl rfl HW.out.h2 (by rw [HX.out.2.2.2]; decide) HX.out.2.2.1 HX.out.2.1 ?_
         intro w2 hP2 hM2
         rw [splice_all (by rw [HX.out.2.2.2]; rfl)] at hM2
         have B2 := Lib.hid (And.intro (HW.out.bel.trans (hP2.below (B := w.heap.size) (by omega))) hM2)
         clear hP2 hM2))
    obtain ⟨x0, x1, x2, x3, x4, x5, rfl⟩ := len6 HX.out.2.2.2
    obtain ⟨y0, y1, y2, y3, y4, y5, rfl⟩ := len6 HY.out.2.2.2
    have hres : ∀ i, w2.cell? ⟨w.heap.size + 1 + 1, i, none⟩ = _ := fun i => cell_of_row w2 (w.heap.size + 1 + 1) i _ _ _ B2.out.2
    refine bodyPost_ret (v := .agg _) (by simp [results, Tryd.results39, go_sem, hres]) rfl ⟨rfl, B2.out.1⟩

end Go.Proofs.YtanjolmelbipoaaDoor

namespace Go.Proofs.YtanjolmelbipoaaDoor
open Go.RowKit Go.Maps

/-- A state's cells. -/
def stl (y : Nat) (c : List Int) : List Value := .int .i64 y :: ints c
def stv (y : Nat) (c : List Int) : Value := .agg (stl y c).toArray

theorem Tryd.laidOut' : laidOutB Tryd.prog = true := by kernel_rfl
theorem rowState : RowTy Tryd.prog 96 8 := ⟨⟨_, Tryd.underlying96, rfl⟩, by kernel_rfl⟩
theorem lawSt : Keyed Tryd.prog 96 :=
  Keyed.of_law (deep_law_laid Tryd.laidOut' (m := 4) (by omega) (of_decide_eq_true (by kernel_rfl)) (by kernel_rfl) (by kernel_rfl))

theorem lits_int (d : Nat) {n : Int} (h : -9223372036854775808 ≤ n ∧ n ≤ 9223372036854775807) : Tryd.prog.keyLits (d + 1) 3 [.int .i64 n] = some [.int .i64 n] := by
  have hw := WalkArith.wf_i64 h
  simp [Program.keyLits, Tryd.underlying3, hw]
theorem cellsInt : Tryd.prog.cellsOf 3 = 1 := by kernel_rfl
theorem cellsCulms : Tryd.prog.cellsOf 58 = 7 := by kernel_rfl
theorem cellsState : Tryd.prog.cellsOf 96 = 8 := by kernel_rfl
theorem lits_culms (d : Nat) {c0 c1 c2 c3 c4 c5 c6 : Int} (h : ∀ x ∈ [c0, c1, c2, c3, c4, c5, c6], -9223372036854775808 ≤ x ∧ x ≤ 9223372036854775807) :
    ∃ l, Tryd.prog.keyLits (d + 1 + 1) 58 (ints [c0, c1, c2, c3, c4, c5, c6]) = some l := by
  simp only [List.mem_cons, List.not_mem_nil, or_false, forall_eq_or_imp, forall_eq] at h
  obtain ⟨h0, h1, h2, h3, h4, h5, h6⟩ := h
  refine ⟨[.int .i64 c0, .int .i64 c1, .int .i64 c2, .int .i64 c3, .int .i64 c4, .int .i64 c5, .int .i64 c6], ?_⟩
  unfold Program.keyLits
  simp only [Tryd.underlying58, cellsInt, cellsCulms]
  simp [ints, List.range_succ, List.mapM_cons, lits_int d h0, lits_int d h1, lits_int d h2, lits_int d h3, lits_int d h4, lits_int d h5, lits_int d h6]
theorem lits_state (d : Nat) {y c0 c1 c2 c3 c4 c5 c6 : Int} (hy : -9223372036854775808 ≤ y ∧ y ≤ 9223372036854775807) (h : ∀ x ∈ [c0, c1, c2, c3, c4, c5, c6], -9223372036854775808 ≤ x ∧ x ≤ 9223372036854775807) :
    ∃ l, Tryd.prog.keyLits (d + 1 + 1 + 1) 96 (.int .i64 y :: ints [c0, c1, c2, c3, c4, c5, c6]) = some l := by
  obtain ⟨l, hl⟩ := lits_culms d h
  refine ⟨.int .i64 y :: (l ++ []), ?_⟩
  unfold Program.keyLits
  simp only [Tryd.underlying96, cellsState]
  simp [ints, List.mapM_cons, cellsInt, cellsCulms, lits_int (d + 1) hy]
  simp only [ints, List.map_cons, List.map_nil] at hl
  rw [hl]
  simp

theorem stv_key (y : Nat) (hy : y ≤ 4) {c : List Int} (hc : c.length = 7) (hb : Bnd 0 1000000 c) : ∃ kl, keyOf Tryd.prog 96 (stv y c) = some kl := by
  obtain ⟨c0, c1, c2, c3, c4, c5, c6, rfl⟩ := len7 hc
  rw [Bnd.iff_mem] at hb
  have hN : Tryd.prog.types.size + 1 = (Tryd.prog.types.size - 2) + 1 + 1 + 1 := by kernel_rfl
  obtain ⟨l, hl⟩ := lits_state (Tryd.prog.types.size - 2) (y := y) ⟨by omega, by omega⟩ (fun x hx => by have := hb x hx; omega)
  rw [← hN] at hl
  refine ⟨.string (keyBytes l), ?_⟩
  unfold keyOf
  rw [Tryd.underlying96]
  have hk : Tryd.prog.keyType 96 = true := by kernel_rfl
  have hf : (stv y [c0, c1, c2, c3, c4, c5, c6]).formed Tryd.prog 96 = true := by simp [Value.formed, stv, stl, Tryd.underlying96, cellsState, ints]
  simp only [hk, hf, Bool.and_self, if_true]
  rw [show (stv y [c0, c1, c2, c3, c4, c5, c6]).cells.toList = .int .i64 y :: ints [c0, c1, c2, c3, c4, c5, c6] from rfl, hl]
  rfl

theorem zeroH (w : World) : (zeroValue 75).run Tryd.prog w = .ok (.agg (hvl (false, 0, [0, 0, 0, 0])).toArray) w := by kernel_rfl

/-- An element reads as itself. -/
def rdV (v : Value) : Option (DataW Value × List MemPlace) := some (.held v, [])

theorem stv_inj {y y' : Nat} {c c' : List Int} (h : stv y c = stv y' c') : y = y' ∧ c = c' := by
  simp only [stv, stl, Value.agg.injEq] at h
  have h0 := congrArg Array.toList h
  simp only [List.cons.injEq, Value.int.injEq, true_and] at h0
  refine ⟨by omega, ?_⟩
  have h2 := h0.2
  unfold ints at h2
  exact (List.map_inj_right (fun x y e => by simpa using e)).1 h2

/-- What is to be remembered at a state. -/
def ansV (h : Hab) (r b : Nat) (ps : List (Int × Int)) (y : Nat) (l : List Int) : Value := .agg (hvl (hvT y (bestL h r b (ps.drop y) l))).toArray
def zeroV : Value := .agg (hvl (false, 0, [0, 0, 0, 0])).toArray

/-- A map reads so that it remembers right answers alone. -/
def Right (h : Hab) (d r b : Nat) (ps : List (Int × Int)) (D : DataW Value) : Prop :=
  ∀ (y : Nat) (l : List Int) (kl : Lit), l.length = d + 1 → keyOf Tryd.prog 96 (stv y (pad7 l)) = some kl → Maps.has D kl = true → D.atKey kl (.held zeroV) = .held (ansV h r b ps y l)

/-- The map of block M remembers right answers alone. -/
def Memo (h : Hab) (d r b : Nat) (ps : List (Int × Int)) (M n : Nat) (w : World) : Prop :=
  ∃ D, w.ownsMap Tryd.prog 96 rdV M n D ∧ Right h d r b ps D

variable {h : Hab} {d r b : Nat} {ps : List (Int × Int)} {M n : Nat} {w : World}
theorem Memo.made (w : World) : Memo h d r b ps w.heap.size 0 (w.alloc (.map #[] 0)) :=
  ⟨.map [], World.ownsMap_made _ _ _ _, fun _ _ _ _ _ hh => by simp [Maps.has] at hh⟩
theorem Memo.kept {w' : World} {row : Option Nat} (hm : Memo h d r b ps M n w) (hg : w.grownBy w' row) (hne : some M ≠ row) : Memo h d r b ps M n w' := by
  obtain ⟨D, h1, h2⟩ := hm
  exact ⟨D, h1.kept hg hne, h2⟩
theorem Memo.drew (hm : Memo h d r b ps M n w) : Memo h d r b ps M n w.drew := hm
theorem Memo.lt (hm : Memo h d r b ps M n w) : M < w.heap.size := by
  obtain ⟨D, h1, _⟩ := hm
  exact h1.lt
theorem Memo.mono {m : Nat} (hm : Memo h d r b ps M n w) (hn : n ≤ m) : Memo h d r b ps M m w := by
  obtain ⟨D, h1, h2⟩ := hm
  exact ⟨D, h1.mono hn, h2⟩

theorem Right.put {D : DataW Value} (hR : Right h d r b ps D) (hD : IsMap D) {y : Nat} {l : List Int} {kl : Lit} (hl : l.length = d + 1) (_hd : d ≤ 6) (hk : keyOf Tryd.prog 96 (stv y (pad7 l)) = some kl) : Right h d r b ps (D.put kl (.held (ansV h r b ps y l))) := by
  intro y' l' kl' hl' hk' hh
  by_cases e : kl' = kl
  · subst e
    obtain ⟨rfl, e2⟩ := stv_inj (lawSt.inj hk hk')
    have e3 : l = l' := by
      have := congrArg (List.take (d + 1)) e2
      rwa [pad7_take (by omega), pad7_take (by omega), List.take_of_length_le (by omega), List.take_of_length_le (by omega)] at this
    subst e3
    exact atKey_put_same hD (lawSt.key hk) _ _
  · rw [atKey_put_other e]
    refine hR y' l' kl' hl' hk' ?_
    rwa [has_put_other e] at hh

section
variable {ops : Array Oper} {rest : List Oper} {o : Oper} {a : Act} {Q : Exit → Act → World → Prop}
/-- What was found, or not. -/
theorem wpList_look_memo (hg : o.guard = none) (m x : Operand) (hop : o.op = Op.lookup 93 m x true) (hm : a.eval m = .map (some M)) {D : DataW Value} (hown : w.ownsMap Tryd.prog 96 rdV M n D) (hR : Right h d r b ps D)
    {y : Nat} {l : List Int} {kl : Lit} (hl : l.length = d + 1) (hx : a.eval x = stv y (pad7 l)) (hkey : keyOf Tryd.prog 96 (stv y (pad7 l)) = some kl) (ok : Bool) (hok : Maps.has D kl = ok)
    (hK : wpList Tryd.prog ops Q rest (a.put o.dst (.tuple #[(if ok = true then ansV h r b ps y l else zeroV), .bool ok])) w) : wpList Tryd.prog ops Q (o :: rest) a w := by
  refine wpList_lookup_own_ok w hg m x 93 hop 96 75 lawSt Tryd.underlying93 rdV (zeroH w) (.held zeroV) [] rfl M n D hm hown _ kl hx hkey (fun v ps' hv => ?_)
  simp only [rdV, Option.some.injEq, Prod.mk.injEq] at hv
  have hv1 := hv.1
  rw [hok]
  cases ok with
  | true =>
    rw [hR y l kl hl hkey hok] at hv1
    simp only [DataW.held.injEq] at hv1
    rw [hv1]
    exact hK
  | false =>
    rw [atKey_of_not_has hok] at hv1
    simp only [DataW.held.injEq] at hv1
    rw [hv1]
    exact hK

/-- A result is kept. -/
theorem wpList_keep_memo (hg : o.guard = none) (m x v : Operand) (hop : o.op = Op.mapUpdate 93 m x v) (hd : o.dst = none) (hm : a.eval m = .map (some M)) (hM : Memo h d r b ps M n w) (hn : n < maxLen)
    {y : Nat} {l : List Int} {kl : Lit} (hl : l.length = d + 1) (hd6 : d ≤ 6) (hx : a.eval x = stv y (pad7 l)) (hkey : keyOf Tryd.prog 96 (stv y (pad7 l)) = some kl) (hv : a.eval v = ansV h r b ps y l)
    (hK : ∀ w', Memo h d r b ps M (n + 1) w' → w.grownBy w' (some M) → wpList Tryd.prog ops Q rest a w') : wpList Tryd.prog ops Q (o :: rest) a w := by
  obtain ⟨D, hown, hR⟩ := hM
  refine wpList_mapUpdate_own w hg m x v 93 hop 96 75 lawSt Tryd.underlying93 rdV M n D hm hown hn _ _ kl hx hv hkey (.held (ansV h r b ps y l)) [] rfl (fun w' ho hgr => ?_)
  rw [show a.put o.dst undef = a from by rw [hd]; rfl]
  exact hK w' ⟨_, ho, hR.put hown.isMap hl hd6 hkey⟩ hgr
end

end Go.Proofs.YtanjolmelbipoaaDoor

namespace Go.Proofs.YtanjolmelbipoaaDoor
open Go.RowKit Go.Maps

attribute [local go_sem] gives

/-- The closure. -/
def fromV (s : Nat) : Value := .func (.func 38) #[] #[.pointer (some ⟨s + 1, 0, none⟩), .pointer (some ⟨s + 4, 0, none⟩), .pointer (some ⟨s, 0, none⟩), .pointer (some ⟨s + 5, 0, none⟩)]

/-- What the closure captures: the grove, the rains, the map and itself. -/
structure EnvM (s : Nat) (h : Hab) (c0 : List Int) (A : Option Addr) (k : Nat) (ps : List (Int × Int)) (w : World) : Prop where
  hN : w.heap[s]? = some (.cells (gl h c0).toArray 71 (0, 0))
  hR : w.heap[s + 1]? = some (.cells #[.slice A ps.length k] 43 (0, 0))
  hS : w.heap[s + 4]? = some (.cells #[.map (some (s + 3))] 93 (0, 0))
  hF : w.heap[s + 5]? = some (.cells #[fromV s] 94 (0, 0))
  vals : Vals w s A (pairs ps)
  lt : s + 6 ≤ w.heap.size

section
variable {s : Nat} {h : Hab} {d r b : Nat} {c0 : List Int} {A : Option Addr} {k : Nat} {ps : List (Int × Int)} {w w' : World}
theorem EnvM.grown (hE : EnvM s h c0 A k ps w) (hg : w.grownBy w' (some (s + 3))) : EnvM s h c0 A k ps w' := by
  have hl := hE.lt
  exact ⟨(hg.block _ (by omega) (by simp)).trans hE.hN, (hg.block _ (by omega) (by simp)).trans hE.hR, (hg.block _ (by omega) (by simp)).trans hE.hS, (hg.block _ (by omega) (by simp)).trans hE.hF,
    hE.vals.below ⟨hg.os, hg.tape, hg.output, hg.size, fun j hj => hg.block j (by omega) (by simp; omega)⟩, Nat.le_trans hl hg.size⟩
theorem below_grown {n : Nat} {W W' : World} (h : Below n W W') (hn : W.heap.size ≤ n) (row : Option Nat) : W.grownBy W' row := ⟨h.os, h.tape, h.output, h.size, fun j hj _ => h.block j (by omega)⟩
theorem grown_trans {W W' W'' : World} {row : Option Nat} (h : W.grownBy W' row) (h' : W'.grownBy W'' row) : W.grownBy W'' row :=
  ⟨h'.os.trans h.os, h'.tape.trans h.tape, h'.output.trans h.output, Nat.le_trans h.size h'.size, fun j hj hr => (h'.block j (Nat.lt_of_lt_of_le hj h.size) hr).trans (h.block j hj hr)⟩
theorem _root_.Go.World.grownBy.any {W W' : World} (h : W.grownBy W' none) (row : Option Nat) : W.grownBy W' row := ⟨h.os, h.tape, h.output, h.size, fun j hj _ => h.block j hj (by simp)⟩
theorem Put.grown {W W' : World} {g : Nat} (h : Put W W' g) : W.grownBy W' (some g) := ⟨h.os, h.tape, h.output, Nat.le_of_eq h.size.symm, fun j _ hr => h.other j (fun e => hr (by rw [e]))⟩

/-- What the closure leaves. -/
def FromPost (s : Nat) (h : Hab) (d r b : Nat) (ps : List (Int × Int)) (n y : Nat) (l : List Int) (w : World) (e : Ending) (w' : World) : Prop :=
  e = .returned (ansV h r b ps y l) ∧ Memo h d r b ps (s + 3) n w' ∧ w.grownBy w' (some (s + 3))

theorem stl_len {y : Nat} {c : List Int} (hc : c.length = 7) : (stl y c).length = 8 := by simp [stl, ints, hc]

set_option maxHeartbeats 2000000 in
theorem from_zero (hr : ps.length ≤ 4) {n : Nat} (l : List Int) (_hl : (pad7 l).length = 7) (hE : EnvM s h c0 A k ps w) (hM : Memo h d r b ps (s + 3) n w) :
    Calls Tryd.prog 38 #[stv ps.length (pad7 l), .pointer (some ⟨s + 1, 0, none⟩), .pointer (some ⟨s + 4, 0, none⟩), .pointer (some ⟨s, 0, none⟩), .pointer (some ⟨s + 5, 0, none⟩)] w (FromPost s h d r b ps n ps.length l w) := by
  obtain ⟨wa, hwa⟩ : ∃ wa, w.alloc (.cells (stl ps.length (pad7 l)).toArray 96) = wa := ⟨_, rfl⟩
  obtain ⟨w1, hw1⟩ : ∃ w1, wa.alloc (.cells #[.bool false, .int .i64 0, .int .i64 0, .int .i64 0, .int .i64 0, .int .i64 0] 75) = w1 := ⟨_, rfl⟩
  have hg : w.grownBy w1 none := by rw [← hw1, ← hwa]; exact grown_trans (World.grownBy_alloc w _ _) (World.grownBy_alloc _ _ _)
  have hsa : wa.heap.size = w.heap.size + 1 := by rw [← hwa]; simp
  have hy : w1.cell? ⟨w.heap.size, 0, none⟩ = some (.int .i64 ps.length) := by
    have : w1.heap[w.heap.size]? = some (.cells (stl ps.length (pad7 l)).toArray 96 (0, 0)) := by rw [← hw1, ← hwa]; exact alloc2_at0 w _ _
    rw [cell_of_row w1 _ 0 _ _ _ this]; rfl
  have hrs : w1.cell? ⟨s + 1, 0, none⟩ = some (.slice A ps.length k) := by
    rw [cell_of_row w1 _ 0 _ _ _ (hE.grown (hg.any _)).hR]; rfl
  have hm1 : w1.heap[w.heap.size + 1]? = some (.cells (hvl (false, 0, [0, 0, 0, 0])).toArray 75 (0, 0)) := by rw [← hw1, ← hwa]; exact alloc2_at1 w _ _
  have hans : ansV h r b ps ps.length l = .agg (hvl (true, 0, [0, 0, 0, 0])).toArray := by
    unfold ansV
    rw [List.drop_of_length_le (Nat.le_refl _)]
    match hq : ps.length, hr with
    | 0, _ | 1, _ | 2, _ | 3, _ | 4, _ => rfl
  have HM := Lib.hid (And.intro hm1 (And.intro hg (And.intro hE (And.intro hM hans))))
  clear hm1 hg hE hM hans
  unfold stv
  go_enter Tryd.func38, Tryd.ntmps38
  go_wp2_with
    (show wpList _ _ _ (Oper.mk none (Op.store _ (Operand.tmp 6) (Operand.tmp 20)) _ _ _ _ :: _) _ _
     refine wpList_store_blk 75 (.tmp 6) (.tmp 20) rfl rfl rfl rfl (cs := hvl (true, 0, [0, 0, 0, 0])) rfl HM.out.1 (by decide) (hvl_one _) rowHarvest ?_
     intro w2 hP2 hM2
     rw [splice_all (by rfl)] at hM2
     have B2 := Lib.hid (And.intro hP2 hM2)
     clear hP2 hM2)
  have hres : ∀ i, w2.cell? ⟨w.heap.size + 1, i, none⟩ = _ := fun i => cell_of_row w2 (w.heap.size + 1) i _ _ _ B2.out.2
  have hgr : w.grownBy w2 none := by
    have hp := B2.out.1
    have hg := HM.out.2.1
    have h1 := hp.size
    exact ⟨hp.os.trans hg.os, hp.tape.trans hg.tape, hp.output.trans hg.output, by rw [h1]; exact hg.size, fun j hj hjs => (hp.other j (by omega)).trans (hg.block j hj hjs)⟩
  have hmem : Memo h d r b ps (s + 3) n w2 := HM.out.2.2.2.1.kept hgr (by simp)
  simp only [hvl, ints, List.map_cons, List.map_nil] at hres
  refine bodyPost_ret (v := .agg (hvl (true, 0, [0, 0, 0, 0])).toArray) (by simp [results, Tryd.results38, go_sem, hres, hvl, ints]) rfl ⟨by rw [HM.out.2.2.2.2], hmem, hgr.any _⟩

theorem rowSt {y : Nat} {c : List Int} (hc : c.length = 7) : RowTy Tryd.prog 96 (stl y c).length := by rw [stl_len hc]; exact rowState
theorem hvl_ans {y : Nat} {l : List Int} (hy : y ≤ ps.length) (h4 : ps.length ≤ 4) : (hvT y (bestL h r b (ps.drop y) l)).2.2.length = 4 := by
  refine hvT_len (m := (ps.drop y).length) ?_ (bestL_good h r b (ps.drop y) l)
  simp only [List.length_drop]
  omega

set_option maxHeartbeats 2000000 in
theorem from_hit (hr : ps.length ≤ 4) {n y : Nat} (hy : y < ps.length) (l : List Int) (hl : l.length = d + 1) (hd : d ≤ 6) {kl : Lit} (hkey : keyOf Tryd.prog 96 (stv y (pad7 l)) = some kl) (hE : EnvM s h c0 A k ps w) {D : DataW Value} (hown : w.ownsMap Tryd.prog 96 rdV (s + 3) n D) (hR : Right h d r b ps D) (hok : Maps.has D kl = true) :
    Calls Tryd.prog 38 #[stv y (pad7 l), .pointer (some ⟨s + 1, 0, none⟩), .pointer (some ⟨s + 4, 0, none⟩), .pointer (some ⟨s, 0, none⟩), .pointer (some ⟨s + 5, 0, none⟩)] w (FromPost s h d r b ps n y l w) := by
  have h7 := pad7_len (l := l) (by omega)
  obtain ⟨wa, hwa⟩ : ∃ wa, w.alloc (.cells (stl y (pad7 l)).toArray 96) = wa := ⟨_, rfl⟩
  obtain ⟨w1, hw1⟩ : ∃ w1, wa.alloc (.cells #[.bool false, .int .i64 0, .int .i64 0, .int .i64 0, .int .i64 0, .int .i64 0] 75) = w1 := ⟨_, rfl⟩
  obtain ⟨w2, hw2⟩ : ∃ w2, w1.alloc (.cells #[.bool false, .int .i64 0, .int .i64 0, .int .i64 0, .int .i64 0, .int .i64 0] 75) = w2 := ⟨_, rfl⟩
  have hg : w.grownBy w1 none := by rw [← hw1, ← hwa]; exact grown_trans (World.grownBy_alloc w _ _) (World.grownBy_alloc _ _ _)
  have hg2 : w.grownBy w2 none := by rw [← hw2]; exact grown_trans hg (World.grownBy_alloc _ _ _)
  have hsa : wa.heap.size = w.heap.size + 1 := by rw [← hwa]; simp
  have hs1 : w1.heap.size = w.heap.size + 2 := by rw [← hw1]; simp [hsa]
  have hst : w1.heap[w.heap.size]? = some (.cells (stl y (pad7 l)).toArray 96 (0, 0)) := by rw [← hw1, ← hwa]; exact alloc2_at0 w _ _
  have hy0 : w1.cell? ⟨w.heap.size, 0, none⟩ = some (.int .i64 y) := by rw [cell_of_row w1 _ 0 _ _ _ hst]; rfl
  have hrs : w1.cell? ⟨s + 1, 0, none⟩ = some (.slice A ps.length k) := by rw [cell_of_row w1 _ 0 _ _ _ (hE.grown (hg.any _)).hR]; rfl
  have hms : w1.cell? ⟨s + 4, 0, none⟩ = some (.map (some (s + 3))) := by rw [cell_of_row w1 _ 0 _ _ _ (hE.grown (hg.any _)).hS]; rfl
  have hm1 : w2.heap[w.heap.size + 1]? = some (.cells (hvl (false, 0, [0, 0, 0, 0])).toArray 75 (0, 0)) := by rw [← hw2, ← hw1, ← hwa]; exact alloc3_at1 w _ _ _
  have hm2 : w2.heap[w.heap.size + 2]? = some (.cells (hvl (false, 0, [0, 0, 0, 0])).toArray 75 (0, 0)) := by rw [← hw2, ← hw1, ← hwa]; exact alloc3_at2 w _ _ _
  have hans : ansV h r b ps y l = .agg (hvl (hvT y (bestL h r b (ps.drop y) l))).toArray := rfl
  have h4 := hvl_ans (h := h) (r := r) (b := b) (l := l) (Nat.le_of_lt hy) hr
  have HM := Lib.hid (And.intro hst (And.intro hg (And.intro hg2 (And.intro hE (And.intro hans (And.intro hm1 (And.intro hm2 (And.intro hkey (And.intro hok (And.intro hl (And.intro h7 (And.intro hR hown))))))))))))
  have hyz : (y : Int) < ps.length := by omega
  generalize hvT y (bestL h r b (ps.drop y) l) = X at h4 HM
  have H4 := Lib.hid (And.intro (show RowTy Tryd.prog 75 (hvl X).length by rw [hvl_len h4]; exact rowHarvest) (And.intro (hvl_one X) (hvl_len h4)))
  clear hst hg hg2 hE hans hm1 hm2 hkey hok hl h7 hR hown h4
  unfold stv
  go_enter Tryd.func38, Tryd.ntmps38
  go_wp2_with (first
    | (show wpList _ _ _ (Oper.mk (some 23) _ _ _ _ _ :: _) _ _
       refine wpList_load_blk 96 (.tmp 5) rfl rfl rfl HM.out.1 (stl y (pad7 l)) at0 (rowSt HM.out.2.2.2.2.2.2.2.2.2.2.1) ?_)
    | (at_lookup
       refine wpList_look_memo (h := h) (d := d) (r := r) (b := b) (ps := ps) (M := s + 3) (n := n) rfl (.tmp 22) (.tmp 23) rfl rfl (HM.out.2.2.2.2.2.2.2.2.2.2.2.2.kept HM.out.2.1 (by simp)) HM.out.2.2.2.2.2.2.2.2.2.2.2.1 HM.out.2.2.2.2.2.2.2.2.2.1 rfl HM.out.2.2.2.2.2.2.2.1 true HM.out.2.2.2.2.2.2.2.2.1 ?_
       rw [if_pos rfl, HM.out.2.2.2.2.1])
    | (show wpList _ _ _ (Oper.mk none (Op.store _ (Operand.tmp 7) (Operand.tmp 25)) _ _ _ _ :: _) _ _
       refine wpList_store_blk 75 (.tmp 7) (.tmp 25) rfl rfl rfl rfl rfl HM.out.2.2.2.2.2.2.1 (by rw [H4.out.2.2]; decide) H4.out.2.1 H4.out.1 ?_
       intro w3 hP3 hM3
       rw [splice_all (by rw [H4.out.2.2]; rfl)] at hM3
       have B3 := Lib.hid (And.intro hP3 hM3)
       clear hP3 hM3)
    | (show wpList _ _ _ (Oper.mk (some 28) _ _ _ _ _ :: _) _ _
       refine wpList_load_blk 75 (.tmp 7) rfl rfl rfl B3.out.2 (hvl X) at0 H4.out.1 ?_)
    | (show wpList _ _ _ (Oper.mk none (Op.store _ (Operand.tmp 6) (Operand.tmp 28)) _ _ _ _ :: _) _ _
       refine wpList_store_blk 75 (.tmp 6) (.tmp 28) rfl rfl rfl rfl rfl ((B3.out.1.other (w.heap.size + 1) (by omega)).trans HM.out.2.2.2.2.2.1) (by rw [H4.out.2.2]; decide) H4.out.2.1 H4.out.1 ?_
       intro w4 hP4 hM4
       rw [splice_all (by rw [H4.out.2.2]; rfl)] at hM4
       have B4 := Lib.hid (And.intro hP4 hM4)
       clear hP4 hM4))
  have hgr : w.grownBy w4 none := by
    have hp := B3.out.1
    have hq := B4.out.1
    have hg := HM.out.2.2.1
    have h1 := hp.size
    have h2 := hq.size
    exact ⟨hq.os.trans (hp.os.trans hg.os), hq.tape.trans (hp.tape.trans hg.tape), hq.output.trans (hp.output.trans hg.output), by rw [h2, h1]; exact hg.size, fun j hj hjs => (hq.other j (by omega)).trans ((hp.other j (by omega)).trans (hg.block j hj hjs))⟩
  have hmem : Memo h d r b ps (s + 3) n w4 := ⟨D, HM.out.2.2.2.2.2.2.2.2.2.2.2.2.kept hgr (by simp), HM.out.2.2.2.2.2.2.2.2.2.2.2.1⟩
  have he := HM.out.2.2.2.2.1
  have hM4 := B4.out.2
  have HG := Lib.hid (And.intro hgr hmem)
  have h6 := H4.out.2.2
  clear hgr hmem HM H4 B3 B4
  generalize hvl X = L at hM4 he h6 ⊢
  obtain ⟨x0, x1, x2, x3, x4, x5, rfl⟩ := len6 h6
  have hres : ∀ i, w4.cell? ⟨w.heap.size + 1, i, none⟩ = _ := fun i => cell_of_row w4 (w.heap.size + 1) i _ _ _ hM4
  refine bodyPost_ret (v := .agg #[x0, x1, x2, x3, x4, x5]) (by simp [results, Tryd.results38, go_sem, hres]) rfl ⟨by rw [he], HG.out.2, HG.out.1.any _⟩

end

end Go.Proofs.YtanjolmelbipoaaDoor

