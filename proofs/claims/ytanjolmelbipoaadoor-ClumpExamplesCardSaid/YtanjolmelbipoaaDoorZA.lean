/-
  Our own steps and laws of drawn regions; what a rate and a rain bring, and what may be cut.
-/
import Derived.Test.YtanjolmelbipoaaDoorYF
import Derived.Orders
import Derived.KernelRfl
import Derived.Tactics
import Derived.Tactics2
import Derived.Test.YtanjolmelbipoaaDoorYH
import Derived.Laws.CopyOwn
import Derived.Test.YtanjolmelbipoaaDoorYA
import Derived.Deep.DeepCutAuto
namespace Go.Proofs.YtanjolmelbipoaaDoor
namespace R2

section
variable {ops : Array Oper}
variable (ops) in
/-- What is asked of a region, as one Bool: edges go back; slots are written once, and lie in the frame; whatever an operation looks at that another one of the region writes, it waits for. -/
def regB (n : Nat) : Bool :=
  (List.range ops.size).all fun k =>
    match ops[k]? with
    | none => true
    | some o =>
      (o.after.all fun e => !Region.binds .any e || decide (e.on < k)) &&
      (match o.dst with | some d => decide (d < n) | none => true) &&
      (match o.op with | .select .. => false | _ => true) &&
      ((List.range ops.size).all fun j =>
        match ops[j]? with
        | none => true
        | some oj =>
          match oj.dst with
          | none => true
          | some d => (decide (j = k) || o.dst != some d) && (!(o.looksAt ops).contains d || (decide (j < k) && o.after.any fun e => Region.binds .any e && e.on == j) || (decide (k < j) && oj.after.any fun e => Region.binds .any e && e.on == k)))

structure RegOk (n : Nat) (ops : Array Oper) : Prop where
  back : ∀ (k : Nat) (o : Oper), ops[k]? = some o → ∀ e ∈ o.after, Region.binds .any e = true → e.on < k
  inb : ∀ (k : Nat) (o : Oper) (d : Nat), ops[k]? = some o → o.dst = some d → d < n
  sel : ∀ (k : Nat) (o : Oper), ops[k]? = some o → ∀ cs b, o.op ≠ .select cs b
  once : ∀ (k : Nat) (o : Oper) (j : Nat) (oj : Oper) (d : Nat), ops[k]? = some o → ops[j]? = some oj → oj.dst = some d → o.dst = some d → j = k
  waits : ∀ (k : Nat) (o : Oper) (j : Nat) (oj : Oper) (d : Nat), ops[k]? = some o → ops[j]? = some oj → oj.dst = some d → d ∈ o.looksAt ops → (j < k ∧ ∃ e ∈ o.after, Region.binds .any e = true ∧ e.on = j) ∨ (k < j ∧ ∃ e ∈ oj.after, Region.binds .any e = true ∧ e.on = k)

theorem regB_ok {n : Nat} (h : regB ops n = true) : RegOk n ops := by
  simp only [regB, List.all_eq_true, List.mem_range] at h
  have h' : ∀ (k : Nat) (o : Oper), ops[k]? = some o → _ := fun k o ho => by
    have := h k (Array.getElem?_eq_some_iff.1 ho).1
    simp only [ho, Bool.and_eq_true] at this
    exact this
  have hj : ∀ (k : Nat) (o : Oper) (j : Nat) (oj : Oper) (d : Nat), ops[k]? = some o → ops[j]? = some oj → oj.dst = some d → _ := fun k o j oj d ho hoj hd => by
    have := (h' k o ho).2
    simp only [List.all_eq_true, List.mem_range] at this
    have := this j (Array.getElem?_eq_some_iff.1 hoj).1
    simp only [hoj, hd, Bool.and_eq_true] at this
    exact this
  refine ⟨fun k o ho e he hb => ?_, fun k o d ho hd => ?_, fun k o ho cs b e => ?_, fun k o j oj d ho hoj hd hd' => ?_, fun k o j oj d ho hoj hd hm => ?_⟩
  · have := (h' k o ho).1.1.1
    rw [Array.all_eq_true_iff_forall_mem] at this
    simpa [hb] using this e he
  · have := (h' k o ho).1.1.2
    simpa [hd] using this
  · have := (h' k o ho).1.2
    simp [e] at this
  · have := (hj k o j oj d ho hoj hd).1
    simpa [hd'] using this
  · have := (hj k o j oj d ho hoj hd).2
    simp only [Bool.or_eq_true, Bool.not_eq_true', Bool.and_eq_true, decide_eq_true_eq, Array.any_eq_true', beq_iff_eq] at this
    rcases this with (h1 | ⟨h1, e, he, hb⟩) | ⟨h1, e, he, hb⟩
    · have : (o.looksAt ops).contains d = true := by simpa using hm
      rw [h1] at this; cases this
    · exact .inl ⟨h1, e, he, hb⟩
    · exact .inr ⟨h1, e, he, hb⟩

/-- The slots that an operation waits for. -/
def depsOf (ops : Array Oper) (o : Oper) : List Nat := o.after.toList.filterMap fun e => if Region.binds .any e = true then (ops[e.on]?).bind (·.dst) else none
theorem mem_deps {o : Oper} {u : Nat} : u ∈ depsOf ops o ↔ ∃ e ∈ o.after, Region.binds .any e = true ∧ ∃ od, ops[e.on]? = some od ∧ od.dst = some u := by
  simp only [depsOf, List.mem_filterMap, Array.mem_toList_iff]
  constructor
  · rintro ⟨e, he, h⟩
    split at h
    · rename_i hb
      rw [Option.bind_eq_some_iff] at h
      exact ⟨e, he, hb, h⟩
    · cases h
  · rintro ⟨e, he, hb, od, h1, h2⟩
    exact ⟨e, he, by rw [if_pos hb, Option.bind_eq_some_iff]; exact ⟨od, h1, h2⟩⟩

end

section
variable (P : Program) (ops : Array Oper) (C : World → Prop) (S : Oper → World → World → Prop) (x0 : Nat) (Ψ : World → Prop) (QN : Act → World → Prop)

/-- How an operation is met: it isn't wanted; it yields one value; it yields a value of which a fact is known. -/
inductive Kd where
  | un
  | det (c : Value)
  | nd (d : Nat) (Φ : Fact)
  | fx (t : Nat) (Φ : Fact)
  | tp (d x : Nat) (Φ : Fact)

def ent : Kd → (Nat → Value) → Value
  | .un, _ => undef
  | .det c, _ => c
  | .nd d _, ρ => ρ d
  | .fx _ _, _ => undef
  | .tp d _ _, ρ => ρ d
def nextA (A : (Nat → Value) → Act) (o : Oper) (kd : Kd) : (Nat → Value) → Act := fun ρ => (A ρ).put o.dst (ent kd ρ)
def nextH (hs : List (Nat × Fact)) : Kd → List (Nat × Fact)
  | .nd d Φ => (d, Φ) :: hs
  | _ => hs
/-- Facts that hold until the operation that writes slot x. -/
def nextT (us : List (Nat × Nat × Fact)) : Kd → List (Nat × Nat × Fact)
  | .tp d x Φ => (d, x, Φ) :: us
  | _ => us
def nextF (fs : List (Nat × Fact)) : Kd → List (Nat × Fact)
  | .fx t Φ => (t, Φ) :: fs
  | _ => fs

/-- What is owed for one operation. -/
def StepOk (o : Oper) (kd : Kd) (A : (Nat → Value) → Act) (hs : List (Nat × Fact)) (us : List (Nat × Nat × Fact)) : Prop :=
  match kd with
  | .un => ∀ ρ, Region.wanted o (yielded ops (A ρ).tmps) = false
  | .det c => (∀ ρ, Region.wanted o (yielded ops (A ρ).tmps) = true) ∧ ∃ ts : List Nat, o.looksAt ops = ts ∧
      ∀ ρ w, C w → (∀ p ∈ hs, p.1 ∈ ts → p.2 (ρ p.1) w) → ((∀ p ∈ us, p.1 ∈ ts → o.dst = some p.2.1 → p.2.2 (ρ p.1) w) ∧ (o.dst = some x0 → Ψ w)) → gives P o (A ρ) w (fun v w' => v = c ∧ S o w w' ∧ C w')
  | .nd d Φ => (∀ ρ, Region.wanted o (yielded ops (A ρ).tmps) = true) ∧ (∃ ts : List Nat, o.looksAt ops = ts ∧
      ∀ ρ w, C w → (∀ p ∈ hs, p.1 ∈ ts → p.2 (ρ p.1) w) → ((∀ p ∈ us, p.1 ∈ ts → o.dst = some p.2.1 → p.2.2 (ρ p.1) w) ∧ (o.dst = some x0 → Ψ w)) → gives P o (A ρ) w (fun v w' => Φ v w' ∧ S o w w' ∧ C w')) ∧ o.dst = some d ∧ (∀ (o' : Oper) v w w', o'.dst ≠ some d → (∀ u ∈ depsOf ops o, o'.dst ≠ some u) → Φ v w → S o' w w' → C w' → Φ v w')
  | .fx t Φ => (∀ ρ, Region.wanted o (yielded ops (A ρ).tmps) = true) ∧ (∃ ts : List Nat, o.looksAt ops = ts ∧ t ∈ ts ∧ t ∈ depsOf ops o ∧
      ∀ ρ w, C w → (∀ p ∈ hs, p.1 ∈ ts → p.2 (ρ p.1) w) → ((∀ p ∈ us, p.1 ∈ ts → o.dst = some p.2.1 → p.2.2 (ρ p.1) w) ∧ (o.dst = some x0 → Ψ w)) → gives P o (A ρ) w (fun _ w' => Φ (slot (A ρ) t) w' ∧ S o w w' ∧ C w')) ∧ o.dst = none ∧ (∀ (o' : Oper) v w w', Φ v w → S o' w w' → C w' → Φ v w')
  | .tp d x Φ => (∀ ρ, Region.wanted o (yielded ops (A ρ).tmps) = true) ∧ (∃ ts : List Nat, o.looksAt ops = ts ∧
      ∀ ρ w, C w → (∀ p ∈ hs, p.1 ∈ ts → p.2 (ρ p.1) w) → ((∀ p ∈ us, p.1 ∈ ts → o.dst = some p.2.1 → p.2.2 (ρ p.1) w) ∧ (o.dst = some x0 → Ψ w)) → gives P o (A ρ) w (fun v w' => Φ v w' ∧ S o w w' ∧ C w')) ∧ o.dst = some d ∧ (∀ (o' : Oper) v w w', o'.dst ≠ some d → o'.dst ≠ some x → Φ v w → S o' w w' → C w' → Φ v w')

/-- The walk in the text's order. -/
def Steps : List Oper → List Kd → ((Nat → Value) → Act) → List (Nat × Fact) → List (Nat × Nat × Fact) → List (Nat × Fact) → Prop
  | [], [], A, hs, _, fs => ∀ ρ w, C w → (∀ p ∈ hs, p.2 (ρ p.1) w) → (∀ p ∈ fs, p.2 (slot (A ρ) p.1) w) → QN (A ρ) w
  | o :: l, kd :: ks, A, hs, us, fs => StepOk P ops C S x0 Ψ o kd A hs us ∧ Steps l ks (nextA A o kd) (nextH hs kd) (nextT us kd) (nextF fs kd)
  | _, _, _, _, _, _ => False

/-- .. without its list: what a proof goes through. -/
def WalkR (l : List Oper) (A : (Nat → Value) → Act) (hs : List (Nat × Fact)) (us : List (Nat × Nat × Fact)) (fs : List (Nat × Fact)) : Prop := ∃ ks, Steps P ops C S x0 Ψ QN l ks A hs us fs

def stA (A : (Nat → Value) → Act) : List Oper → List Kd → Nat → (Nat → Value) → Act
  | o :: l, kd :: ks, i + 1 => stA (nextA A o kd) l ks i
  | _, _, _ => A
def stH (hs : List (Nat × Fact)) : List Kd → Nat → List (Nat × Fact)
  | kd :: ks, i + 1 => stH (nextH hs kd) ks i
  | _, _ => hs
def stT (us : List (Nat × Nat × Fact)) : List Kd → Nat → List (Nat × Nat × Fact)
  | kd :: ks, i + 1 => stT (nextT us kd) ks i
  | _, _ => us
def stF (fs : List (Nat × Fact)) : List Kd → Nat → List (Nat × Fact)
  | kd :: ks, i + 1 => stF (nextF fs kd) ks i
  | _, _ => fs

variable {P ops C S x0 Ψ QN}

theorem Steps.at_ : ∀ {l : List Oper} {ks : List Kd} {A : (Nat → Value) → Act} {hs : List (Nat × Fact)} {us : List (Nat × Nat × Fact)} {fs : List (Nat × Fact)}, Steps P ops C S x0 Ψ QN l ks A hs us fs → ∀ i o, l[i]? = some o → ∃ kd, ks[i]? = some kd ∧ StepOk P ops C S x0 Ψ o kd (stA A l ks i) (stH hs ks i) (stT us ks i)
  | o :: l, kd :: ks, A, hs, us, fs, h, 0, o', ho => by
    simp at ho; subst ho
    exact ⟨kd, rfl, h.1⟩
  | o :: l, kd :: ks, A, hs, us, fs, h, i + 1, o', ho => Steps.at_ h.2 i o' (by simpa using ho)
  | [], _, _, _, _, _, _, _, _, ho => by simp at ho
  | _ :: _, [], _, _, _, _, h, _, _, _ => h.elim

theorem Steps.end_ : ∀ {l : List Oper} {ks : List Kd} {A : (Nat → Value) → Act} {hs : List (Nat × Fact)} {us : List (Nat × Nat × Fact)} {fs : List (Nat × Fact)}, Steps P ops C S x0 Ψ QN l ks A hs us fs →
    ks.length = l.length ∧ ∀ ρ w, C w → (∀ p ∈ stH hs ks l.length, p.2 (ρ p.1) w) → (∀ p ∈ stF fs ks l.length, p.2 (slot (stA A l ks l.length ρ) p.1) w) → QN (stA A l ks l.length ρ) w
  | [], [], A, hs, us, fs, h => ⟨rfl, h⟩
  | o :: l, kd :: ks, A, hs, us, fs, h => by
    obtain ⟨h1, h2⟩ := Steps.end_ h.2
    exact ⟨by simp [h1], h2⟩
  | [], _ :: _, _, _, _, _, h => h.elim
  | _ :: _, [], _, _, _, _, h => h.elim

theorem stA_size : ∀ (A : (Nat → Value) → Act) (l : List Oper) (ks : List Kd) (i : Nat) (ρ : Nat → Value), (stA A l ks i ρ).tmps.size = (A ρ).tmps.size ∧ (stA A l ks i ρ).defers = (A ρ).defers
  | A, o :: l, kd :: ks, i + 1, ρ => by
    have := stA_size (nextA A o kd) l ks i ρ
    simpa [stA, nextA, size_put, defers_put] using this
  | A, [], _, _, ρ => by simp [stA]
  | A, _ :: _, [], _, ρ => by simp [stA]
  | A, _ :: _, _ :: _, 0, ρ => by simp [stA]

/-- A slot that none of the first i operations writes. -/
theorem stA_other : ∀ (A : (Nat → Value) → Act) (l : List Oper) (ks : List Kd) (i : Nat) (ρ : Nat → Value) (t : Nat), (∀ j o, j < i → l[j]? = some o → o.dst ≠ some t) → slot (stA A l ks i ρ) t = slot (A ρ) t
  | A, o :: l, kd :: ks, i + 1, ρ, t, h => by
    rw [show stA A (o :: l) (kd :: ks) (i + 1) ρ = stA (nextA A o kd) l ks i ρ from rfl,
      stA_other (nextA A o kd) l ks i ρ t (fun j o' hj ho => h (j + 1) o' (by omega) (by simpa using ho))]
    exact slot_put_ne (h 0 o (by omega) rfl)
  | A, [], _, _, ρ, t, _ => by simp [stA]
  | A, _ :: _, [], _, ρ, t, _ => by simp [stA]
  | A, _ :: _, _ :: _, 0, ρ, t, _ => by simp [stA]

/-- A slot that one of them writes, and none after it. -/
theorem stA_wrote : ∀ (A : (Nat → Value) → Act) (l : List Oper) (ks : List Kd) (i : Nat) (ρ : Nat → Value) (t j : Nat) (o : Oper) (kd : Kd), j < i → l[j]? = some o → ks[j]? = some kd → o.dst = some t → t < (A ρ).tmps.size →
    (∀ j' o', j < j' → j' < i → l[j']? = some o' → o'.dst ≠ some t) → slot (stA A l ks i ρ) t = ent kd ρ
  | A, o :: l, kd :: ks, i + 1, ρ, t, 0, o', kd', hj, ho, hk, hd, ht, h => by
    simp at ho hk; subst ho hk
    rw [show stA A (o :: l) (kd :: ks) (i + 1) ρ = stA (nextA A o kd) l ks i ρ from rfl,
      stA_other (nextA A o kd) l ks i ρ t (fun j o' hj ho => h (j + 1) o' (by omega) (by omega) (by simpa using ho))]
    show slot ((A ρ).put o.dst (ent kd ρ)) t = _
    rw [hd]; exact slot_put_same ht
  | A, o :: l, kd :: ks, i + 1, ρ, t, j + 1, o', kd', hj, ho, hk, hd, ht, h =>
    stA_wrote (nextA A o kd) l ks i ρ t j o' kd' (by omega) (by simpa using ho) (by simpa using hk) hd (by simpa [nextA, size_put] using ht) (fun j' o'' h1 h2 h3 => h (j' + 1) o'' (by omega) (by omega) (by simpa using h3))
  | A, [], _, _, ρ, t, j, o, kd, _, ho, _, _, _, _ => by simp at ho
  | A, _ :: _, [], _, ρ, t, j, o, kd, _, _, hk, _, _, _ => by simp at hk
  | A, _ :: _, _ :: _, 0, ρ, t, j, o, kd, hj, _, _, _, _, _ => by omega

theorem stH_mem : ∀ (hs : List (Nat × Fact)) (ks : List Kd) (i : Nat) (p : Nat × Fact), p ∈ stH hs ks i → p ∈ hs ∨ ∃ j, j < i ∧ ks[j]? = some (.nd p.1 p.2)
  | hs, kd :: ks, i + 1, p, h => by
    rcases stH_mem (nextH hs kd) ks i p h with h1 | ⟨j, hj, hk⟩
    · cases kd with
      | nd d Φ =>
        simp only [nextH, List.mem_cons] at h1
        rcases h1 with rfl | h1
        · exact .inr ⟨0, by omega, rfl⟩
        · exact .inl h1
      | _ => exact .inl h1
    · exact .inr ⟨j + 1, by omega, by simpa using hk⟩
  | hs, [], _, p, h => .inl (by simpa [stH] using h)
  | hs, _ :: _, 0, p, h => .inl (by simpa [stH] using h)

theorem stT_mem : ∀ (us : List (Nat × Nat × Fact)) (ks : List Kd) (i : Nat) (p : Nat × Nat × Fact), p ∈ stT us ks i → p ∈ us ∨ ∃ j, j < i ∧ ks[j]? = some (.tp p.1 p.2.1 p.2.2)
  | us, kd :: ks, i + 1, p, h => by
    rcases stT_mem (nextT us kd) ks i p h with h1 | ⟨j, hj, hk⟩
    · cases kd with
      | tp d x Φ =>
        simp only [nextT, List.mem_cons] at h1
        rcases h1 with rfl | h1
        · exact .inr ⟨0, by omega, rfl⟩
        · exact .inl h1
      | _ => exact .inl h1
    · exact .inr ⟨j + 1, by omega, by simpa using hk⟩
  | us, [], _, p, h => .inl (by simpa [stT] using h)
  | us, _ :: _, 0, p, h => .inl (by simpa [stT] using h)

theorem stF_mem : ∀ (fs : List (Nat × Fact)) (ks : List Kd) (i : Nat) (p : Nat × Fact), p ∈ stF fs ks i → p ∈ fs ∨ ∃ j, j < i ∧ ks[j]? = some (.fx p.1 p.2)
  | fs, kd :: ks, i + 1, p, h => by
    rcases stF_mem (nextF fs kd) ks i p h with h1 | ⟨j, hj, hk⟩
    · cases kd with
      | fx t Φ =>
        simp only [nextF, List.mem_cons] at h1
        rcases h1 with rfl | h1
        · exact .inr ⟨0, by omega, rfl⟩
        · exact .inl h1
      | _ => exact .inl h1
    · exact .inr ⟨j + 1, by omega, by simpa using hk⟩
  | fs, [], _, p, h => .inl (by simpa [stF] using h)
  | fs, _ :: _, 0, p, h => .inl (by simpa [stF] using h)

/-- What holds on the way: of the operations that have come up. -/
structure InvR (C : World → Prop) (x0 : Nat) (Ψ : World → Prop) (ks : List Kd) (ops : Array Oper) (a0 : Act) (listed : Array Bool) (a : Act) (w : World) : Prop where
  len : listed.size = ops.size
  size : a.tmps.size = a0.tmps.size
  defers : a.defers = a0.defers
  cls : C w
  psi : (∀ (i : Nat) (oi : Oper), ops[i]? = some oi → oi.dst = some x0 → listed.getD i false = false) → Ψ w
  closed : ∀ (j : Nat) (o : Oper), ops[j]? = some o → listed.getD j false = true → ∀ e ∈ o.after, Region.binds .any e = true → listed.getD e.on false = true
  other : ∀ t, (∀ (j : Nat) (o : Oper), ops[j]? = some o → listed.getD j false = true → o.dst ≠ some t) → slot a t = slot a0 t
  wrote : ∀ (j : Nat) (o : Oper) (kd : Kd), ops[j]? = some o → ks[j]? = some kd → listed.getD j false = true →
    (∀ d, o.dst = some d → slot a d = ent kd (slot a)) ∧ (∀ d Φ, kd = .nd d Φ → o.dst = some d ∧ Φ (slot a d) w) ∧ (∀ t Φ, kd = .fx t Φ → t ∈ depsOf ops o ∧ Φ (slot a t) w) ∧
    (∀ d x Φ, kd = .tp d x Φ → o.dst = some d ∧ ((∀ (i : Nat) (oi : Oper), ops[i]? = some oi → oi.dst = some x → listed.getD i false = false) → Φ (slot a d) w))

theorem slot_at {n : Nat} {a0 : Act} {listed : Array Bool} {a : Act} {w : World} {ks : List Kd} (R : RegOk n ops) (hn : a0.tmps.size = n) (hk : ks.length = ops.size) (I : InvR C x0 Ψ ks ops a0 listed a w) {k : Nat} {o : Oper} (ho : ops[k]? = some o)
    (hr : ∀ e ∈ o.after, Region.binds .any e = true → listed.getD e.on false = true) (h0 : listed.getD k false = false) {t : Nat} (ht : t ∈ o.looksAt ops) :
    slot a t = slot (stA (fun _ => a0) ops.toList ks k (slot a)) t := by
  by_cases hw : ∃ (j : Nat) (oj : Oper), ops[j]? = some oj ∧ oj.dst = some t
  · obtain ⟨j, oj, hoj, hd⟩ := hw
    rcases R.waits k o j oj t ho hoj hd ht with ⟨hjk, e, he, hb, rfl⟩ | ⟨hjk, e, he, hb, hek⟩
    · have hl := hr e he hb
      have hjs : e.on < ks.length := by rw [hk]; exact (Array.getElem?_eq_some_iff.1 hoj).1
      have hkd : ks[e.on]? = some ks[e.on] := List.getElem?_eq_getElem hjs
      rw [stA_wrote (fun _ => a0) ops.toList ks k (slot a) t e.on oj _ hjk (by simpa using hoj) hkd hd (by rw [hn]; exact R.inb _ _ _ hoj hd)
        (fun j' o' h1 h2 h3 h4 => by
          have := R.once e.on oj j' o' t hoj (by simpa using h3) h4 hd
          omega)]
      exact (I.wrote e.on oj _ hoj hkd hl).1 t hd
    · rw [stA_other (fun _ => a0) ops.toList ks k (slot a) t (fun j' oj' hj' hoj' hd' => by
        have := R.once j oj j' oj' t hoj (by simpa using hoj') hd' hd
        omega)]
      refine I.other t (fun j' oj' hoj' hl hd' => ?_)
      have hjj := R.once j oj j' oj' t hoj hoj' hd' hd
      subst hjj
      have := I.closed j' oj hoj hl e he hb
      rw [hek, h0] at this; cases this
  · rw [stA_other (fun _ => a0) ops.toList ks k (slot a) t (fun j oj _ hoj hd => hw ⟨j, oj, by simpa using hoj, hd⟩)]
    exact I.other t (fun j oj hoj _ hd => hw ⟨j, oj, hoj, hd⟩)

theorem walk_sound {n : Nat} {a0 : Act} {ks : List Kd} {Q : Exit → Act → World → Prop} (R : RegOk n ops) (hn : a0.tmps.size = n) (hS : ∀ o w, S o w w) (hPsi : ∀ (o' : Oper) w w', o'.dst ≠ some x0 → Ψ w → S o' w w' → C w' → Ψ w') (hSt : Steps P ops C S x0 Ψ (Q .normal) ops.toList ks (fun _ => a0) [] [] []) :
    ∀ (fuel : Nat) (listed : Array Bool) (a : Act) (w : World), InvR C x0 Ψ ks ops a0 listed a w → listed.toList.countP (fun b => !b) ≤ fuel → wpAny P .any ops Q fuel listed a w := by
  obtain ⟨hk, hend⟩ := hSt.end_
  simp only [Array.length_toList] at hk hend
  -- all have come up: the state is the walk's last one
  have fin : ∀ (listed : Array Bool) (a : Act) (w : World), InvR C x0 Ψ ks ops a0 listed a w → Region.ready .any ops listed = [] → Q .normal a w := by
    intro listed a w I hr
    have hall : ∀ k, k < ops.size → listed.getD k false = true := by
      intro k
      induction k using Nat.strongRecOn with
      | _ k ih =>
        intro hlt
        have hks : k < listed.size := by rw [I.len]; exact hlt
        cases hb : listed.getD k false with
        | true => rfl
        | false =>
          exfalso
          have hk2 : k ∈ Region.ready .any ops listed := by
            refine mem_ready.2 ⟨by simpa [hks] using hb, ops[k], Array.getElem?_eq_getElem hlt, fun e he hbi => ?_⟩
            have hlt2 := R.back k _ (Array.getElem?_eq_getElem hlt) e he hbi
            exact ih e.on hlt2 (by omega)
          rw [hr] at hk2; cases hk2
    have ha : a = stA (fun _ => a0) ops.toList ks ops.size (slot a) := by
      have hsz := stA_size (fun _ => a0) ops.toList ks ops.size (slot a)
      have hslot : ∀ t, slot a t = slot (stA (fun _ => a0) ops.toList ks ops.size (slot a)) t := by
        intro t
        by_cases hw : ∃ (j : Nat) (oj : Oper), ops[j]? = some oj ∧ oj.dst = some t
        · obtain ⟨j, oj, hoj, hd⟩ := hw
          have hj := (Array.getElem?_eq_some_iff.1 hoj).1
          have hkd : ks[j]? = some ks[j] := List.getElem?_eq_getElem (by omega)
          rw [stA_wrote (fun _ => a0) ops.toList ks ops.size (slot a) t j oj _ hj (by simpa using hoj) hkd hd (by rw [hn]; exact R.inb _ _ _ hoj hd)
            (fun j' o' h1 h2 h3 h4 => by
              have := R.once j oj j' o' t hoj (by simpa using h3) h4 hd
              omega)]
          exact (I.wrote j oj _ hoj hkd (hall j hj)).1 t hd
        · rw [stA_other (fun _ => a0) ops.toList ks ops.size (slot a) t (fun j oj _ hoj hd => hw ⟨j, oj, by simpa using hoj, hd⟩)]
          exact I.other t (fun j oj hoj _ hd => hw ⟨j, oj, hoj, hd⟩)
      obtain ⟨h1, h2⟩ := hsz
      have hd := I.defers
      have hs := I.size
      generalize stA (fun _ => a0) ops.toList ks ops.size (slot a) = b at *
      obtain ⟨ta, da⟩ := a
      obtain ⟨tb, db⟩ := b
      simp only [Act.mk.injEq] at *
      refine ⟨?_, by rw [hd, h2]⟩
      apply Array.ext
      · omega
      · intro i hi1 hi2
        have := hslot i
        simp only [slot] at this
        simpa [hi1, hi2] using this
    rw [ha]
    refine hend _ w I.cls (fun p hp => ?_) (fun p hp => ?_)
    · rcases stH_mem [] ks ops.size p hp with h1 | ⟨j, hj, hkd⟩
      · cases h1
      · exact ((I.wrote j _ _ (Array.getElem?_eq_getElem hj) hkd (hall j hj)).2.1 p.1 p.2 rfl).2
    · rcases stF_mem [] ks ops.size p hp with h1 | ⟨j, hj, hkd⟩
      · cases h1
      · rw [← ha]
        exact ((I.wrote j _ _ (Array.getElem?_eq_getElem hj) hkd (hall j hj)).2.2.1 p.1 p.2 rfl).2
  intro fuel
  induction fuel with
  | zero =>
    intro listed a w I hc
    have hr : Region.ready .any ops listed = [] := by
      rw [List.eq_nil_iff_forall_not_mem]
      intro k hk2
      obtain ⟨h0, o, ho, _⟩ := mem_ready.1 hk2
      have hks : k < listed.size := by rw [I.len]; exact (Array.getElem?_eq_some_iff.1 ho).1
      have hm : listed[k] ∈ listed.toList := by simp
      have := List.countP_eq_zero.1 (by omega : listed.toList.countP (fun b => !b) = 0) _ hm
      simp [hks] at h0
      simp [h0] at this
    exact ⟨hr, fin listed a w I hr⟩
  | succ fuel ih =>
    intro listed a w I hc
    refine ⟨fin listed a w I, fun k hk2 => ?_⟩
    obtain ⟨h0, o, ho, hr⟩ := mem_ready.1 hk2
    have hks : k < listed.size := by rw [I.len]; exact (Array.getElem?_eq_some_iff.1 ho).1
    obtain ⟨kd, hkd, hst⟩ := hSt.at_ k o (by simpa using ho)
    have h0k : listed.getD k false = false := by
      simp only [Array.getD_eq_getD_getElem?, Array.getElem?_eq_getElem hks, Option.getD_some] at h0 ⊢; exact h0
    have hsl : ∀ t, t ∈ o.looksAt ops → slot a t = slot (stA (fun _ => a0) ops.toList ks k (slot a)) t := fun t ht => slot_at R hn hk I ho hr h0k ht
    have hsz := stA_size (fun _ => a0) ops.toList ks k (slot a)
    have hev : execOp a.eval o = execOp (stA (fun _ => a0) ops.toList ks k (slot a)).eval o :=
      execOp_congr o (R.sel k o ho) fun x hx => by
        cases x with
        | tmp t => exact hsl t (List.mem_append_left _ (List.mem_filterMap.2 ⟨.tmp t, by simpa using hx, rfl⟩))
        | _ => rfl
    have hwn : Region.wanted o (yielded ops a.tmps) = Region.wanted o (yielded ops (stA (fun _ => a0) ops.toList ks k (slot a)).tmps) := by
      unfold Region.wanted
      cases hg : o.guard with
      | none => rfl
      | some gw =>
        obtain ⟨g, want⟩ := gw
        have : yielded ops a.tmps g = yielded ops (stA (fun _ => a0) ops.toList ks k (slot a)).tmps g := by
          unfold yielded
          cases ht : (ops[g]?).bind (·.dst) with
          | none => rfl
          | some t =>
            have hm : t ∈ o.looksAt ops := by simp [Oper.looksAt, hg, ht]
            have hs := hsl t hm
            have hsz' := I.size
            have e1 : a.tmps.size = (stA (fun _ => a0) ops.toList ks k (slot a)).tmps.size := by rw [hsz.1, hsz']
            simp only [slot] at hs
            have : a.tmps[t]? = (stA (fun _ => a0) ops.toList ks k (slot a)).tmps[t]? := by
              rcases Nat.lt_or_ge t a.tmps.size with h | h
              · have h2 : t < (stA (fun _ => a0) ops.toList ks k (slot a)).tmps.size := by rw [← e1]; exact h
                simpa [h, h2] using hs
              · rw [Array.getElem?_eq_none h, Array.getElem?_eq_none (by omega)]
            simp [this]
        simp only [this]
    have hcount : (listed.setIfInBounds k true).toList.countP (fun b => !b) ≤ fuel := by
      have hf : listed.toList[k]? = some false := by simp [hks] at h0; simp [hks, h0]
      have := countP_set hf
      rw [Array.toList_setIfInBounds]
      omega
    have hset : ∀ j, (listed.setIfInBounds k true).getD j false = true ↔ j = k ∨ listed.getD j false = true := by
      intro j
      by_cases hjk : j = k
      · subst hjk; simp [hks]
      · rw [getD_set_ne false (Ne.symm hjk)]; simp [hjk]
    -- an operation that is done waits for nothing that is not
    have notdone : ∀ (j : Nat) (oj : Oper), ops[j]? = some oj → listed.getD j false = true → ∀ u ∈ depsOf ops oj, o.dst ≠ some u := by
      intro j oj hoj hlj u hu hd'
      obtain ⟨e, he, hb, od, hod, hdu⟩ := mem_deps.1 hu
      have hek := R.once k o e.on od u ho hod hdu hd'
      have := I.closed j oj hoj hlj e he hb
      rw [hek, h0k] at this; cases this
    -- the state behind the operation
    have next : ∀ v w', S o w w' → C w' → v = ent kd (slot (a.put o.dst v)) → (∀ d Φ, kd = .nd d Φ → o.dst = some d ∧ Φ v w') → (∀ t Φ, kd = .fx t Φ → t ∈ depsOf ops o ∧ Φ (slot (a.put o.dst v) t) w') → (∀ d x Φ, kd = .tp d x Φ → o.dst = some d ∧ Φ v w') →
        InvR C x0 Ψ ks ops a0 (listed.setIfInBounds k true) (a.put o.dst v) w' := by
      intro v w' hS' hC' hv hnd hfx htp
      have hin : ∀ d, o.dst = some d → d < a.tmps.size := fun d hd => by rw [I.size, hn]; exact R.inb k o d ho hd
      refine ⟨by simp [I.len], by rw [size_put, I.size], by rw [defers_put, I.defers], hC', fun hno => ?_, fun j oj hoj hlj e he hb => ?_, fun t ht => ?_, fun j oj kj hoj hkj hlj => ?_⟩
      · have hnx : o.dst ≠ some x0 := fun hx => by
          have := hno k o ho hx
          rw [(hset k).2 (.inl rfl)] at this; cases this
        refine hPsi o _ _ hnx (I.psi fun i oi hoi hx => ?_) hS' hC'
        have := hno i oi hoi hx
        cases hb : listed.getD i false with
        | false => rfl
        | true => rw [(hset i).2 (.inr hb)] at this; cases this
      · rcases (hset j).1 hlj with rfl | hlk
        · rw [ho] at hoj; cases hoj
          exact (hset _).2 (.inr (hr e he hb))
        · exact (hset _).2 (.inr (I.closed j oj hoj hlk e he hb))
      · rw [slot_put_ne (ht k o ho ((hset k).2 (.inl rfl)))]
        exact I.other t (fun j oj hoj hlj => ht j oj hoj ((hset j).2 (.inr hlj)))
      · rcases (hset j).1 hlj with rfl | hlk
        · rw [ho] at hoj; cases hoj
          rw [hkd] at hkj; cases hkj
          refine ⟨fun d hd => ?_, fun d Φ hkn => ?_, hfx, fun d x Φ hkn => ?_⟩
          · have : slot (a.put o.dst v) d = v := by rw [hd]; exact slot_put_same (hin d hd)
            rw [this]; exact hv
          · obtain ⟨hd, hΦ⟩ := hnd d Φ hkn
            refine ⟨hd, ?_⟩
            have : slot (a.put o.dst v) d = v := by rw [hd]; exact slot_put_same (hin d hd)
            rw [this]; exact hΦ
          · obtain ⟨hd, hΦ⟩ := htp d x Φ hkn
            refine ⟨hd, fun _ => ?_⟩
            have : slot (a.put o.dst v) d = v := by rw [hd]; exact slot_put_same (hin d hd)
            rw [this]; exact hΦ
        · have hjk : j ≠ k := fun e => by rw [e, h0k] at hlk; cases hlk
          obtain ⟨h1, h2, h3, h4⟩ := I.wrote j oj kj hoj hkj hlk
          have hne : ∀ d, oj.dst = some d → o.dst ≠ some d := fun d hd hd' => hjk (R.once k o j oj d ho hoj hd hd')
          obtain ⟨kd', hkd', hst'⟩ := hSt.at_ j oj (by simpa using hoj)
          rw [hkj] at hkd'; cases hkd'
          refine ⟨fun d hd => ?_, fun d Φ hkn => ?_, fun t Φ hkn => ?_, fun d x Φ hkn => ?_⟩
          · rw [slot_put_ne (hne d hd), h1 d hd]
            cases kj with
            | un => rfl
            | det c => rfl
            | fx t Φ => rfl
            | nd d' Φ =>
              obtain ⟨hd', _⟩ := h2 d' Φ rfl
              exact (slot_put_ne (hne d' hd')).symm
            | tp d' x Φ =>
              obtain ⟨hd', _⟩ := h4 d' x Φ rfl
              exact (slot_put_ne (hne d' hd')).symm
          · obtain ⟨hd, hΦ⟩ := h2 d Φ hkn
            subst hkn
            refine ⟨hd, ?_⟩
            rw [slot_put_ne (hne d hd)]
            exact hst'.2.2.2 o _ _ _ (hne d hd) (notdone j oj hoj hlk) hΦ hS' hC'
          · obtain ⟨ht, hΦ⟩ := h3 t Φ hkn
            subst hkn
            refine ⟨ht, ?_⟩
            rw [slot_put_ne (notdone j oj hoj hlk t ht)]
            exact hst'.2.2.2 o _ _ _ hΦ hS' hC'
          · obtain ⟨hd, hΦ⟩ := h4 d x Φ hkn
            subst hkn
            refine ⟨hd, fun hno => ?_⟩
            rw [slot_put_ne (hne d hd)]
            have hnx : o.dst ≠ some x := fun hx => by
              have := hno k o ho hx
              rw [(hset k).2 (.inl rfl)] at this; cases this
            refine hst'.2.2.2 o _ _ _ (hne d hd) hnx (hΦ fun i oi hoi hx => ?_) hS' hC'
            have := hno i oi hoi hx
            cases hb : listed.getD i false with
            | false => rfl
            | true => rw [(hset i).2 (.inr hb)] at this; cases this
    have hfacts : ∀ ts : List Nat, o.looksAt ops = ts → ∀ p ∈ stH [] ks k, p.1 ∈ ts → p.2 (slot a p.1) w := by
      intro ts hts p hp hpt
      rcases stH_mem [] ks k p hp with h1 | ⟨j, hj, hkj⟩
      · cases h1
      · have hjl : j < ops.size := by have := (Array.getElem?_eq_some_iff.1 ho).1; omega
        have hoj := Array.getElem?_eq_getElem hjl
        obtain ⟨kd', hkd', hst'⟩ := hSt.at_ j ops[j] (by rw [Array.getElem?_toList]; exact hoj)
        rw [hkj] at hkd'; cases hkd'
        have hd := hst'.2.2.1
        obtain ⟨e, he, hb, hej⟩ : ∃ e ∈ o.after, Region.binds .any e = true ∧ e.on = j := by
          rcases R.waits k o j _ p.1 ho hoj hd (by rw [hts]; exact hpt) with ⟨_, h⟩ | ⟨h, _⟩
          · exact h
          · omega
        have hl := hr e he hb
        rw [hej] at hl
        exact ((I.wrote j _ _ hoj hkj hl).2.1 p.1 p.2 rfl).2
    have htemp : ∀ ts : List Nat, o.looksAt ops = ts → ∀ p ∈ stT [] ks k, p.1 ∈ ts → o.dst = some p.2.1 → p.2.2 (slot a p.1) w := by
      intro ts hts p hp hpt hpx
      rcases stT_mem [] ks k p hp with h1 | ⟨j, hj, hkj⟩
      · cases h1
      · have hjl : j < ops.size := by have := (Array.getElem?_eq_some_iff.1 ho).1; omega
        have hoj := Array.getElem?_eq_getElem hjl
        obtain ⟨kd', hkd', hst'⟩ := hSt.at_ j ops[j] (by rw [Array.getElem?_toList]; exact hoj)
        rw [hkj] at hkd'; cases hkd'
        have hd := hst'.2.2.1
        obtain ⟨e, he, hb, hej⟩ : ∃ e ∈ o.after, Region.binds .any e = true ∧ e.on = j := by
          rcases R.waits k o j _ p.1 ho hoj hd (by rw [hts]; exact hpt) with ⟨_, h⟩ | ⟨h, _⟩
          · exact h
          · omega
        have hl := hr e he hb
        rw [hej] at hl
        refine ((I.wrote j _ _ hoj hkj hl).2.2.2 p.1 p.2.1 p.2.2 rfl).2 fun i oi hoi hx => ?_
        have : i = k := R.once k o i oi p.2.1 ho hoi hx hpx
        rw [this]; exact h0k
    have hpsi : o.dst = some x0 → Ψ w := fun hx => I.psi fun i oi hoi hx' => by
      have : i = k := R.once k o i oi x0 ho hoi hx' hx
      rw [this]; exact h0k
    unfold wpOp
    simp only [ho]
    cases kd with
    | un =>
      have : Region.wanted o (yielded ops a.tmps) = false := by rw [hwn]; exact hst _
      simp only [this, Bool.false_eq_true, if_false]
      exact ih _ _ _ (next undef w (hS o w) I.cls rfl (fun d Φ h => by cases h) (fun t Φ h => by cases h) (fun d x Φ h => by cases h)) hcount
    | det c =>
      obtain ⟨hw, ts, hts, hg⟩ := hst
      have : Region.wanted o (yielded ops a.tmps) = true := by rw [hwn]; exact hw _
      simp only [this, if_true]
      refine .inl ((hg (slot a) w I.cls (hfacts ts hts) ⟨htemp ts hts, hpsi⟩).wp hev fun v w' ⟨hv, hS', hC'⟩ => ?_)
      exact ih _ _ _ (next v w' hS' hC' hv (fun d Φ h => by cases h) (fun t Φ h => by cases h) (fun d x Φ h => by cases h)) hcount
    | nd d Φ =>
      obtain ⟨hw, ⟨ts, hts, hg⟩, hd, _⟩ := hst
      have : Region.wanted o (yielded ops a.tmps) = true := by rw [hwn]; exact hw _
      simp only [this, if_true]
      refine .inl ((hg (slot a) w I.cls (hfacts ts hts) ⟨htemp ts hts, hpsi⟩).wp hev fun v w' ⟨hv, hS', hC'⟩ => ?_)
      refine ih _ _ _ (next v w' hS' hC' ?_ (fun d' Φ' h => by cases h; exact ⟨hd, hv⟩) (fun t Φ h => by cases h) (fun d x Φ h => by cases h)) hcount
      show v = slot (a.put o.dst v) d
      rw [hd]
      exact (slot_put_same (by rw [I.size, hn]; exact R.inb k o d ho hd)).symm
    | tp d x Φ =>
      obtain ⟨hw, ⟨ts, hts, hg⟩, hd, _⟩ := hst
      have : Region.wanted o (yielded ops a.tmps) = true := by rw [hwn]; exact hw _
      simp only [this, if_true]
      refine .inl ((hg (slot a) w I.cls (hfacts ts hts) ⟨htemp ts hts, hpsi⟩).wp hev fun v w' ⟨hv, hS', hC'⟩ => ?_)
      refine ih _ _ _ (next v w' hS' hC' ?_ (fun d' Φ' h => by cases h) (fun t Φ h => by cases h) (fun d' x' Φ' h => by cases h; exact ⟨hd, hv⟩)) hcount
      show v = slot (a.put o.dst v) d
      rw [hd]
      exact (slot_put_same (by rw [I.size, hn]; exact R.inb k o d ho hd)).symm
    | fx t Φ =>
      obtain ⟨hw, ⟨ts, hts, ht, htd, hg⟩, hd, _⟩ := hst
      have : Region.wanted o (yielded ops a.tmps) = true := by rw [hwn]; exact hw _
      simp only [this, if_true]
      refine .inl ((hg (slot a) w I.cls (hfacts ts hts) ⟨htemp ts hts, hpsi⟩).wp hev fun v w' ⟨hv, hS', hC'⟩ => ?_)
      have e : a.put o.dst v = a := by rw [hd]; rfl
      have e2 : a.put o.dst undef = a := by rw [hd]; rfl
      rw [e]
      have ht' : t ∈ o.looksAt ops := by rw [hts]; exact ht
      have hn := next undef w' hS' hC' rfl (fun d' Φ' h => by cases h) (fun t' Φ' h => by
        cases h
        rw [e2]
        refine ⟨htd, ?_⟩
        rw [hsl t ht']
        exact hv) (fun d x Φ h => by cases h)
      rw [e2] at hn
      exact ih _ _ _ hn hcount

/-- A REGION THAT DRAWS ITS ORDER, WALKED ONCE; Ψ holds till the operation that writes slot x0. -/
theorem wp_walkT {id : Nat} {Q : Exit → Act → World → Prop} {a0 : Act} {w0 : World} (n : Nat) (x0 : Nat) (Ψ : World → Prop) (hm : P.follows .mixedOrders = true) (hB : regB ops n = true) (hn : a0.tmps.size = n) (hS : ∀ o w, S o w w) (hC : C w0.drew)
    (hPsi : ∀ (o' : Oper) w w', o'.dst ≠ some x0 → Ψ w → S o' w w' → C w' → Ψ w') (h0 : Ψ w0.drew)
    (h : WalkR P ops C S x0 Ψ (Q .normal) ops.toList (fun _ => a0) [] [] []) : (Code.region id ops true).wp P Q a0 w0 := by
  obtain ⟨ks, hSt⟩ := h
  refine wp_region_any hm (walk_sound (regB_ok hB) hn hS hPsi hSt ops.size (Array.replicate ops.size false) a0 _ ?_ ?_)
  · exact ⟨by simp, rfl, rfl, hC, fun _ => h0, fun j o ho hl => by simp [Array.getElem?_replicate] at hl; split at hl <;> simp at hl, fun _ _ => rfl, fun j o kd ho hk hl => by simp [Array.getElem?_replicate] at hl; split at hl <;> simp at hl⟩
  · simp [List.countP_replicate]

theorem wp_walk {id : Nat} {Q : Exit → Act → World → Prop} {a0 : Act} {w0 : World} (n : Nat) (hm : P.follows .mixedOrders = true) (hB : regB ops n = true) (hn : a0.tmps.size = n) (hS : ∀ o w, S o w w) (hC : C w0.drew)
    (h : WalkR P ops C S 0 (fun _ => True) (Q .normal) ops.toList (fun _ => a0) [] [] []) : (Code.region id ops true).wp P Q a0 w0 :=
  wp_walkT n 0 (fun _ => True) hm hB hn hS hC (fun _ _ _ _ _ _ _ => trivial) trivial h

/-! ### The moves -/
variable {fs : List (Nat × Fact)} {us : List (Nat × Nat × Fact)}
theorem WalkR.nil {A : (Nat → Value) → Act} {hs : List (Nat × Fact)} (h : ∀ ρ w, C w → (∀ p ∈ hs, p.2 (ρ p.1) w) → (∀ p ∈ fs, p.2 (slot (A ρ) p.1) w) → QN (A ρ) w) : WalkR P ops C S x0 Ψ QN [] A hs us fs := ⟨[], h⟩
theorem WalkR.un {o : Oper} {l : List Oper} {A : (Nat → Value) → Act} {hs : List (Nat × Fact)} (hw : ∀ ρ, Region.wanted o (yielded ops (A ρ).tmps) = false) (h : WalkR P ops C S x0 Ψ QN l (fun ρ => (A ρ).put o.dst undef) hs us fs) : WalkR P ops C S x0 Ψ QN (o :: l) A hs us fs :=
  h.elim fun ks hk => ⟨.un :: ks, hw, hk⟩
theorem WalkR.det {o : Oper} {l : List Oper} {A : (Nat → Value) → Act} {hs : List (Nat × Fact)} {c : Value} {ts : List Nat} (hw : ∀ ρ, Region.wanted o (yielded ops (A ρ).tmps) = true) (hts : o.looksAt ops = ts)
    (hg : ∀ ρ w, C w → (∀ p ∈ hs, p.1 ∈ ts → p.2 (ρ p.1) w) → ((∀ p ∈ us, p.1 ∈ ts → o.dst = some p.2.1 → p.2.2 (ρ p.1) w) ∧ (o.dst = some x0 → Ψ w)) → gives P o (A ρ) w (fun v w' => v = c ∧ S o w w' ∧ C w')) (h : WalkR P ops C S x0 Ψ QN l (fun ρ => (A ρ).put o.dst c) hs us fs) : WalkR P ops C S x0 Ψ QN (o :: l) A hs us fs :=
  h.elim fun ks hk => ⟨.det c :: ks, ⟨hw, ts, hts, hg⟩, hk⟩
theorem WalkR.nd {o : Oper} {l : List Oper} {A : (Nat → Value) → Act} {hs : List (Nat × Fact)} {d : Nat} (Φ : Fact) {ts : List Nat} (hw : ∀ ρ, Region.wanted o (yielded ops (A ρ).tmps) = true) (hts : o.looksAt ops = ts) (hd : o.dst = some d) (hst : ∀ (o' : Oper) v w w', o'.dst ≠ some d → (∀ u ∈ depsOf ops o, o'.dst ≠ some u) → Φ v w → S o' w w' → C w' → Φ v w')
    (hg : ∀ ρ w, C w → (∀ p ∈ hs, p.1 ∈ ts → p.2 (ρ p.1) w) → ((∀ p ∈ us, p.1 ∈ ts → o.dst = some p.2.1 → p.2.2 (ρ p.1) w) ∧ (o.dst = some x0 → Ψ w)) → gives P o (A ρ) w (fun v w' => Φ v w' ∧ S o w w' ∧ C w')) (h : WalkR P ops C S x0 Ψ QN l (fun ρ => (A ρ).put o.dst (ρ d)) ((d, Φ) :: hs) us fs) : WalkR P ops C S x0 Ψ QN (o :: l) A hs us fs :=
  h.elim fun ks hk => ⟨.nd d Φ :: ks, ⟨hw, ⟨ts, hts, hg⟩, hd, hst⟩, hk⟩
theorem WalkR.tp {o : Oper} {l : List Oper} {A : (Nat → Value) → Act} {hs : List (Nat × Fact)} {d : Nat} (x : Nat) (Φ : Fact) {ts : List Nat} (hw : ∀ ρ, Region.wanted o (yielded ops (A ρ).tmps) = true) (hts : o.looksAt ops = ts) (hd : o.dst = some d) (hst : ∀ (o' : Oper) v w w', o'.dst ≠ some d → o'.dst ≠ some x → Φ v w → S o' w w' → C w' → Φ v w')
    (hg : ∀ ρ w, C w → (∀ p ∈ hs, p.1 ∈ ts → p.2 (ρ p.1) w) → ((∀ p ∈ us, p.1 ∈ ts → o.dst = some p.2.1 → p.2.2 (ρ p.1) w) ∧ (o.dst = some x0 → Ψ w)) → gives P o (A ρ) w (fun v w' => Φ v w' ∧ S o w w' ∧ C w')) (h : WalkR P ops C S x0 Ψ QN l (fun ρ => (A ρ).put o.dst (ρ d)) hs ((d, x, Φ) :: us) fs) : WalkR P ops C S x0 Ψ QN (o :: l) A hs us fs :=
  h.elim fun ks hk => ⟨.tp d x Φ :: ks, ⟨hw, ⟨ts, hts, hg⟩, hd, hst⟩, hk⟩
theorem WalkR.fx {o : Oper} {l : List Oper} {A : (Nat → Value) → Act} {hs : List (Nat × Fact)} (t : Nat) (Φ : Fact) {ts : List Nat} (hw : ∀ ρ, Region.wanted o (yielded ops (A ρ).tmps) = true) (hts : o.looksAt ops = ts) (ht : t ∈ ts) (htd : t ∈ depsOf ops o) (hd : o.dst = none) (hst : ∀ (o' : Oper) v w w', Φ v w → S o' w w' → C w' → Φ v w')
    (hg : ∀ ρ w, C w → (∀ p ∈ hs, p.1 ∈ ts → p.2 (ρ p.1) w) → ((∀ p ∈ us, p.1 ∈ ts → o.dst = some p.2.1 → p.2.2 (ρ p.1) w) ∧ (o.dst = some x0 → Ψ w)) → gives P o (A ρ) w (fun _ w' => Φ (slot (A ρ) t) w' ∧ S o w w' ∧ C w')) (h : WalkR P ops C S x0 Ψ QN l A hs us ((t, Φ) :: fs)) : WalkR P ops C S x0 Ψ QN (o :: l) A hs us fs :=
  h.elim fun ks hk => ⟨.fx t Φ :: ks, ⟨hw, ⟨ts, hts, ht, htd, hg⟩, hd, hst⟩, by rw [show nextA A o (.fx t Φ) = A from funext fun ρ => by simp [nextA, hd, Act.put]]; exact hk⟩

end

end R2
end Go.Proofs.YtanjolmelbipoaaDoor

namespace Go.Proofs.YtanjolmelbipoaaDoor
open Go.RowKit

theorem splice_set {α : Type} (L : List α) (o : Nat) (v : α) (r : List α) (h : o + (v :: r).length ≤ L.length) : splice (L.set o v) (o + 1) r = splice L o (v :: r) := by
  simp only [List.length_cons] at h
  apply List.ext_getElem?
  intro i
  simp only [splice, List.getElem?_append, List.length_take, List.length_set, List.getElem?_take, List.getElem?_drop, List.getElem?_set, List.length_cons]
  by_cases h1 : i < o
  · simp [h1, show i < min o L.length by omega, show i < min (o + 1) L.length by omega, show i < o + 1 by omega, show ¬ o = i by omega]
  · by_cases h2 : i = o
    · subst h2
      simp [show i < min (i + 1) L.length by omega, show min i L.length = i by omega, show i < L.length by omega]
    · simp only [show ¬ i < min o L.length by omega, show ¬ i < min (o + 1) L.length by omega, if_false]
      rw [show min (o + 1) L.length = o + 1 by omega, show min o L.length = o by omega]
      rw [show i - o = (i - (o + 1)) + 1 by omega, List.getElem?_cons_succ]
      by_cases h3 : i - (o + 1) < r.length
      · simp [h3]
      · simp only [h3, if_false, show ¬ i - (o + 1) + 1 < r.length + 1 by omega]
        rw [if_neg (by omega)]
        congr 1
        omega

theorem setCells_block (b : Nat) {t : TypeId} : ∀ (vs : List Value) (o : Nat) (w : World) (L : List Value), w.heap[b]? = some (.cells L.toArray t (0, 0)) → o + vs.length ≤ L.length → (w.setCells b o vs).heap[b]? = some (.cells (splice L o vs).toArray t (0, 0))
  | [], o, w, L, h, _ => by simpa [World.setCells, splice] using h
  | v :: r, o, w, L, h, hl => by
    have h1 : (w.setCell ⟨b, o, none⟩ v).heap[b]? = some (.cells (L.set o v).toArray t (0, 0)) := by
      have := heap_setCell_same w b o _ _ v h
      rwa [List.setIfInBounds_toArray] at this
    rw [World.setCells, ← splice_set L o v r hl]
    exact setCells_block b r (o + 1) _ _ h1 (by simp only [List.length_cons] at hl; simp; omega)

theorem put_setCells (b : Nat) : ∀ (vs : List Value) (o : Nat) (w : World), Put w (w.setCells b o vs) b
  | [], _, _ => ⟨rfl, rfl, rfl, rfl, fun _ _ => rfl⟩
  | v :: r, o, w => by
    have h := put_setCells b r (o + 1) (w.setCell ⟨b, o, none⟩ v)
    have h1 : Put w (w.setCell ⟨b, o, none⟩ v) b := by
      have hb : Below 0 w (w.setCell ⟨b, o, none⟩ v) := (Below.refl 0 w).setCell (Nat.zero_le _) v
      exact ⟨hb.os, hb.tape, hb.output, by simp, fun k hk => heap_setCell_other w ⟨b, o, none⟩ k v (fun e => hk e)⟩
    exact ⟨h.os.trans h1.os, h.tape.trans h1.tape, h.output.trans h1.output, h.size.trans h1.size, fun k hk => (h.other k hk).trans (h1.other k hk)⟩

section
variable {P : Program} {ops : Array Oper} {rest : List Oper} {op : Oper} {a : Act} {w : World} {Q : Exit → Act → World → Prop}

theorem run_store_mid {ty : TypeId} {b o : Nat} {cs L : List Value} {t : TypeId} (hb : w.heap[b]? = some (.cells L.toArray t (0, 0))) (hfit : o + cs.length ≤ L.length) (h1 : ∀ v ∈ cs, v.oneCell' = true) (hty : RowTy P ty cs.length) :
    (Instr.storeAt ty (.pointer (some ⟨b, o, none⟩)) (.agg cs.toArray)).run P w = .ok () (w.setCells b o cs) := by
  have := run_storeAt_mid (P := P) w b o ty cs.toArray (fun j hj => by
    simp only [List.size_toArray] at hj
    refine ⟨?_, frozen_of_row w b _ _ _ hb⟩
    rw [cell_of_row w b _ _ _ _ hb]
    simp [show o + j < L.length by omega]) (by simpa using hty.2) (all_oneCell_toArray h1)
  simpa using this

theorem wpList_load_blk (ty : TypeId) (x : Operand) (hgd : op.guard = none) (ho : op.op = .load ty x) {b o : Nat} (hx : a.eval x = .pointer (some ⟨b, o, none⟩))
    {C : Array Value} {t : TypeId} {fr : Nat × Nat} (hb : w.heap[b]? = some (.cells C t fr)) (cs : List Value) (hcs : ∀ j v, cs[j]? = some v → C[o + j]? = some v) (hty : RowTy P ty cs.length)
    (h : wpList P ops Q rest (a.put op.dst (.agg cs.toArray)) w) : wpList P ops Q (op :: rest) a w := by
  refine wpList_plain hgd fun K hK => ?_
  unfold Oper.wp execOp
  simp only [ho, hx, Sem.run_bind, run_load_blk hb hcs hty, Result.andThen_ok]
  exact hK _ _ h

theorem wpList_store_blk (ty : TypeId) (x y : Operand) (hgd : op.guard = none) (ho : op.op = .store ty x y) (hd : op.dst = none) {b o : Nat} (hx : a.eval x = .pointer (some ⟨b, o, none⟩)) {cs L : List Value} (hy : a.eval y = .agg cs.toArray)
    {t : TypeId} (hb : w.heap[b]? = some (.cells L.toArray t (0, 0))) (hfit : o + cs.length ≤ L.length) (h1 : ∀ v ∈ cs, v.oneCell' = true) (hty : RowTy P ty cs.length)
    (h : ∀ w', Put w w' b → w'.heap[b]? = some (.cells (splice L o cs).toArray t (0, 0)) → wpList P ops Q rest a w') : wpList P ops Q (op :: rest) a w := by
  refine wpList_plain hgd fun K hK => ?_
  unfold Oper.wp execOp
  simp only [ho, hx, hy, Sem.run_bind, Sem.run_pure, run_store_mid hb hfit h1 hty, Result.andThen_ok]
  refine hK _ _ ?_
  rw [show a.put op.dst undef = a from by rw [hd]; rfl]
  exact h _ (put_setCells b cs o w) (setCells_block b cs o w L hb hfit)

theorem run_store_one {ty : TypeId} {b o : Nat} {v : Value} {L : List Value} {t : TypeId} (hb : w.heap[b]? = some (.cells L.toArray t (0, 0))) (hfit : o < L.length) (hv : v.cells = #[v]) (h1 : v.oneCell' = true) (hty : (P.info? ty).map (·.size) = some 1) :
    (Instr.storeAt ty (.pointer (some ⟨b, o, none⟩)) v).run P w = .ok () (w.setCell ⟨b, o, none⟩ v) := by
  have hc : (w.cell? ⟨b, o, none⟩).isSome = true := by rw [cell_of_row w b _ _ _ _ hb]; simp [hfit]
  have hf : w.frozen? ⟨b, o, none⟩ = false := frozen_of_row w b _ _ _ hb
  have := run_storeCells_cells (P := P) b o [v] 0 w (fun j hj => by
    have : j = 0 := by simpa using hj
    subst this; simpa using hc) (fun j hj => by
    have : j = 0 := by simpa using hj
    subst this; simpa using hf) (fun u hu => by
    have : u = v := by simpa using hu
    subst this; exact h1)
  cases hq : P.info? ty with
  | none => simp [hq] at hty
  | some i =>
    have hs : i.size = 1 := by simpa [hq] using hty
    simp only [Nat.add_zero] at this
    simp [Instr.storeAt, Instr.sureAddr, storeVar, sizeOf, typeInfo, hq, hv, hs, this, World.setCells]

variable {R : Value → World → Prop}
theorem gives_store_one (ty : TypeId) (x y : Operand) (ho : op.op = .store ty x y) {b o : Nat} (hx : a.eval x = .pointer (some ⟨b, o, none⟩)) {z : Int} (hy : a.eval y = .int .i64 z) {L : List Value}
    {t : TypeId} (hb : w.heap[b]? = some (.cells L.toArray t (0, 0))) (hfit : o < L.length) (hty : (P.info? ty).map (·.size) = some 1)
    (h : ∀ w', Put w w' b → w'.heap[b]? = some (.cells (L.set o (.int .i64 z)).toArray t (0, 0)) → R undef w') : gives P op a w R := by
  have hrun := run_store_one (P := P) (v := .int .i64 z) hb hfit rfl rfl hty
  unfold gives execOp
  simp only [ho, hx, hy, Sem.run_bind, Sem.run_pure, hrun, Result.andThen_ok]
  refine h _ (put_setCells b [.int .i64 z] o w) ?_
  have := heap_setCell_same w b o _ _ (.int .i64 z) hb
  rwa [List.setIfInBounds_toArray] at this

theorem gives_load_blk (ty : TypeId) (x : Operand) (ho : op.op = .load ty x) {b o : Nat} (hx : a.eval x = .pointer (some ⟨b, o, none⟩))
    {C : Array Value} {t : TypeId} {fr : Nat × Nat} (hb : w.heap[b]? = some (.cells C t fr)) (cs : List Value) (hcs : ∀ j v, cs[j]? = some v → C[o + j]? = some v) (hty : RowTy P ty cs.length)
    (h : R (.agg cs.toArray) w) : gives P op a w R := by
  unfold gives execOp
  simp only [ho, hx, Sem.run_bind, run_load_blk hb hcs hty, Result.andThen_ok]
  exact h

theorem gives_store_blk (ty : TypeId) (x y : Operand) (ho : op.op = .store ty x y) {b o : Nat} (hx : a.eval x = .pointer (some ⟨b, o, none⟩)) {cs L : List Value} (hy : a.eval y = .agg cs.toArray)
    {t : TypeId} (hb : w.heap[b]? = some (.cells L.toArray t (0, 0))) (hfit : o + cs.length ≤ L.length) (h1 : ∀ v ∈ cs, v.oneCell' = true) (hty : RowTy P ty cs.length)
    (h : ∀ w', Put w w' b → w'.heap[b]? = some (.cells (splice L o cs).toArray t (0, 0)) → R undef w') : gives P op a w R := by
  unfold gives execOp
  simp only [ho, hx, hy, Sem.run_bind, Sem.run_pure, run_store_mid hb hfit h1 hty, Result.andThen_ok]
  exact h _ (put_setCells b cs o w) (setCells_block b cs o w L hb hfit)

end

/-- A grove's cells as a list. -/
def gl (h : Hab) (c : List Int) : List Value := hcells h ++ ints c
theorem gl_len {h : Hab} {c : List Int} (hc : c.length = 7) : (gl h c).length = 13 := by simp [gl, hcells, ints, hc]
theorem gl_one (h : Hab) (c : List Int) : ∀ v ∈ gl h c, v.oneCell' = true := by
  intro v hv
  simp only [gl, List.mem_append] at hv
  rcases hv with hv | hv
  · simp only [hcells, List.mem_cons, List.not_mem_nil, or_false] at hv
    rcases hv with rfl | rfl | rfl | rfl | rfl | rfl <;> rfl
  · exact oneCells_ints _ v hv
theorem gv_eq (h : Hab) (c : List Int) : gv h c = .agg (gl h c).toArray := rfl
theorem at0 {L : List Value} : ∀ (j : Nat) (v : Value), L[j]? = some v → L.toArray[0 + j]? = some v := fun j v h => by rw [Nat.zero_add, List.getElem?_toArray]; exact h

end Go.Proofs.YtanjolmelbipoaaDoor

namespace Go.Proofs.YtanjolmelbipoaaDoor
open Go.RowKit

theorem sum_nn {M : Int} : ∀ {l : List Int}, Bnd 0 M l → 0 ≤ l.sum
  | [], _ => by simp
  | x :: l, h => by
    have h1 := h 0 (by simp)
    have h2 : Bnd 0 M l := fun k hk => by have := h (k + 1) (by simpa using hk); simpa using this
    have := sum_nn h2
    simp at h1 ⊢
    omega
theorem sum_ub {M : Int} : ∀ {l : List Int}, Bnd 0 M l → l.sum ≤ M * l.length
  | [], _ => by simp
  | x :: l, h => by
    have h1 := h 0 (by simp)
    have h2 : Bnd 0 M l := fun k hk => by have := h (k + 1) (by simpa using hk); simpa using this
    have := sum_ub h2
    simp at h1 ⊢
    rw [Int.mul_add]
    omega

theorem mul_bd {x y X Y : Int} (h1 : 0 ≤ x) (h2 : x ≤ X) (h3 : 0 ≤ y) (h4 : y ≤ Y) : 0 ≤ x * y ∧ x * y ≤ X * Y :=
  ⟨Int.mul_nonneg h1 h3, Int.mul_le_mul h2 h4 h3 (by omega)⟩

set_option maxHeartbeats 1000000 in
theorem shoots_any (h : Hab) (b : Nat) (hb : h.bears = b) (hb6 : b ≤ 6) (c : List Int) (hc : c.length = 7) (hbd : Bnd 0 1000000 c) (rate rain : Int) (h1 : 0 ≤ rate) (h2 : rate ≤ 1000) (h3 : 0 ≤ rain) (h4 : rain ≤ 1500) (w : World) :
    Calls Tryd.prog 33 #[gv h c, .int .i64 rate, .int .i64 rain] w fun e w' => e = .returned (.int .i64 ((c.take (b + 1)).sum * rate * rain / 1000000)) ∧ Below w.heap.size w w' := by
  obtain ⟨lo, hi, be, ri, di, ke⟩ := h
  simp only at hb
  subst hb
  have hI := ints_of_block (B := w.heap.size + 1) (r := 0) (heap_alloc_new w (.cells (gcells ⟨lo, hi, b, ri, di, ke⟩ c) 71)) (by omega) (b + 1) (by omega)
  rw [List.drop_zero] at hI
  have hl : (c.take (b + 1)).length = b + 1 := by simp [hc]; omega
  have H := sum_any (some ⟨w.heap.size, 6 + 0, none⟩) 7 (c.take (b + 1)) (w.heap.size + 1) _ hI (by omega) (hbd.take (b + 1))
  rw [hl] at H
  have s0 := sum_nn (hbd.take (b + 1))
  have s1 := sum_ub (hbd.take (b + 1))
  rw [hl] at s1
  have HH := Lib.hid H
  rw [show gv ⟨lo, hi, b, ri, di, ke⟩ c = .agg (gcells ⟨lo, hi, b, ri, di, ke⟩ c) from rfl]
  clear H hI hl
  obtain ⟨c0, c1, c2, c3, c4, c5, c6, rfl⟩ := len7 hc
  have hg : gcells ⟨lo, hi, b, ri, di, ke⟩ [c0, c1, c2, c3, c4, c5, c6] = #[.int .i64 lo, .int .i64 hi, .int .i64 b, .int .i64 ri, .int .i64 di, .int .i64 ke, .int .i64 c0, .int .i64 c1, .int .i64 c2, .int .i64 c3, .int .i64 c4, .int .i64 c5, .int .i64 c6] := rfl
  rw [hg] at HH ⊢
  generalize (List.take (b + 1) [c0, c1, c2, c3, c4, c5, c6]).sum = S at HH s0 s1 ⊢
  have s2 : S ≤ 7000000 := by omega
  have m1 := mul_bd s0 s2 h1 h2
  have m2 := mul_bd m1.1 m1.2 h3 h4
  obtain ⟨m1a, m1b⟩ := m1
  obtain ⟨m2a, m2b⟩ := m2
  have m1c : S * rate ≤ 7000000000 := by omega
  have m2c : S * rate * rain ≤ 10500000000000 := by omega
  have b1 : (0 : Int) ≤ (b : Int) + 1 := by omega
  have b2 : (b : Int) + 1 ≤ 7 := by omega
  have b3 : ((b : Int) + 1).toNat = b + 1 := by omega
  clear hg hbd hc m1b m2b s1
  go_enter Tryd.func33, Tryd.ntmps33
  go_wp2_with (go_at_call 47; refine (HH.out).mono ?_; rintro e w' ⟨rfl, rfl⟩)
  go_ret
  exact ⟨rfl, (Below.refl _ _).alloc (Nat.le_refl _) _⟩

theorem between_any (x y : Int) (w : World) :
    Calls Tryd.prog 37 #[.agg #[.int .i64 x, .int .i64 y]] w fun e w' => e = .returned (.agg #[.int .i64 x, .int .i64 y]) ∧ Below w.heap.size w w' := by
  go_enter Tryd.func37, Tryd.ntmps37
  go_wp2
  exact bodyPost_ret (v := .agg #[.int .i64 x, .int .i64 y]) (by simp [results, Tryd.results37, go_sem]) rfl ⟨rfl, by
    first
      | exact ((Below.refl _ _).alloc (Nat.le_refl _) _).alloc (by simp) _
      | exact ((((Below.refl _ _).alloc (Nat.le_refl _) _).alloc (by simp) _).setCell (by simp) _).setCell (by simp) _⟩

end Go.Proofs.YtanjolmelbipoaaDoor

namespace Go.Proofs.YtanjolmelbipoaaDoor
open Go.RowKit

attribute [local go_sem] gives

theorem splice_same {α : Type} (L : List α) : splice L 0 L = L := by simp [splice]
theorem Put.grows {W W' : World} {b : Nat} {o : Obj} (h : Put W W' b) (h1 : W.heap[b]? = some o) (h2 : W'.heap[b]? = some o) : Grows W W' :=
  ⟨h.os, h.tape, h.output, Nat.le_of_eq h.size.symm, fun k _ => by
    by_cases e : k = b
    · subst e; rw [h1, h2]
    · exact h.other k e⟩

/-- Whether a cut may be made. -/
def okCut (r : Nat) (keep n : Int) (c left : List Int) : Bool := decide (n ≤ (c.drop r).sum) && decide (keep ≤ left.sum)

/-- Where spared is: both groves lie as they lay. -/
structure SpAt (w : World) (h : Hab) (c l : List Int) (W : World) : Prop where
  h0 : W.heap[w.heap.size]? = some (.cells (gl h c).toArray 71 (0, 0))
  h1 : W.heap[w.heap.size + 1]? = some (.cells (gl h l).toArray 71 (0, 0))
  bel : Below w.heap.size w W
  lt : w.heap.size + 1 < W.heap.size
theorem SpAt.next {w : World} {h : Hab} {c l : List Int} {W W' : World} (hh : SpAt w h c l W) (hg : Grows W W') : SpAt w h c l W' :=
  ⟨(hg.block _ (lt_of_heap hh.h0)).trans hh.h0, (hg.block _ hh.lt).trans hh.h1, hh.bel.trans (hg.mono (by have := hh.lt; omega)), Nat.lt_of_lt_of_le hh.lt hg.size⟩

set_option maxRecDepth 100000 in
set_option maxHeartbeats 4000000 in
theorem spared_any (h : Hab) (d r : Nat) (hd : h.dies = d) (hr : h.ripe = r) (hr1 : 1 ≤ r) (hrd : r ≤ d) (hd6 : d ≤ 6) (c : List Int) (hc : c.length = 7) (M : Int) (hM : M ≤ 1000000) (hb : Bnd 0 M c) (n : Int) (hn : 0 ≤ n) (hn2 : n ≤ M) (w : World) :
    Calls Tryd.prog 35 #[gv h c, .int .i64 n] w fun e w' => e = .returned (.tuple #[gv h (cutTo c n d (d - r + 1)).1, .bool (okCut r h.keep n c (cutTo c n d (d - r + 1)).1)]) ∧ Below w.heap.size w w' := by
  have hl := (cutTo_len c n d (d - r + 1)).1
  rw [hc] at hl
  have hlb := (cutTo_bnd hb hn hn2 d (by omega) (d - r + 1) (by omega)).1
  have hC := fun W => cut_any h d r hd hr hr1 hrd hd6 c hc M hM hb n hn hn2 W
  have hR := fun W => ripe_any h r hr (by omega) c hc (fun k hk => by have := hb k hk; omega) W
  generalize hle : (cutTo c n d (d - r + 1)).1 = l at hl hlb hC ⊢
  generalize (cutTo c n d (d - r + 1)).2.1 = gn at hC
  have hS := fun W => standing_any h l hl (fun k hk => by have := hlb k hk; omega) W
  have rowL : RowTy Tryd.prog 71 (gl h l).length := by rw [gl_len hl]; exact rowGrove
  have rowC : RowTy Tryd.prog 71 (gl h c).length := by rw [gl_len hc]; exact rowGrove
  have hlenL := gl_len (h := h) hl
  unfold okCut
  generalize (c.drop r).sum = R at hR ⊢
  generalize l.sum = S at hS ⊢
  have HC := Lib.hid hC
  have HR := Lib.hid hR
  have HS := Lib.hid hS
  have RL := Lib.hid rowL
  have RC := Lib.hid rowC
  have HL := Lib.hid hlenL
  have Hl7 := Lib.hid hl
  have hgc : gv h c = .agg (gl h c).toArray := rfl
  have hke : (gl h c)[5]? = some (.int .i64 h.keep) := rfl
  have Hke := Lib.hid hke
  obtain ⟨c0, c1, c2, c3, c4, c5, c6, rfl⟩ := len7 hc
  have e1 : gv h [c0, c1, c2, c3, c4, c5, c6] = .agg #[.int .i64 h.lo, .int .i64 h.hi, .int .i64 h.bears, .int .i64 h.ripe, .int .i64 h.dies, .int .i64 h.keep, .int .i64 c0, .int .i64 c1, .int .i64 c2, .int .i64 c3, .int .i64 c4, .int .i64 c5, .int .i64 c6] := rfl
  have HC1 := HC
  rw [e1] at HC1 ⊢
  clear hC hR hS rowL rowC hlenL hgc hke hle hb hlb hc hd hr hl
  go_enter Tryd.func35, Tryd.ntmps35
  go_upto_region 2 with (first
    | (go_at_call 46
       refine (HC1.out _).mono ?_
       rintro e w1 ⟨rfl, hB1⟩
       have hs1 := hB1.size
       simp only [World.size_alloc] at hs1
       have h0 : w1.heap[w.heap.size]? = some (.cells (gl h [c0, c1, c2, c3, c4, c5, c6]).toArray 71 (0, 0)) := (hB1.block _ (by simp; omega)).trans (alloc2_at0 w _ _)
       have h1 : w1.heap[w.heap.size + 1]? = some (.cells (List.replicate 13 (Value.int .i64 0)).toArray 71 (0, 0)) := (hB1.block _ (by simp)).trans (alloc2_at1 w _ _)
       have B1 := Lib.hid (And.intro (((Below.refl w.heap.size w).alloc (Nat.le_refl _) _ |>.alloc (by simp) _).trans (hB1.mono (by simp <;> omega))) (And.intro h0 h1))
       clear hB1 h0 h1)
    | (show wpList _ _ _ (Oper.mk none (Op.store _ (Operand.tmp 4) (Operand.tmp 10)) _ _ _ _ :: _) _ _
       refine wpList_store_blk 71 (.tmp 4) (.tmp 10) rfl rfl rfl rfl (gv_eq h l) B1.out.2.2 (by rw [HL.out]; simp) (gl_one h l) RL.out ?_
       intro w2 hP2 hM2
       have e2 : splice (List.replicate 13 (Value.int .i64 0)) 0 (gl h l) = gl h l := by simp [splice, HL.out]
       rw [e2] at hM2
       have hs2 := hP2.size
       have hSp : SpAt w h [c0, c1, c2, c3, c4, c5, c6] l w2 := ⟨(hP2.other _ (by omega)).trans B1.out.2.1, hM2, B1.out.1.trans (hP2.below (by omega)), by omega⟩
       have SP := Lib.hid hSp
       clear hP2 hM2 e2 hSp))
  by_cases hle : n ≤ R
  all_goals
    refine wp_walk (C := SpAt w h [c0, c1, c2, c3, c4, c5, c6] l) (S := Grows) 25 (by kernel_rfl) (by kernel_rfl) rfl Grows.refl (SP.out.next (Below.refl _ _).drew) ?_
    simp only []
    repeat (first
      | (refine WalkR.un (fun _ => rfl) ?_
         simp only [Act.put, List.setIfInBounds_toArray, List.set_cons_succ, List.set_cons_zero])
      | (refine' WalkR.det (fun _ => rfl) rfl (fun ρ W hW hH => ?_) ?_
         rotate_left
         · clear hH
           have HW := Lib.hid hW
           have hke := (cell_of_row W w.heap.size 5 _ _ _ hW.h0).trans (by rw [List.getElem?_toArray])
           clear hW
           first
             | exact gives_load_blk 71 (.tmp 4) rfl rfl HW.out.h1 (gl h l) at0 RL.out ⟨rfl, Grows.refl _, HW.out⟩
             | exact gives_load_blk 71 (.tmp 2) rfl rfl HW.out.h0 (gl h [c0, c1, c2, c3, c4, c5, c6]) at0 RC.out ⟨rfl, Grows.refl _, HW.out⟩
             | exact gives_store_blk 71 (.tmp 4) (.tmp 12) rfl rfl rfl HW.out.h1 (by omega) (gl_one h l) RL.out (fun w' hP hM => by
                 rw [splice_same] at hM
                 exact ⟨rfl, hP.grows HW.out.h1 hM, HW.out.next (hP.grows HW.out.h1 hM)⟩)
             | (go_simp
                first
                  | exact ⟨rfl, Grows.refl _, HW.out⟩
                  | (go_at_call 45; refine (HR.out W).mono ?_; rintro e W1 ⟨rfl, hB1⟩; exact ⟨_, rfl, rfl, hB1, HW.out.next hB1⟩)
                  | (go_at_call 36; refine (HS.out W).mono ?_; rintro e W1 ⟨rfl, hB1⟩; exact ⟨_, rfl, rfl, hB1, HW.out.next hB1⟩))
         simp only [Act.put, List.setIfInBounds_toArray, List.set_cons_succ, List.set_cons_zero]))
    refine WalkR.nil (fun ρ W hW hH => ?_)
    clear hH
    obtain ⟨l0, l1, l2, l3, l4, l5, l6, rfl⟩ := len7 Hl7.out
    have hres : ∀ i, W.cell? ⟨w.heap.size + 1, i, none⟩ = _ := fun i => cell_of_row W (w.heap.size + 1) i _ _ _ hW.h1
    simp only [gl, hcells, ints, List.map_cons, List.map_nil, List.cons_append, List.nil_append] at hres
    have HW := Lib.hid hW.bel
    clear hW
    go_wp2
    refine bodyPost_ret (v := .tuple #[gv h [l0, l1, l2, l3, l4, l5, l6], _]) (by simp [results, Tryd.results35, go_sem, hres, gv, gcells, hcells, ints]; rfl) rfl ⟨?_, HW.out⟩
    first
      | (simp [hle]; done)
      | (simp; omega)

end Go.Proofs.YtanjolmelbipoaaDoor

