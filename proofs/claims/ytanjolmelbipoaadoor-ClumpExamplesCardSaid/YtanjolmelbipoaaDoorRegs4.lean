/-
  A region that draws its order, walked once, in the text's order (as in Regs); an operation that yields nothing (a store) may leave a fact on memory that all other operations keep.
-/
import Derived.Test.YtanjolmelbipoaaDoorYF
import Derived.Orders
import Derived.KernelRfl
import Derived.Tactics
import Derived.Tactics2
namespace Go.Proofs.YtanjolmelbipoaaDoor
namespace R4

section
variable {ops : Array Oper}
variable (ops) in
/-- What is asked of a region, as one Bool: edges go back; slots are written once, and lie in the frame; whatever an operation looks at that another one of the region writes, it waits for. -/
def regB (n : Nat) : Bool :=
  (List.range ops.size).all fun k =>
    match ops[k]? with
    | none => true
    | some o =>
      (o.after.all fun e => !Region.binds .any e || decide (e.on < k)) &&
      (match o.dst with | some d => decide (d < n) | none => true) &&
      (match o.op with | .select .. => false | _ => true) &&
      ((List.range ops.size).all fun j =>
        match ops[j]? with
        | none => true
        | some oj =>
          match oj.dst with
          | none => true
          | some d => (decide (j = k) || o.dst != some d) && (!(o.looksAt ops).contains d || (decide (j < k) && o.after.any fun e => Region.binds .any e && e.on == j) || (decide (k < j) && oj.after.any fun e => Region.binds .any e && e.on == k)))

structure RegOk (n : Nat) (ops : Array Oper) : Prop where
  back : ∀ (k : Nat) (o : Oper), ops[k]? = some o → ∀ e ∈ o.after, Region.binds .any e = true → e.on < k
  inb : ∀ (k : Nat) (o : Oper) (d : Nat), ops[k]? = some o → o.dst = some d → d < n
  sel : ∀ (k : Nat) (o : Oper), ops[k]? = some o → ∀ cs b, o.op ≠ .select cs b
  once : ∀ (k : Nat) (o : Oper) (j : Nat) (oj : Oper) (d : Nat), ops[k]? = some o → ops[j]? = some oj → oj.dst = some d → o.dst = some d → j = k
  waits : ∀ (k : Nat) (o : Oper) (j : Nat) (oj : Oper) (d : Nat), ops[k]? = some o → ops[j]? = some oj → oj.dst = some d → d ∈ o.looksAt ops → (j < k ∧ ∃ e ∈ o.after, Region.binds .any e = true ∧ e.on = j) ∨ (k < j ∧ ∃ e ∈ oj.after, Region.binds .any e = true ∧ e.on = k)

theorem regB_ok {n : Nat} (h : regB ops n = true) : RegOk n ops := by
  simp only [regB, List.all_eq_true, List.mem_range] at h
  have h' : ∀ (k : Nat) (o : Oper), ops[k]? = some o → _ := fun k o ho => by
    have := h k (Array.getElem?_eq_some_iff.1 ho).1
    simp only [ho, Bool.and_eq_true] at this
    exact this
  have hj : ∀ (k : Nat) (o : Oper) (j : Nat) (oj : Oper) (d : Nat), ops[k]? = some o → ops[j]? = some oj → oj.dst = some d → _ := fun k o j oj d ho hoj hd => by
    have := (h' k o ho).2
    simp only [List.all_eq_true, List.mem_range] at this
    have := this j (Array.getElem?_eq_some_iff.1 hoj).1
    simp only [hoj, hd, Bool.and_eq_true] at this
    exact this
  refine ⟨fun k o ho e he hb => ?_, fun k o d ho hd => ?_, fun k o ho cs b e => ?_, fun k o j oj d ho hoj hd hd' => ?_, fun k o j oj d ho hoj hd hm => ?_⟩
  · have := (h' k o ho).1.1.1
    rw [Array.all_eq_true_iff_forall_mem] at this
    simpa [hb] using this e he
  · have := (h' k o ho).1.1.2
    simpa [hd] using this
  · have := (h' k o ho).1.2
    simp [e] at this
  · have := (hj k o j oj d ho hoj hd).1
    simpa [hd'] using this
  · have := (hj k o j oj d ho hoj hd).2
    simp only [Bool.or_eq_true, Bool.not_eq_true', Bool.and_eq_true, decide_eq_true_eq, Array.any_eq_true', beq_iff_eq] at this
    rcases this with (h1 | ⟨h1, e, he, hb⟩) | ⟨h1, e, he, hb⟩
    · have : (o.looksAt ops).contains d = true := by simpa using hm
      rw [h1] at this; cases this
    · exact .inl ⟨h1, e, he, hb⟩
    · exact .inr ⟨h1, e, he, hb⟩

/-- The slots that an operation waits for. -/
def depsOf (ops : Array Oper) (o : Oper) : List Nat := o.after.toList.filterMap fun e => if Region.binds .any e = true then (ops[e.on]?).bind (·.dst) else none
theorem mem_deps {o : Oper} {u : Nat} : u ∈ depsOf ops o ↔ ∃ e ∈ o.after, Region.binds .any e = true ∧ ∃ od, ops[e.on]? = some od ∧ od.dst = some u := by
  simp only [depsOf, List.mem_filterMap, Array.mem_toList_iff]
  constructor
  · rintro ⟨e, he, h⟩
    split at h
    · rename_i hb
      rw [Option.bind_eq_some_iff] at h
      exact ⟨e, he, hb, h⟩
    · cases h
  · rintro ⟨e, he, hb, od, h1, h2⟩
    exact ⟨e, he, by rw [if_pos hb, Option.bind_eq_some_iff]; exact ⟨od, h1, h2⟩⟩

end

section
variable (P : Program) (ops : Array Oper) (C : (Nat → Value) → World → Prop) (S : (Nat → Value) → Oper → World → World → Prop) (x0 : Nat) (Ψ : World → Prop) (QN : Act → World → Prop)

/-- How an operation is met: it isn't wanted; it yields one value; it yields a value of which a fact is known. -/
inductive Kd where
  | un
  | det (c : Value)
  | nd (d : Nat) (Φ : Fact)
  | fx (t : Nat) (Φ : Fact)
  | tp (d x : Nat) (Φ : Fact)

def ent : Kd → (Nat → Value) → Value
  | .un, _ => undef
  | .det c, _ => c
  | .nd d _, ρ => ρ d
  | .fx _ _, _ => undef
  | .tp d _ _, ρ => ρ d
def nextA (A : (Nat → Value) → Act) (o : Oper) (kd : Kd) : (Nat → Value) → Act := fun ρ => (A ρ).put o.dst (ent kd ρ)
def nextH (hs : List (Nat × Fact)) : Kd → List (Nat × Fact)
  | .nd d Φ => (d, Φ) :: hs
  | _ => hs
/-- Facts that hold until the operation that writes slot x. -/
def nextT (us : List (Nat × Nat × Fact)) : Kd → List (Nat × Nat × Fact)
  | .tp d x Φ => (d, x, Φ) :: us
  | _ => us
def nextF (fs : List (Nat × Fact)) : Kd → List (Nat × Fact)
  | .fx t Φ => (t, Φ) :: fs
  | _ => fs

theorem count_one {Q : Oper → Bool} : ∀ {l : List Oper}, l.countP Q ≤ 1 → ∀ (k k' : Nat) (o' o'' : Oper), l[k]? = some o' → l[k']? = some o'' → Q o' = true → Q o'' = true → k = k'
  | [], _, _, _, _, _, h, _, _, _ => by simp at h
  | x :: l, hc, k, k', o', o'', h1, h2, q1, q2 => by
    have hin : ∀ (i : Nat) (o : Oper), l[i]? = some o → Q o = true → 0 < l.countP Q := fun i o hi hq => List.countP_pos_iff.2 ⟨o, List.mem_of_getElem? hi, hq⟩
    rw [List.countP_cons] at hc
    cases k with
    | zero =>
      cases k' with
      | zero => rfl
      | succ k' =>
        simp only [List.getElem?_cons_zero, Option.some.injEq] at h1
        have := hin k' o'' (by simpa using h2) q2
        rw [h1, q1, if_pos rfl] at hc
        omega
    | succ k =>
      cases k' with
      | zero =>
        simp only [List.getElem?_cons_zero, Option.some.injEq] at h2
        have := hin k o' (by simpa using h1) q1
        rw [h2, q2, if_pos rfl] at hc
        omega
      | succ k' =>
        have := count_one (l := l) (by omega) k k' o' o'' (by simpa using h1) (by simpa using h2) q1 q2
        omega

/-- The slots behind a write. -/
def upd (ρ : Nat → Value) (d : Option Nat) (v : Value) : Nat → Value := fun t => if d = some t then v else ρ t
theorem slot_upd {a : Act} {d : Option Nat} {v : Value} (h : ∀ t, d = some t → t < a.tmps.size) : slot (a.put d v) = upd (slot a) d v := by
  funext t
  unfold upd
  by_cases e : d = some t
  · rw [if_pos e, e]
    exact slot_put_same (h t e)
  · rw [if_neg e]
    exact slot_put_ne e

/-- What is owed for one operation. -/
def StepOk (o : Oper) (kd : Kd) (A : (Nat → Value) → Act) (hs : List (Nat × Fact)) (us : List (Nat × Nat × Fact)) : Prop :=
  match kd with
  | .un => (∀ ρ, Region.wanted o (yielded ops (A ρ).tmps) = false) ∧ ∀ ρ w, C ρ w → C (upd ρ o.dst undef) w
  | .det c => (∀ ρ, Region.wanted o (yielded ops (A ρ).tmps) = true) ∧ ∃ ts : List Nat, o.looksAt ops = ts ∧
      ∀ ρ w, C ρ w → (∀ p ∈ hs, p.1 ∈ ts → p.2 (ρ p.1) w) → ((∀ p ∈ us, p.1 ∈ ts → o.dst = some p.2.1 → p.2.2 (ρ p.1) w) ∧ (o.dst = some x0 → Ψ w)) → gives P o (A ρ) w (fun v w' => v = c ∧ S ρ o w w' ∧ C (upd ρ o.dst v) w')
  | .nd d Φ => (∀ ρ, Region.wanted o (yielded ops (A ρ).tmps) = true) ∧ (∃ ts : List Nat, o.looksAt ops = ts ∧
      ∀ ρ w, C ρ w → (∀ p ∈ hs, p.1 ∈ ts → p.2 (ρ p.1) w) → ((∀ p ∈ us, p.1 ∈ ts → o.dst = some p.2.1 → p.2.2 (ρ p.1) w) ∧ (o.dst = some x0 → Ψ w)) → gives P o (A ρ) w (fun v w' => Φ v w' ∧ S ρ o w w' ∧ C (upd ρ o.dst v) w')) ∧ o.dst = some d ∧ (∀ (o' : Oper) σ w w', o'.dst ≠ some d → (∀ u ∈ depsOf ops o, o'.dst ≠ some u) → Φ (σ d) w → C σ w → S σ o' w w' → Φ (σ d) w')
  | .fx t Φ => (∀ ρ, Region.wanted o (yielded ops (A ρ).tmps) = true) ∧ (∃ ts : List Nat, o.looksAt ops = ts ∧ t ∈ ts ∧ t ∈ depsOf ops o ∧
      ∀ ρ w, C ρ w → (∀ p ∈ hs, p.1 ∈ ts → p.2 (ρ p.1) w) → ((∀ p ∈ us, p.1 ∈ ts → o.dst = some p.2.1 → p.2.2 (ρ p.1) w) ∧ (o.dst = some x0 → Ψ w)) → gives P o (A ρ) w (fun _ w' => Φ (slot (A ρ) t) w' ∧ S ρ o w w' ∧ C ρ w')) ∧ o.dst = none ∧ (∃ Q : Oper → Bool, Q o = true ∧ (∀ (k k' : Nat) (o' o'' : Oper), ops[k]? = some o' → ops[k']? = some o'' → Q o' = true → Q o'' = true → k = k') ∧ ∀ (o' : Oper) σ w w', Q o' = false → Φ (σ t) w → C σ w → S σ o' w w' → Φ (σ t) w')
  | .tp d x Φ => (∀ ρ, Region.wanted o (yielded ops (A ρ).tmps) = true) ∧ (∃ ts : List Nat, o.looksAt ops = ts ∧
      ∀ ρ w, C ρ w → (∀ p ∈ hs, p.1 ∈ ts → p.2 (ρ p.1) w) → ((∀ p ∈ us, p.1 ∈ ts → o.dst = some p.2.1 → p.2.2 (ρ p.1) w) ∧ (o.dst = some x0 → Ψ w)) → gives P o (A ρ) w (fun v w' => Φ v w' ∧ S ρ o w w' ∧ C (upd ρ o.dst v) w')) ∧ o.dst = some d ∧ (∀ (o' : Oper) σ w w', o'.dst ≠ some d → o'.dst ≠ some x → Φ (σ d) w → C σ w → S σ o' w w' → Φ (σ d) w')

/-- The walk in the text's order. -/
def Steps : List Oper → List Kd → ((Nat → Value) → Act) → List (Nat × Fact) → List (Nat × Nat × Fact) → List (Nat × Fact) → Prop
  | [], [], A, hs, _, fs => ∀ ρ w, C ρ w → (∀ p ∈ hs, p.2 (ρ p.1) w) → (∀ p ∈ fs, p.2 (slot (A ρ) p.1) w) → QN (A ρ) w
  | o :: l, kd :: ks, A, hs, us, fs => StepOk P ops C S x0 Ψ o kd A hs us ∧ Steps l ks (nextA A o kd) (nextH hs kd) (nextT us kd) (nextF fs kd)
  | _, _, _, _, _, _ => False

/-- .. without its list: what a proof goes through. -/
def WalkR (l : List Oper) (A : (Nat → Value) → Act) (hs : List (Nat × Fact)) (us : List (Nat × Nat × Fact)) (fs : List (Nat × Fact)) : Prop := ∃ ks, Steps P ops C S x0 Ψ QN l ks A hs us fs

def stA (A : (Nat → Value) → Act) : List Oper → List Kd → Nat → (Nat → Value) → Act
  | o :: l, kd :: ks, i + 1 => stA (nextA A o kd) l ks i
  | _, _, _ => A
def stH (hs : List (Nat × Fact)) : List Kd → Nat → List (Nat × Fact)
  | kd :: ks, i + 1 => stH (nextH hs kd) ks i
  | _, _ => hs
def stT (us : List (Nat × Nat × Fact)) : List Kd → Nat → List (Nat × Nat × Fact)
  | kd :: ks, i + 1 => stT (nextT us kd) ks i
  | _, _ => us
def stF (fs : List (Nat × Fact)) : List Kd → Nat → List (Nat × Fact)
  | kd :: ks, i + 1 => stF (nextF fs kd) ks i
  | _, _ => fs

variable {P ops C S x0 Ψ QN}

theorem Steps.at_ : ∀ {l : List Oper} {ks : List Kd} {A : (Nat → Value) → Act} {hs : List (Nat × Fact)} {us : List (Nat × Nat × Fact)} {fs : List (Nat × Fact)}, Steps P ops C S x0 Ψ QN l ks A hs us fs → ∀ i o, l[i]? = some o → ∃ kd, ks[i]? = some kd ∧ StepOk P ops C S x0 Ψ o kd (stA A l ks i) (stH hs ks i) (stT us ks i)
  | o :: l, kd :: ks, A, hs, us, fs, h, 0, o', ho => by
    simp at ho; subst ho
    exact ⟨kd, rfl, h.1⟩
  | o :: l, kd :: ks, A, hs, us, fs, h, i + 1, o', ho => Steps.at_ h.2 i o' (by simpa using ho)
  | [], _, _, _, _, _, _, _, _, ho => by simp at ho
  | _ :: _, [], _, _, _, _, h, _, _, _ => h.elim

theorem Steps.end_ : ∀ {l : List Oper} {ks : List Kd} {A : (Nat → Value) → Act} {hs : List (Nat × Fact)} {us : List (Nat × Nat × Fact)} {fs : List (Nat × Fact)}, Steps P ops C S x0 Ψ QN l ks A hs us fs →
    ks.length = l.length ∧ ∀ ρ w, C ρ w → (∀ p ∈ stH hs ks l.length, p.2 (ρ p.1) w) → (∀ p ∈ stF fs ks l.length, p.2 (slot (stA A l ks l.length ρ) p.1) w) → QN (stA A l ks l.length ρ) w
  | [], [], A, hs, us, fs, h => ⟨rfl, h⟩
  | o :: l, kd :: ks, A, hs, us, fs, h => by
    obtain ⟨h1, h2⟩ := Steps.end_ h.2
    exact ⟨by simp [h1], h2⟩
  | [], _ :: _, _, _, _, _, h => h.elim
  | _ :: _, [], _, _, _, _, h => h.elim

theorem stA_size : ∀ (A : (Nat → Value) → Act) (l : List Oper) (ks : List Kd) (i : Nat) (ρ : Nat → Value), (stA A l ks i ρ).tmps.size = (A ρ).tmps.size ∧ (stA A l ks i ρ).defers = (A ρ).defers
  | A, o :: l, kd :: ks, i + 1, ρ => by
    have := stA_size (nextA A o kd) l ks i ρ
    simpa [stA, nextA, size_put, defers_put] using this
  | A, [], _, _, ρ => by simp [stA]
  | A, _ :: _, [], _, ρ => by simp [stA]
  | A, _ :: _, _ :: _, 0, ρ => by simp [stA]

/-- A slot that none of the first i operations writes. -/
theorem stA_other : ∀ (A : (Nat → Value) → Act) (l : List Oper) (ks : List Kd) (i : Nat) (ρ : Nat → Value) (t : Nat), (∀ j o, j < i → l[j]? = some o → o.dst ≠ some t) → slot (stA A l ks i ρ) t = slot (A ρ) t
  | A, o :: l, kd :: ks, i + 1, ρ, t, h => by
    rw [show stA A (o :: l) (kd :: ks) (i + 1) ρ = stA (nextA A o kd) l ks i ρ from rfl,
      stA_other (nextA A o kd) l ks i ρ t (fun j o' hj ho => h (j + 1) o' (by omega) (by simpa using ho))]
    exact slot_put_ne (h 0 o (by omega) rfl)
  | A, [], _, _, ρ, t, _ => by simp [stA]
  | A, _ :: _, [], _, ρ, t, _ => by simp [stA]
  | A, _ :: _, _ :: _, 0, ρ, t, _ => by simp [stA]

/-- A slot that one of them writes, and none after it. -/
theorem stA_wrote : ∀ (A : (Nat → Value) → Act) (l : List Oper) (ks : List Kd) (i : Nat) (ρ : Nat → Value) (t j : Nat) (o : Oper) (kd : Kd), j < i → l[j]? = some o → ks[j]? = some kd → o.dst = some t → t < (A ρ).tmps.size →
    (∀ j' o', j < j' → j' < i → l[j']? = some o' → o'.dst ≠ some t) → slot (stA A l ks i ρ) t = ent kd ρ
  | A, o :: l, kd :: ks, i + 1, ρ, t, 0, o', kd', hj, ho, hk, hd, ht, h => by
    simp at ho hk; subst ho hk
    rw [show stA A (o :: l) (kd :: ks) (i + 1) ρ = stA (nextA A o kd) l ks i ρ from rfl,
      stA_other (nextA A o kd) l ks i ρ t (fun j o' hj ho => h (j + 1) o' (by omega) (by omega) (by simpa using ho))]
    show slot ((A ρ).put o.dst (ent kd ρ)) t = _
    rw [hd]; exact slot_put_same ht
  | A, o :: l, kd :: ks, i + 1, ρ, t, j + 1, o', kd', hj, ho, hk, hd, ht, h =>
    stA_wrote (nextA A o kd) l ks i ρ t j o' kd' (by omega) (by simpa using ho) (by simpa using hk) hd (by simpa [nextA, size_put] using ht) (fun j' o'' h1 h2 h3 => h (j' + 1) o'' (by omega) (by omega) (by simpa using h3))
  | A, [], _, _, ρ, t, j, o, kd, _, ho, _, _, _, _ => by simp at ho
  | A, _ :: _, [], _, ρ, t, j, o, kd, _, _, hk, _, _, _ => by simp at hk
  | A, _ :: _, _ :: _, 0, ρ, t, j, o, kd, hj, _, _, _, _, _ => by omega

theorem stH_mem : ∀ (hs : List (Nat × Fact)) (ks : List Kd) (i : Nat) (p : Nat × Fact), p ∈ stH hs ks i → p ∈ hs ∨ ∃ j, j < i ∧ ks[j]? = some (.nd p.1 p.2)
  | hs, kd :: ks, i + 1, p, h => by
    rcases stH_mem (nextH hs kd) ks i p h with h1 | ⟨j, hj, hk⟩
    · cases kd with
      | nd d Φ =>
        simp only [nextH, List.mem_cons] at h1
        rcases h1 with rfl | h1
        · exact .inr ⟨0, by omega, rfl⟩
        · exact .inl h1
      | _ => exact .inl h1
    · exact .inr ⟨j + 1, by omega, by simpa using hk⟩
  | hs, [], _, p, h => .inl (by simpa [stH] using h)
  | hs, _ :: _, 0, p, h => .inl (by simpa [stH] using h)

theorem stT_mem : ∀ (us : List (Nat × Nat × Fact)) (ks : List Kd) (i : Nat) (p : Nat × Nat × Fact), p ∈ stT us ks i → p ∈ us ∨ ∃ j, j < i ∧ ks[j]? = some (.tp p.1 p.2.1 p.2.2)
  | us, kd :: ks, i + 1, p, h => by
    rcases stT_mem (nextT us kd) ks i p h with h1 | ⟨j, hj, hk⟩
    · cases kd with
      | tp d x Φ =>
        simp only [nextT, List.mem_cons] at h1
        rcases h1 with rfl | h1
        · exact .inr ⟨0, by omega, rfl⟩
        · exact .inl h1
      | _ => exact .inl h1
    · exact .inr ⟨j + 1, by omega, by simpa using hk⟩
  | us, [], _, p, h => .inl (by simpa [stT] using h)
  | us, _ :: _, 0, p, h => .inl (by simpa [stT] using h)

theorem stF_mem : ∀ (fs : List (Nat × Fact)) (ks : List Kd) (i : Nat) (p : Nat × Fact), p ∈ stF fs ks i → p ∈ fs ∨ ∃ j, j < i ∧ ks[j]? = some (.fx p.1 p.2)
  | fs, kd :: ks, i + 1, p, h => by
    rcases stF_mem (nextF fs kd) ks i p h with h1 | ⟨j, hj, hk⟩
    · cases kd with
      | fx t Φ =>
        simp only [nextF, List.mem_cons] at h1
        rcases h1 with rfl | h1
        · exact .inr ⟨0, by omega, rfl⟩
        · exact .inl h1
      | _ => exact .inl h1
    · exact .inr ⟨j + 1, by omega, by simpa using hk⟩
  | fs, [], _, p, h => .inl (by simpa [stF] using h)
  | fs, _ :: _, 0, p, h => .inl (by simpa [stF] using h)

/-- What holds on the way: of the operations that have come up. -/
structure InvR (C : (Nat → Value) → World → Prop) (x0 : Nat) (Ψ : World → Prop) (ks : List Kd) (ops : Array Oper) (a0 : Act) (listed : Array Bool) (a : Act) (w : World) : Prop where
  len : listed.size = ops.size
  size : a.tmps.size = a0.tmps.size
  defers : a.defers = a0.defers
  cls : C (slot a) w
  psi : (∀ (i : Nat) (oi : Oper), ops[i]? = some oi → oi.dst = some x0 → listed.getD i false = false) → Ψ w
  closed : ∀ (j : Nat) (o : Oper), ops[j]? = some o → listed.getD j false = true → ∀ e ∈ o.after, Region.binds .any e = true → listed.getD e.on false = true
  other : ∀ t, (∀ (j : Nat) (o : Oper), ops[j]? = some o → listed.getD j false = true → o.dst ≠ some t) → slot a t = slot a0 t
  wrote : ∀ (j : Nat) (o : Oper) (kd : Kd), ops[j]? = some o → ks[j]? = some kd → listed.getD j false = true →
    (∀ d, o.dst = some d → slot a d = ent kd (slot a)) ∧ (∀ d Φ, kd = .nd d Φ → o.dst = some d ∧ Φ (slot a d) w) ∧ (∀ t Φ, kd = .fx t Φ → t ∈ depsOf ops o ∧ Φ (slot a t) w) ∧
    (∀ d x Φ, kd = .tp d x Φ → o.dst = some d ∧ ((∀ (i : Nat) (oi : Oper), ops[i]? = some oi → oi.dst = some x → listed.getD i false = false) → Φ (slot a d) w))

theorem slot_at {n : Nat} {a0 : Act} {listed : Array Bool} {a : Act} {w : World} {ks : List Kd} (R : RegOk n ops) (hn : a0.tmps.size = n) (hk : ks.length = ops.size) (I : InvR C x0 Ψ ks ops a0 listed a w) {k : Nat} {o : Oper} (ho : ops[k]? = some o)
    (hr : ∀ e ∈ o.after, Region.binds .any e = true → listed.getD e.on false = true) (h0 : listed.getD k false = false) {t : Nat} (ht : t ∈ o.looksAt ops) :
    slot a t = slot (stA (fun _ => a0) ops.toList ks k (slot a)) t := by
  by_cases hw : ∃ (j : Nat) (oj : Oper), ops[j]? = some oj ∧ oj.dst = some t
  · obtain ⟨j, oj, hoj, hd⟩ := hw
    rcases R.waits k o j oj t ho hoj hd ht with ⟨hjk, e, he, hb, rfl⟩ | ⟨hjk, e, he, hb, hek⟩
    · have hl := hr e he hb
      have hjs : e.on < ks.length := by rw [hk]; exact (Array.getElem?_eq_some_iff.1 hoj).1
      have hkd : ks[e.on]? = some ks[e.on] := List.getElem?_eq_getElem hjs
      rw [stA_wrote (fun _ => a0) ops.toList ks k (slot a) t e.on oj _ hjk (by simpa using hoj) hkd hd (by rw [hn]; exact R.inb _ _ _ hoj hd)
        (fun j' o' h1 h2 h3 h4 => by
          have := R.once e.on oj j' o' t hoj (by simpa using h3) h4 hd
          omega)]
      exact (I.wrote e.on oj _ hoj hkd hl).1 t hd
    · rw [stA_other (fun _ => a0) ops.toList ks k (slot a) t (fun j' oj' hj' hoj' hd' => by
        have := R.once j oj j' oj' t hoj (by simpa using hoj') hd' hd
        omega)]
      refine I.other t (fun j' oj' hoj' hl hd' => ?_)
      have hjj := R.once j oj j' oj' t hoj hoj' hd' hd
      subst hjj
      have := I.closed j' oj hoj hl e he hb
      rw [hek, h0] at this; cases this
  · rw [stA_other (fun _ => a0) ops.toList ks k (slot a) t (fun j oj _ hoj hd => hw ⟨j, oj, by simpa using hoj, hd⟩)]
    exact I.other t (fun j oj hoj _ hd => hw ⟨j, oj, hoj, hd⟩)

theorem walk_sound {n : Nat} {a0 : Act} {ks : List Kd} {Q : Exit → Act → World → Prop} (R : RegOk n ops) (hn : a0.tmps.size = n) (hS : ∀ σ o w, S σ o w w) (hPsi : ∀ (o' : Oper) σ w w', o'.dst ≠ some x0 → Ψ w → C σ w → S σ o' w w' → Ψ w') (hSt : Steps P ops C S x0 Ψ (Q .normal) ops.toList ks (fun _ => a0) [] [] []) :
    ∀ (fuel : Nat) (listed : Array Bool) (a : Act) (w : World), InvR C x0 Ψ ks ops a0 listed a w → listed.toList.countP (fun b => !b) ≤ fuel → wpAny P .any ops Q fuel listed a w := by
  obtain ⟨hk, hend⟩ := hSt.end_
  simp only [Array.length_toList] at hk hend
  -- all have come up: the state is the walk's last one
  have fin : ∀ (listed : Array Bool) (a : Act) (w : World), InvR C x0 Ψ ks ops a0 listed a w → Region.ready .any ops listed = [] → Q .normal a w := by
    intro listed a w I hr
    have hall : ∀ k, k < ops.size → listed.getD k false = true := by
      intro k
      induction k using Nat.strongRecOn with
      | _ k ih =>
        intro hlt
        have hks : k < listed.size := by rw [I.len]; exact hlt
        cases hb : listed.getD k false with
        | true => rfl
        | false =>
          exfalso
          have hk2 : k ∈ Region.ready .any ops listed := by
            refine mem_ready.2 ⟨by simpa [hks] using hb, ops[k], Array.getElem?_eq_getElem hlt, fun e he hbi => ?_⟩
            have hlt2 := R.back k _ (Array.getElem?_eq_getElem hlt) e he hbi
            exact ih e.on hlt2 (by omega)
          rw [hr] at hk2; cases hk2
    have ha : a = stA (fun _ => a0) ops.toList ks ops.size (slot a) := by
      have hsz := stA_size (fun _ => a0) ops.toList ks ops.size (slot a)
      have hslot : ∀ t, slot a t = slot (stA (fun _ => a0) ops.toList ks ops.size (slot a)) t := by
        intro t
        by_cases hw : ∃ (j : Nat) (oj : Oper), ops[j]? = some oj ∧ oj.dst = some t
        · obtain ⟨j, oj, hoj, hd⟩ := hw
          have hj := (Array.getElem?_eq_some_iff.1 hoj).1
          have hkd : ks[j]? = some ks[j] := List.getElem?_eq_getElem (by omega)
          rw [stA_wrote (fun _ => a0) ops.toList ks ops.size (slot a) t j oj _ hj (by simpa using hoj) hkd hd (by rw [hn]; exact R.inb _ _ _ hoj hd)
            (fun j' o' h1 h2 h3 h4 => by
              have := R.once j oj j' o' t hoj (by simpa using h3) h4 hd
              omega)]
          exact (I.wrote j oj _ hoj hkd (hall j hj)).1 t hd
        · rw [stA_other (fun _ => a0) ops.toList ks ops.size (slot a) t (fun j oj _ hoj hd => hw ⟨j, oj, by simpa using hoj, hd⟩)]
          exact I.other t (fun j oj hoj _ hd => hw ⟨j, oj, hoj, hd⟩)
      obtain ⟨h1, h2⟩ := hsz
      have hd := I.defers
      have hs := I.size
      generalize stA (fun _ => a0) ops.toList ks ops.size (slot a) = b at *
      obtain ⟨ta, da⟩ := a
      obtain ⟨tb, db⟩ := b
      simp only [Act.mk.injEq] at *
      refine ⟨?_, by rw [hd, h2]⟩
      apply Array.ext
      · omega
      · intro i hi1 hi2
        have := hslot i
        simp only [slot] at this
        simpa [hi1, hi2] using this
    rw [ha]
    refine hend _ w I.cls (fun p hp => ?_) (fun p hp => ?_)
    · rcases stH_mem [] ks ops.size p hp with h1 | ⟨j, hj, hkd⟩
      · cases h1
      · exact ((I.wrote j _ _ (Array.getElem?_eq_getElem hj) hkd (hall j hj)).2.1 p.1 p.2 rfl).2
    · rcases stF_mem [] ks ops.size p hp with h1 | ⟨j, hj, hkd⟩
      · cases h1
      · rw [← ha]
        exact ((I.wrote j _ _ (Array.getElem?_eq_getElem hj) hkd (hall j hj)).2.2.1 p.1 p.2 rfl).2
  intro fuel
  induction fuel with
  | zero =>
    intro listed a w I hc
    have hr : Region.ready .any ops listed = [] := by
      rw [List.eq_nil_iff_forall_not_mem]
      intro k hk2
      obtain ⟨h0, o, ho, _⟩ := mem_ready.1 hk2
      have hks : k < listed.size := by rw [I.len]; exact (Array.getElem?_eq_some_iff.1 ho).1
      have hm : listed[k] ∈ listed.toList := by simp
      have := List.countP_eq_zero.1 (by omega : listed.toList.countP (fun b => !b) = 0) _ hm
      simp [hks] at h0
      simp [h0] at this
    exact ⟨hr, fin listed a w I hr⟩
  | succ fuel ih =>
    intro listed a w I hc
    refine ⟨fin listed a w I, fun k hk2 => ?_⟩
    obtain ⟨h0, o, ho, hr⟩ := mem_ready.1 hk2
    have hks : k < listed.size := by rw [I.len]; exact (Array.getElem?_eq_some_iff.1 ho).1
    obtain ⟨kd, hkd, hst⟩ := hSt.at_ k o (by simpa using ho)
    have h0k : listed.getD k false = false := by
      simp only [Array.getD_eq_getD_getElem?, Array.getElem?_eq_getElem hks, Option.getD_some] at h0 ⊢; exact h0
    have hsl : ∀ t, t ∈ o.looksAt ops → slot a t = slot (stA (fun _ => a0) ops.toList ks k (slot a)) t := fun t ht => slot_at R hn hk I ho hr h0k ht
    have hsz := stA_size (fun _ => a0) ops.toList ks k (slot a)
    have hev : execOp a.eval o = execOp (stA (fun _ => a0) ops.toList ks k (slot a)).eval o :=
      execOp_congr o (R.sel k o ho) fun x hx => by
        cases x with
        | tmp t => exact hsl t (List.mem_append_left _ (List.mem_filterMap.2 ⟨.tmp t, by simpa using hx, rfl⟩))
        | _ => rfl
    have hwn : Region.wanted o (yielded ops a.tmps) = Region.wanted o (yielded ops (stA (fun _ => a0) ops.toList ks k (slot a)).tmps) := by
      unfold Region.wanted
      cases hg : o.guard with
      | none => rfl
      | some gw =>
        obtain ⟨g, want⟩ := gw
        have : yielded ops a.tmps g = yielded ops (stA (fun _ => a0) ops.toList ks k (slot a)).tmps g := by
          unfold yielded
          cases ht : (ops[g]?).bind (·.dst) with
          | none => rfl
          | some t =>
            have hm : t ∈ o.looksAt ops := by simp [Oper.looksAt, hg, ht]
            have hs := hsl t hm
            have hsz' := I.size
            have e1 : a.tmps.size = (stA (fun _ => a0) ops.toList ks k (slot a)).tmps.size := by rw [hsz.1, hsz']
            simp only [slot] at hs
            have : a.tmps[t]? = (stA (fun _ => a0) ops.toList ks k (slot a)).tmps[t]? := by
              rcases Nat.lt_or_ge t a.tmps.size with h | h
              · have h2 : t < (stA (fun _ => a0) ops.toList ks k (slot a)).tmps.size := by rw [← e1]; exact h
                simpa [h, h2] using hs
              · rw [Array.getElem?_eq_none h, Array.getElem?_eq_none (by omega)]
            simp [this]
        simp only [this]
    have hcount : (listed.setIfInBounds k true).toList.countP (fun b => !b) ≤ fuel := by
      have hf : listed.toList[k]? = some false := by simp [hks] at h0; simp [hks, h0]
      have := countP_set hf
      rw [Array.toList_setIfInBounds]
      omega
    have hset : ∀ j, (listed.setIfInBounds k true).getD j false = true ↔ j = k ∨ listed.getD j false = true := by
      intro j
      by_cases hjk : j = k
      · subst hjk; simp [hks]
      · rw [getD_set_ne false (Ne.symm hjk)]; simp [hjk]
    -- an operation that is done waits for nothing that is not
    have notdone : ∀ (j : Nat) (oj : Oper), ops[j]? = some oj → listed.getD j false = true → ∀ u ∈ depsOf ops oj, o.dst ≠ some u := by
      intro j oj hoj hlj u hu hd'
      obtain ⟨e, he, hb, od, hod, hdu⟩ := mem_deps.1 hu
      have hek := R.once k o e.on od u ho hod hdu hd'
      have := I.closed j oj hoj hlj e he hb
      rw [hek, h0k] at this; cases this
    -- the state behind the operation
    have next : ∀ v w', S (slot a) o w w' → C (slot (a.put o.dst v)) w' → v = ent kd (slot (a.put o.dst v)) → (∀ d Φ, kd = .nd d Φ → o.dst = some d ∧ Φ v w') → (∀ t Φ, kd = .fx t Φ → t ∈ depsOf ops o ∧ Φ (slot (a.put o.dst v) t) w') → (∀ d x Φ, kd = .tp d x Φ → o.dst = some d ∧ Φ v w') →
        InvR C x0 Ψ ks ops a0 (listed.setIfInBounds k true) (a.put o.dst v) w' := by
      intro v w' hS' hC' hv hnd hfx htp
      have hin : ∀ d, o.dst = some d → d < a.tmps.size := fun d hd => by rw [I.size, hn]; exact R.inb k o d ho hd
      refine ⟨by simp [I.len], by rw [size_put, I.size], by rw [defers_put, I.defers], hC', fun hno => ?_, fun j oj hoj hlj e he hb => ?_, fun t ht => ?_, fun j oj kj hoj hkj hlj => ?_⟩
      · have hnx : o.dst ≠ some x0 := fun hx => by
          have := hno k o ho hx
          rw [(hset k).2 (.inl rfl)] at this; cases this
        refine hPsi o _ _ _ hnx (I.psi fun i oi hoi hx => ?_) I.cls hS'
        have := hno i oi hoi hx
        cases hb : listed.getD i false with
        | false => rfl
        | true => rw [(hset i).2 (.inr hb)] at this; cases this
      · rcases (hset j).1 hlj with rfl | hlk
        · rw [ho] at hoj; cases hoj
          exact (hset _).2 (.inr (hr e he hb))
        · exact (hset _).2 (.inr (I.closed j oj hoj hlk e he hb))
      · rw [slot_put_ne (ht k o ho ((hset k).2 (.inl rfl)))]
        exact I.other t (fun j oj hoj hlj => ht j oj hoj ((hset j).2 (.inr hlj)))
      · rcases (hset j).1 hlj with rfl | hlk
        · rw [ho] at hoj; cases hoj
          rw [hkd] at hkj; cases hkj
          refine ⟨fun d hd => ?_, fun d Φ hkn => ?_, hfx, fun d x Φ hkn => ?_⟩
          · have : slot (a.put o.dst v) d = v := by rw [hd]; exact slot_put_same (hin d hd)
            rw [this]; exact hv
          · obtain ⟨hd, hΦ⟩ := hnd d Φ hkn
            refine ⟨hd, ?_⟩
            have : slot (a.put o.dst v) d = v := by rw [hd]; exact slot_put_same (hin d hd)
            rw [this]; exact hΦ
          · obtain ⟨hd, hΦ⟩ := htp d x Φ hkn
            refine ⟨hd, fun _ => ?_⟩
            have : slot (a.put o.dst v) d = v := by rw [hd]; exact slot_put_same (hin d hd)
            rw [this]; exact hΦ
        · have hjk : j ≠ k := fun e => by rw [e, h0k] at hlk; cases hlk
          obtain ⟨h1, h2, h3, h4⟩ := I.wrote j oj kj hoj hkj hlk
          have hne : ∀ d, oj.dst = some d → o.dst ≠ some d := fun d hd hd' => hjk (R.once k o j oj d ho hoj hd hd')
          obtain ⟨kd', hkd', hst'⟩ := hSt.at_ j oj (by simpa using hoj)
          rw [hkj] at hkd'; cases hkd'
          refine ⟨fun d hd => ?_, fun d Φ hkn => ?_, fun t Φ hkn => ?_, fun d x Φ hkn => ?_⟩
          · rw [slot_put_ne (hne d hd), h1 d hd]
            cases kj with
            | un => rfl
            | det c => rfl
            | fx t Φ => rfl
            | nd d' Φ =>
              obtain ⟨hd', _⟩ := h2 d' Φ rfl
              exact (slot_put_ne (hne d' hd')).symm
            | tp d' x Φ =>
              obtain ⟨hd', _⟩ := h4 d' x Φ rfl
              exact (slot_put_ne (hne d' hd')).symm
          · obtain ⟨hd, hΦ⟩ := h2 d Φ hkn
            subst hkn
            refine ⟨hd, ?_⟩
            rw [slot_put_ne (hne d hd)]
            exact hst'.2.2.2 o (slot a) _ _ (hne d hd) (notdone j oj hoj hlk) hΦ I.cls hS'
          · obtain ⟨ht, hΦ⟩ := h3 t Φ hkn
            subst hkn
            refine ⟨ht, ?_⟩
            rw [slot_put_ne (notdone j oj hoj hlk t ht)]
            obtain ⟨Q, hq, hone, hkeep⟩ := hst'.2.2.2
            exact hkeep o (slot a) _ _ (by
              cases hQ : Q o with
              | false => rfl
              | true => exact absurd (hone j k oj o hoj ho hq hQ) hjk) hΦ I.cls hS'
          · obtain ⟨hd, hΦ⟩ := h4 d x Φ hkn
            subst hkn
            refine ⟨hd, fun hno => ?_⟩
            rw [slot_put_ne (hne d hd)]
            have hnx : o.dst ≠ some x := fun hx => by
              have := hno k o ho hx
              rw [(hset k).2 (.inl rfl)] at this; cases this
            refine hst'.2.2.2 o (slot a) _ _ (hne d hd) hnx (hΦ fun i oi hoi hx => ?_) I.cls hS'
            have := hno i oi hoi hx
            cases hb : listed.getD i false with
            | false => rfl
            | true => rw [(hset i).2 (.inr hb)] at this; cases this
    have hfacts : ∀ ts : List Nat, o.looksAt ops = ts → ∀ p ∈ stH [] ks k, p.1 ∈ ts → p.2 (slot a p.1) w := by
      intro ts hts p hp hpt
      rcases stH_mem [] ks k p hp with h1 | ⟨j, hj, hkj⟩
      · cases h1
      · have hjl : j < ops.size := by have := (Array.getElem?_eq_some_iff.1 ho).1; omega
        have hoj := Array.getElem?_eq_getElem hjl
        obtain ⟨kd', hkd', hst'⟩ := hSt.at_ j ops[j] (by rw [Array.getElem?_toList]; exact hoj)
        rw [hkj] at hkd'; cases hkd'
        have hd := hst'.2.2.1
        obtain ⟨e, he, hb, hej⟩ : ∃ e ∈ o.after, Region.binds .any e = true ∧ e.on = j := by
          rcases R.waits k o j _ p.1 ho hoj hd (by rw [hts]; exact hpt) with ⟨_, h⟩ | ⟨h, _⟩
          · exact h
          · omega
        have hl := hr e he hb
        rw [hej] at hl
        exact ((I.wrote j _ _ hoj hkj hl).2.1 p.1 p.2 rfl).2
    have htemp : ∀ ts : List Nat, o.looksAt ops = ts → ∀ p ∈ stT [] ks k, p.1 ∈ ts → o.dst = some p.2.1 → p.2.2 (slot a p.1) w := by
      intro ts hts p hp hpt hpx
      rcases stT_mem [] ks k p hp with h1 | ⟨j, hj, hkj⟩
      · cases h1
      · have hjl : j < ops.size := by have := (Array.getElem?_eq_some_iff.1 ho).1; omega
        have hoj := Array.getElem?_eq_getElem hjl
        obtain ⟨kd', hkd', hst'⟩ := hSt.at_ j ops[j] (by rw [Array.getElem?_toList]; exact hoj)
        rw [hkj] at hkd'; cases hkd'
        have hd := hst'.2.2.1
        obtain ⟨e, he, hb, hej⟩ : ∃ e ∈ o.after, Region.binds .any e = true ∧ e.on = j := by
          rcases R.waits k o j _ p.1 ho hoj hd (by rw [hts]; exact hpt) with ⟨_, h⟩ | ⟨h, _⟩
          · exact h
          · omega
        have hl := hr e he hb
        rw [hej] at hl
        refine ((I.wrote j _ _ hoj hkj hl).2.2.2 p.1 p.2.1 p.2.2 rfl).2 fun i oi hoi hx => ?_
        have : i = k := R.once k o i oi p.2.1 ho hoi hx hpx
        rw [this]; exact h0k
    have hpsi : o.dst = some x0 → Ψ w := fun hx => I.psi fun i oi hoi hx' => by
      have : i = k := R.once k o i oi x0 ho hoi hx' hx
      rw [this]; exact h0k
    have hinb : ∀ t, o.dst = some t → t < a.tmps.size := fun d hd => by rw [I.size, hn]; exact R.inb k o d ho hd
    unfold wpOp
    simp only [ho]
    cases kd with
    | un =>
      have : Region.wanted o (yielded ops a.tmps) = false := by rw [hwn]; exact hst.1 _
      simp only [this, Bool.false_eq_true, if_false]
      exact ih _ _ _ (next undef w (hS _ o w) (by rw [slot_upd hinb]; exact hst.2 _ _ I.cls) rfl (fun d Φ h => by cases h) (fun t Φ h => by cases h) (fun d x Φ h => by cases h)) hcount
    | det c =>
      obtain ⟨hw, ts, hts, hg⟩ := hst
      have : Region.wanted o (yielded ops a.tmps) = true := by rw [hwn]; exact hw _
      simp only [this, if_true]
      refine .inl ((hg (slot a) w I.cls (hfacts ts hts) ⟨htemp ts hts, hpsi⟩).wp hev fun v w' ⟨hv, hS', hC'⟩ => ?_)
      exact ih _ _ _ (next v w' hS' (by rw [slot_upd hinb]; exact hC') hv (fun d Φ h => by cases h) (fun t Φ h => by cases h) (fun d x Φ h => by cases h)) hcount
    | nd d Φ =>
      obtain ⟨hw, ⟨ts, hts, hg⟩, hd, _⟩ := hst
      have : Region.wanted o (yielded ops a.tmps) = true := by rw [hwn]; exact hw _
      simp only [this, if_true]
      refine .inl ((hg (slot a) w I.cls (hfacts ts hts) ⟨htemp ts hts, hpsi⟩).wp hev fun v w' ⟨hv, hS', hC'⟩ => ?_)
      refine ih _ _ _ (next v w' hS' (by rw [slot_upd hinb]; exact hC') ?_ (fun d' Φ' h => by cases h; exact ⟨hd, hv⟩) (fun t Φ h => by cases h) (fun d x Φ h => by cases h)) hcount
      show v = slot (a.put o.dst v) d
      rw [hd]
      exact (slot_put_same (by rw [I.size, hn]; exact R.inb k o d ho hd)).symm
    | tp d x Φ =>
      obtain ⟨hw, ⟨ts, hts, hg⟩, hd, _⟩ := hst
      have : Region.wanted o (yielded ops a.tmps) = true := by rw [hwn]; exact hw _
      simp only [this, if_true]
      refine .inl ((hg (slot a) w I.cls (hfacts ts hts) ⟨htemp ts hts, hpsi⟩).wp hev fun v w' ⟨hv, hS', hC'⟩ => ?_)
      refine ih _ _ _ (next v w' hS' (by rw [slot_upd hinb]; exact hC') ?_ (fun d' Φ' h => by cases h) (fun t Φ h => by cases h) (fun d' x' Φ' h => by cases h; exact ⟨hd, hv⟩)) hcount
      show v = slot (a.put o.dst v) d
      rw [hd]
      exact (slot_put_same (by rw [I.size, hn]; exact R.inb k o d ho hd)).symm
    | fx t Φ =>
      obtain ⟨hw, ⟨ts, hts, ht, htd, hg⟩, hd, _⟩ := hst
      have : Region.wanted o (yielded ops a.tmps) = true := by rw [hwn]; exact hw _
      simp only [this, if_true]
      refine .inl ((hg (slot a) w I.cls (hfacts ts hts) ⟨htemp ts hts, hpsi⟩).wp hev fun v w' ⟨hv, hS', hC'⟩ => ?_)
      have e : a.put o.dst v = a := by rw [hd]; rfl
      have e2 : a.put o.dst undef = a := by rw [hd]; rfl
      rw [e]
      have ht' : t ∈ o.looksAt ops := by rw [hts]; exact ht
      have hn := next undef w' hS' (by rw [e2]; exact hC') rfl (fun d' Φ' h => by cases h) (fun t' Φ' h => by
        cases h
        rw [e2]
        refine ⟨htd, ?_⟩
        rw [hsl t ht']
        exact hv) (fun d x Φ h => by cases h)
      rw [e2] at hn
      exact ih _ _ _ hn hcount

/-- A REGION THAT DRAWS ITS ORDER, WALKED ONCE; Ψ holds till the operation that writes slot x0. -/
theorem wp_walkT {id : Nat} {Q : Exit → Act → World → Prop} {a0 : Act} {w0 : World} (n : Nat) (x0 : Nat) (Ψ : World → Prop) (hm : P.follows .mixedOrders = true) (hB : regB ops n = true) (hn : a0.tmps.size = n) (hS : ∀ σ o w, S σ o w w) (hC : C (slot a0) w0.drew)
    (hPsi : ∀ (o' : Oper) σ w w', o'.dst ≠ some x0 → Ψ w → C σ w → S σ o' w w' → Ψ w') (h0 : Ψ w0.drew)
    (h : WalkR P ops C S x0 Ψ (Q .normal) ops.toList (fun _ => a0) [] [] []) : (Code.region id ops true).wp P Q a0 w0 := by
  obtain ⟨ks, hSt⟩ := h
  refine wp_region_any hm (walk_sound (regB_ok hB) hn hS hPsi hSt ops.size (Array.replicate ops.size false) a0 _ ?_ ?_)
  · exact ⟨by simp, rfl, rfl, hC, fun _ => h0, fun j o ho hl => by simp [Array.getElem?_replicate] at hl; split at hl <;> simp at hl, fun _ _ => rfl, fun j o kd ho hk hl => by simp [Array.getElem?_replicate] at hl; split at hl <;> simp at hl⟩
  · simp [List.countP_replicate]

theorem wp_walk {id : Nat} {Q : Exit → Act → World → Prop} {a0 : Act} {w0 : World} (n : Nat) (hm : P.follows .mixedOrders = true) (hB : regB ops n = true) (hn : a0.tmps.size = n) (hS : ∀ σ o w, S σ o w w) (hC : C (slot a0) w0.drew)
    (h : WalkR P ops C S 0 (fun _ => True) (Q .normal) ops.toList (fun _ => a0) [] [] []) : (Code.region id ops true).wp P Q a0 w0 :=
  wp_walkT n 0 (fun _ => True) hm hB hn hS hC (fun _ _ _ _ _ _ _ _ => trivial) trivial h

/-! ### The moves -/
variable {fs : List (Nat × Fact)} {us : List (Nat × Nat × Fact)}
theorem WalkR.nil {A : (Nat → Value) → Act} {hs : List (Nat × Fact)} (h : ∀ ρ w, C ρ w → (∀ p ∈ hs, p.2 (ρ p.1) w) → (∀ p ∈ fs, p.2 (slot (A ρ) p.1) w) → QN (A ρ) w) : WalkR P ops C S x0 Ψ QN [] A hs us fs := ⟨[], h⟩
theorem WalkR.un {o : Oper} {l : List Oper} {A : (Nat → Value) → Act} {hs : List (Nat × Fact)} (hw : ∀ ρ, Region.wanted o (yielded ops (A ρ).tmps) = false) (hu : ∀ ρ w, C ρ w → C (upd ρ o.dst undef) w) (h : WalkR P ops C S x0 Ψ QN l (fun ρ => (A ρ).put o.dst undef) hs us fs) : WalkR P ops C S x0 Ψ QN (o :: l) A hs us fs :=
  h.elim fun ks hk => ⟨.un :: ks, ⟨hw, hu⟩, hk⟩
theorem WalkR.det {o : Oper} {l : List Oper} {A : (Nat → Value) → Act} {hs : List (Nat × Fact)} {c : Value} {ts : List Nat} (hw : ∀ ρ, Region.wanted o (yielded ops (A ρ).tmps) = true) (hts : o.looksAt ops = ts)
    (hg : ∀ ρ w, C ρ w → (∀ p ∈ hs, p.1 ∈ ts → p.2 (ρ p.1) w) → ((∀ p ∈ us, p.1 ∈ ts → o.dst = some p.2.1 → p.2.2 (ρ p.1) w) ∧ (o.dst = some x0 → Ψ w)) → gives P o (A ρ) w (fun v w' => v = c ∧ S ρ o w w' ∧ C (upd ρ o.dst v) w')) (h : WalkR P ops C S x0 Ψ QN l (fun ρ => (A ρ).put o.dst c) hs us fs) : WalkR P ops C S x0 Ψ QN (o :: l) A hs us fs :=
  h.elim fun ks hk => ⟨.det c :: ks, ⟨hw, ts, hts, hg⟩, hk⟩
theorem WalkR.nd {o : Oper} {l : List Oper} {A : (Nat → Value) → Act} {hs : List (Nat × Fact)} {d : Nat} (Φ : Fact) {ts : List Nat} (hw : ∀ ρ, Region.wanted o (yielded ops (A ρ).tmps) = true) (hts : o.looksAt ops = ts) (hd : o.dst = some d) (hst : ∀ (o' : Oper) σ w w', o'.dst ≠ some d → (∀ u ∈ depsOf ops o, o'.dst ≠ some u) → Φ (σ d) w → C σ w → S σ o' w w' → Φ (σ d) w')
    (hg : ∀ ρ w, C ρ w → (∀ p ∈ hs, p.1 ∈ ts → p.2 (ρ p.1) w) → ((∀ p ∈ us, p.1 ∈ ts → o.dst = some p.2.1 → p.2.2 (ρ p.1) w) ∧ (o.dst = some x0 → Ψ w)) → gives P o (A ρ) w (fun v w' => Φ v w' ∧ S ρ o w w' ∧ C (upd ρ o.dst v) w')) (h : WalkR P ops C S x0 Ψ QN l (fun ρ => (A ρ).put o.dst (ρ d)) ((d, Φ) :: hs) us fs) : WalkR P ops C S x0 Ψ QN (o :: l) A hs us fs :=
  h.elim fun ks hk => ⟨.nd d Φ :: ks, ⟨hw, ⟨ts, hts, hg⟩, hd, hst⟩, hk⟩
theorem WalkR.tp {o : Oper} {l : List Oper} {A : (Nat → Value) → Act} {hs : List (Nat × Fact)} {d : Nat} (x : Nat) (Φ : Fact) {ts : List Nat} (hw : ∀ ρ, Region.wanted o (yielded ops (A ρ).tmps) = true) (hts : o.looksAt ops = ts) (hd : o.dst = some d) (hst : ∀ (o' : Oper) σ w w', o'.dst ≠ some d → o'.dst ≠ some x → Φ (σ d) w → C σ w → S σ o' w w' → Φ (σ d) w')
    (hg : ∀ ρ w, C ρ w → (∀ p ∈ hs, p.1 ∈ ts → p.2 (ρ p.1) w) → ((∀ p ∈ us, p.1 ∈ ts → o.dst = some p.2.1 → p.2.2 (ρ p.1) w) ∧ (o.dst = some x0 → Ψ w)) → gives P o (A ρ) w (fun v w' => Φ v w' ∧ S ρ o w w' ∧ C (upd ρ o.dst v) w')) (h : WalkR P ops C S x0 Ψ QN l (fun ρ => (A ρ).put o.dst (ρ d)) hs ((d, x, Φ) :: us) fs) : WalkR P ops C S x0 Ψ QN (o :: l) A hs us fs :=
  h.elim fun ks hk => ⟨.tp d x Φ :: ks, ⟨hw, ⟨ts, hts, hg⟩, hd, hst⟩, hk⟩
theorem WalkR.fx {o : Oper} {l : List Oper} {A : (Nat → Value) → Act} {hs : List (Nat × Fact)} (t : Nat) (Φ : Fact) {ts : List Nat} (hw : ∀ ρ, Region.wanted o (yielded ops (A ρ).tmps) = true) (hts : o.looksAt ops = ts) (ht : t ∈ ts) (htd : t ∈ depsOf ops o) (hd : o.dst = none) (Q : Oper → Bool) (hQ : Q o = true) (hc : ops.toList.countP Q ≤ 1) (hst : ∀ (o' : Oper) σ w w', Q o' = false → Φ (σ t) w → C σ w → S σ o' w w' → Φ (σ t) w')
    (hg : ∀ ρ w, C ρ w → (∀ p ∈ hs, p.1 ∈ ts → p.2 (ρ p.1) w) → ((∀ p ∈ us, p.1 ∈ ts → o.dst = some p.2.1 → p.2.2 (ρ p.1) w) ∧ (o.dst = some x0 → Ψ w)) → gives P o (A ρ) w (fun _ w' => Φ (slot (A ρ) t) w' ∧ S ρ o w w' ∧ C ρ w')) (h : WalkR P ops C S x0 Ψ QN l A hs us ((t, Φ) :: fs)) : WalkR P ops C S x0 Ψ QN (o :: l) A hs us fs :=
  h.elim fun ks hk => ⟨.fx t Φ :: ks, ⟨hw, ⟨ts, hts, ht, htd, hg⟩, hd, Q, hQ, fun k k' o' o'' h1 h2 => count_one hc k k' o' o'' (by simpa using h1) (by simpa using h2), hst⟩, by rw [show nextA A o (.fx t Φ) = A from funext fun ρ => by simp [nextA, hd, Act.put]]; exact hk⟩

end

end R4
end Go.Proofs.YtanjolmelbipoaaDoor
