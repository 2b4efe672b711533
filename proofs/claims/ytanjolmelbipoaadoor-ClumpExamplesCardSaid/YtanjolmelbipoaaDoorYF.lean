/-
  Spans and habits; a law of regions that draw their order; ripe and later.
-/
import Derived.Test.YtanjolmelbipoaaDoorYB
import Derived.Deep.RegionHeld3
import Derived.Deep.DrawnRows
import Derived.Outline
import Derived.Orders
import Derived.KernelRfl
import Derived.Tactics
import Derived.Tactics2
import Derived.Test.YtanjolmelbipoaaDoorYA
import Derived.RegionTactic
import Derived.ChangeAlike
namespace Go.Proofs.YtanjolmelbipoaaDoor
open Go.RowKit

/-- All numbers are in a span. -/
def allIn (lo hi : Int) (l : List Int) : Bool := l.all fun x => inR x lo hi
theorem allIn_at {lo hi : Int} {l : List Int} (h : ∀ k, k < l.length → inR (l[k]?.getD 0) lo hi = true) : allIn lo hi l = true := by
  simp only [allIn, List.all_eq_true]
  intro x hx
  obtain ⟨k, hk, rfl⟩ := List.mem_iff_getElem.1 hx
  simpa [hk] using h k hk
theorem allIn_not {lo hi : Int} {l : List Int} {k : Nat} (hk : k < l.length) (h : inR (l[k]?.getD 0) lo hi = false) : allIn lo hi l = false := by
  simp only [allIn, List.all_eq_false]
  exact ⟨l[k], List.getElem_mem hk, by simpa [hk] using h⟩

set_option maxHeartbeats 1000000 in
theorem within_any (lo hi : Int) (A : Option Addr) (cap : Nat) (zs : List Int) (B : Nat) (w : World) (hB : B ≤ w.heap.size) (hI : Ints w B A zs) (hl : zs.length ≤ 9223372036854775807) :
    Calls Tryd.prog 31 #[.agg #[.int .i64 lo, .int .i64 hi], .slice A zs.length cap] w fun e w' => e = .returned (.bool (allIn lo hi zs)) ∧ Below w.heap.size w w' := by
  have H := Lib.hid hI
  clear hI
  go_enter Tryd.func31, Tryd.ntmps31
  go_wp2
  go_loop [9] (fun i => ∃ k : Nat, k ≤ zs.length ∧ i = .int .i64 k ∧ Hid (∀ j, j < k → inR (zs[j]?.getD 0) lo hi = true)) (fun i => zs.length - (intOf i).toNat)
  case atStart => exact ⟨0, Nat.zero_le _, rfl, fun j hj => absurd hj (by omega)⟩
  case round =>
    obtain ⟨k, hk, rfl, hall⟩ := hrel
    by_cases hlt : k < zs.length
    · obtain ⟨b, off, hA, hbB, hc⟩ := H.out (by omega)
      subst hA
      have hcell : (w.alloc (.cells #[.int .i64 lo, .int .i64 hi] 29)).cell? ⟨b, off + k, none⟩ = _ := (World.cell?_alloc_lt _ _ _ (by simp; omega)).trans (hc k hlt)
      have hno := fun h => allIn_not (lo := lo) (hi := hi) hlt h
      clear hc
      generalize hx : zs[k]?.getD 0 = x at hcell hno
      have Hx := Lib.hid hx
      have Hno := Lib.hid hno
      clear hx hno
      by_cases h1 : x < lo
      · have hf := Lib.hid (Hno.out (by rw [inR_not]; omega))
        go_wp2
        go_ret
        exact ⟨by rw [hf.out]; rfl, (Below.refl _ _).alloc (Nat.le_refl _) _⟩
      · by_cases h2 : hi < x
        · have hf := Lib.hid (Hno.out (by rw [inR_not]; omega))
          go_wp2
          go_ret
          exact ⟨by rw [hf.out]; rfl, (Below.refl _ _).alloc (Nat.le_refl _) _⟩
        · have hin := Lib.hid (show inR x lo hi = true from inR_iff.2 (by omega))
          go_wp2
          go_round
          case rel => exact ⟨k + 1, by omega, by go_num, fun j hj => by
            rcases Nat.lt_or_ge j k with h | h
            · exact hall.out j h
            · obtain rfl : j = k := by omega
              rw [Hx.out]; exact hin.out⟩
          case measure => simp [intOf] <;> omega
    · obtain rfl : k = zs.length := by omega
      have hf := Lib.hid (allIn_at hall.out)
      clear hall
      go_wp2
      go_ret
      exact ⟨by rw [hf.out]; rfl, (Below.refl _ _).alloc (Nat.le_refl _) _⟩

set_option maxHeartbeats 400000 in
theorem upTo_any (m : Int) (w : World) :
    Calls Tryd.prog 32 #[.int .i64 m] w fun e w' => e = .returned (.agg #[.int .i64 0, .int .i64 m]) ∧ Below w.heap.size w w' := by
  go_enter Tryd.func32, Tryd.ntmps32
  go_wp2
  refine bodyPost_ret (v := .agg #[.int .i64 0, .int .i64 m]) (by simp [results, Tryd.results32, go_sem]) rfl ⟨rfl, ?_⟩
  exact (Below.refl _ _).alloc (Nat.le_refl _) _

/-- A span is valid. -/
def okSpan (lo hi m : Int) : Bool := decide (lo ≤ hi) && allIn 0 m [lo, hi]

theorem ints_lit {w : World} {g : Nat} {cs : Array Value} (zs : List Int) (h : w.heap[g]? = some (.cells cs 3 (0, 0))) (he : cs = (ints zs).toArray) : Ints w w.heap.size (some ⟨g, 0, none⟩) zs := fun _ =>
  ⟨g, 0, rfl, (Array.getElem?_eq_some_iff.1 h).1, fun k hk => by subst he; rw [Nat.zero_add]; exact (cell_of_row w g k _ _ _ h).trans (ints_at zs k hk)⟩

theorem drew_size' (w : World) : w.drew.heap.size = w.heap.size := rfl

set_option maxHeartbeats 2000000 in
theorem validSpan_any (lo hi m : Int) (w : World) :
    Calls Tryd.prog 30 #[.agg #[.int .i64 lo, .int .i64 hi], .int .i64 m] w fun e w' => e = .returned (.bool (okSpan lo hi m)) ∧ Below w.heap.size w w' := by
  by_cases h1 : lo ≤ hi
  · go_enter Tryd.func30, Tryd.ntmps30
    go_wp2
    go_region_held3 (fun W => W.cell? ⟨w.heap.size, 0, none⟩ = some (.int .i64 lo) ∧ W.cell? ⟨w.heap.size, 1, none⟩ = some (.int .i64 hi))
      (first | go_keep | exact ⟨k0, k1⟩ | exact ⟨k2, k3⟩)
      (first
        | (go_at_call 32; refine (upTo_any _ _).mono ?_; rintro e w1 ⟨rfl, hB1⟩
           have hs1 := hB1.size
           have hw : w.heap.size < w1.heap.size := by have := hB1.size; (try simp at this); omega
           have k0 := (hB1.cell (p := ⟨w.heap.size, 0, none⟩) (by simp; try omega)).trans (by simp : _ = some (Value.int .i64 lo))
           have k1 := (hB1.cell (p := ⟨w.heap.size, 1, none⟩) (by simp; try omega)).trans (by simp : _ = some (Value.int .i64 hi)))
        | (go_at_call 31; refine (within_any 0 m _ 2 [lo, hi] _ _ (Nat.le_refl _) (by first | exact ints_lit _ (alloc_at0 _ _) rfl | exact ints_lit _ ((hB1.block _ (by simp)).trans (alloc2_at1 _ _ _)) rfl) (by simp)).mono ?_; rintro e w2 ⟨rfl, hB2⟩
           have k2 := (hB2.cell (p := ⟨w.heap.size, 0, none⟩) (by (try simp at hs1); (try simp); (try omega))).trans (by first | exact k0 | exact (World.cell?_alloc_lt _ _ _ hw).trans k0 : _ = some (Value.int .i64 lo))
           have k3 := (hB2.cell (p := ⟨w.heap.size, 1, none⟩) (by (try simp at hs1); (try simp); (try omega))).trans (by first | exact k1 | exact (World.cell?_alloc_lt _ _ _ hw).trans k1 : _ = some (Value.int .i64 hi))))
    all_goals
      have hs2 := hB2.size
      simp only [World.size_alloc, drew_size'] at hs1 hs2
      go_wp2
      go_ret
      first
        | exact ⟨by simp [okSpan, h1], ((((Below.refl _ w).alloc (Nat.le_refl _) _).drew.trans (hB1.mono (by rw [drew_size']; simp))).alloc (by omega) _).trans (hB2.mono (by simp; omega))⟩
        | exact ⟨by simp [okSpan, h1], ((((Below.refl _ w).alloc (Nat.le_refl _) _).alloc (by simp) _).drew.trans (hB1.mono (by rw [drew_size']; simp; omega))).trans (hB2.mono (by omega))⟩
  · have hd : decide (lo ≤ hi) = false := by simpa using h1
    go_enter Tryd.func30, Tryd.ntmps30
    go_wp2
    go_quiet (fail)
    go_wp2
    go_ret
    exact ⟨by simp [okSpan, hd], below_drewN ((Below.refl _ w).alloc (Nat.le_refl _) _) _⟩

end Go.Proofs.YtanjolmelbipoaaDoor

namespace Go.Proofs.YtanjolmelbipoaaDoor

abbrev Fact := Value → World → Prop

/-- What an operation gives, in a state and a world: a value and a world of which R holds. -/
def gives (P : Program) (o : Oper) (a : Act) (w : World) (R : Value → World → Prop) : Prop :=
  match (execOp a.eval o).run P w with
  | .ok (.value v) w' => R v w'
  | .ok .skip w' => R undef w'
  | .ok (.enter f args) w' => Calls P f args w' (fun e w'' => ∃ v, e = .returned v ∧ R v w'')
  | _ => False

theorem gives.wp {P : Program} {o : Oper} {a a' : Act} {w : World} {R : Value → World → Prop} {K : Act → World → Prop} {Q : Exit → Act → World → Prop} (h : gives P o a w R) (he : execOp a'.eval o = execOp a.eval o) (hK : ∀ v w', R v w' → K (a'.put o.dst v) w') : o.wp P a' w K Q := by
  unfold gives at h
  unfold Oper.wp
  rw [he]
  generalize (execOp a.eval o).run P w = r at *
  cases r with
  | ok n w' =>
    cases n <;> simp only at h <;> simp only [Oper.upon]
    case value v => exact hK _ _ h
    case skip => exact hK _ _ h
    case enter f args => exact Calls.mono h fun e w'' ⟨v, he, hv⟩ => by subst he; exact hK _ _ hv
  | halt x w' => simp only at h

abbrev slot (a : Act) (t : Nat) : Value := a.tmps.getD t undef

section
variable (P : Program) (ops : Array Oper) (C : World → Prop) (S : World → World → Prop) (QN : Act → World → Prop)

/-- How an operation is met: it isn't wanted; it yields one value; it yields a value of which a fact is known. -/
inductive Kd where
  | un
  | det (c : Value)
  | nd (d : Nat) (Φ : Fact)

def ent : Kd → (Nat → Value) → Value
  | .un, _ => undef
  | .det c, _ => c
  | .nd d _, ρ => ρ d
def nextA (A : (Nat → Value) → Act) (o : Oper) (kd : Kd) : (Nat → Value) → Act := fun ρ => (A ρ).put o.dst (ent kd ρ)
def nextH (hs : List (Nat × Fact)) : Kd → List (Nat × Fact)
  | .nd d Φ => (d, Φ) :: hs
  | _ => hs

/-- What is owed for one operation. -/
def StepOk (o : Oper) (kd : Kd) (A : (Nat → Value) → Act) (hs : List (Nat × Fact)) : Prop :=
  match kd with
  | .un => ∀ ρ, Region.wanted o (yielded ops (A ρ).tmps) = false
  | .det c => (∀ ρ, Region.wanted o (yielded ops (A ρ).tmps) = true) ∧ ∃ ts : List Nat, o.looksAt ops = ts ∧
      ∀ ρ w, C w → (∀ p ∈ hs, p.1 ∈ ts → p.2 (ρ p.1) w) → gives P o (A ρ) w (fun v w' => v = c ∧ S w w' ∧ C w')
  | .nd d Φ => (∀ ρ, Region.wanted o (yielded ops (A ρ).tmps) = true) ∧ (∃ ts : List Nat, o.looksAt ops = ts ∧
      ∀ ρ w, C w → (∀ p ∈ hs, p.1 ∈ ts → p.2 (ρ p.1) w) → gives P o (A ρ) w (fun v w' => Φ v w' ∧ S w w' ∧ C w')) ∧ o.dst = some d ∧ (∀ v w w', Φ v w → S w w' → C w' → Φ v w')

/-- The walk in the text's order. -/
def Steps : List Oper → List Kd → ((Nat → Value) → Act) → List (Nat × Fact) → Prop
  | [], [], A, hs => ∀ ρ w, C w → (∀ p ∈ hs, p.2 (ρ p.1) w) → QN (A ρ) w
  | o :: l, kd :: ks, A, hs => StepOk P ops C S o kd A hs ∧ Steps l ks (nextA A o kd) (nextH hs kd)
  | _, _, _, _ => False

/-- .. without its list: what a proof goes through. -/
def WalkR (l : List Oper) (A : (Nat → Value) → Act) (hs : List (Nat × Fact)) : Prop := ∃ ks, Steps P ops C S QN l ks A hs

def stA (A : (Nat → Value) → Act) : List Oper → List Kd → Nat → (Nat → Value) → Act
  | o :: l, kd :: ks, i + 1 => stA (nextA A o kd) l ks i
  | _, _, _ => A
def stH (hs : List (Nat × Fact)) : List Kd → Nat → List (Nat × Fact)
  | kd :: ks, i + 1 => stH (nextH hs kd) ks i
  | _, _ => hs

variable {P ops C S QN}

theorem Steps.at_ : ∀ {l : List Oper} {ks : List Kd} {A : (Nat → Value) → Act} {hs : List (Nat × Fact)}, Steps P ops C S QN l ks A hs → ∀ i o, l[i]? = some o → ∃ kd, ks[i]? = some kd ∧ StepOk P ops C S o kd (stA A l ks i) (stH hs ks i)
  | o :: l, kd :: ks, A, hs, h, 0, o', ho => by
    simp at ho; subst ho
    exact ⟨kd, rfl, h.1⟩
  | o :: l, kd :: ks, A, hs, h, i + 1, o', ho => Steps.at_ h.2 i o' (by simpa using ho)
  | [], _, _, _, _, _, _, ho => by simp at ho
  | _ :: _, [], _, _, h, _, _, _ => h.elim

theorem Steps.end_ : ∀ {l : List Oper} {ks : List Kd} {A : (Nat → Value) → Act} {hs : List (Nat × Fact)}, Steps P ops C S QN l ks A hs →
    ks.length = l.length ∧ ∀ ρ w, C w → (∀ p ∈ stH hs ks l.length, p.2 (ρ p.1) w) → QN (stA A l ks l.length ρ) w
  | [], [], A, hs, h => ⟨rfl, h⟩
  | o :: l, kd :: ks, A, hs, h => by
    obtain ⟨h1, h2⟩ := Steps.end_ h.2
    exact ⟨by simp [h1], h2⟩
  | [], _ :: _, _, _, h => h.elim
  | _ :: _, [], _, _, h => h.elim

theorem slot_put_ne {a : Act} {d : Option Tmp} {v : Value} {t : Nat} (h : d ≠ some t) : slot (a.put d v) t = slot a t := by
  cases d with
  | none => rfl
  | some d =>
    have hne : d ≠ t := fun e => h (by rw [e])
    simp [slot, Act.put, Array.getElem?_setIfInBounds_ne hne]
theorem slot_put_same {a : Act} {v : Value} {t : Nat} (h : t < a.tmps.size) : slot (a.put (some t) v) t = v := by
  simp [slot, Act.put, h]
theorem size_put (a : Act) (d : Option Tmp) (v : Value) : (a.put d v).tmps.size = a.tmps.size := by
  cases d <;> simp [Act.put]
theorem defers_put (a : Act) (d : Option Tmp) (v : Value) : (a.put d v).defers = a.defers := by
  cases d <;> simp [Act.put]

theorem stA_size : ∀ (A : (Nat → Value) → Act) (l : List Oper) (ks : List Kd) (i : Nat) (ρ : Nat → Value), (stA A l ks i ρ).tmps.size = (A ρ).tmps.size ∧ (stA A l ks i ρ).defers = (A ρ).defers
  | A, o :: l, kd :: ks, i + 1, ρ => by
    have := stA_size (nextA A o kd) l ks i ρ
    simpa [stA, nextA, size_put, defers_put] using this
  | A, [], _, _, ρ => by simp [stA]
  | A, _ :: _, [], _, ρ => by simp [stA]
  | A, _ :: _, _ :: _, 0, ρ => by simp [stA]

/-- A slot that none of the first i operations writes. -/
theorem stA_other : ∀ (A : (Nat → Value) → Act) (l : List Oper) (ks : List Kd) (i : Nat) (ρ : Nat → Value) (t : Nat), (∀ j o, j < i → l[j]? = some o → o.dst ≠ some t) → slot (stA A l ks i ρ) t = slot (A ρ) t
  | A, o :: l, kd :: ks, i + 1, ρ, t, h => by
    rw [show stA A (o :: l) (kd :: ks) (i + 1) ρ = stA (nextA A o kd) l ks i ρ from rfl,
      stA_other (nextA A o kd) l ks i ρ t (fun j o' hj ho => h (j + 1) o' (by omega) (by simpa using ho))]
    exact slot_put_ne (h 0 o (by omega) rfl)
  | A, [], _, _, ρ, t, _ => by simp [stA]
  | A, _ :: _, [], _, ρ, t, _ => by simp [stA]
  | A, _ :: _, _ :: _, 0, ρ, t, _ => by simp [stA]

/-- A slot that one of them writes, and none after it. -/
theorem stA_wrote : ∀ (A : (Nat → Value) → Act) (l : List Oper) (ks : List Kd) (i : Nat) (ρ : Nat → Value) (t j : Nat) (o : Oper) (kd : Kd), j < i → l[j]? = some o → ks[j]? = some kd → o.dst = some t → t < (A ρ).tmps.size →
    (∀ j' o', j < j' → j' < i → l[j']? = some o' → o'.dst ≠ some t) → slot (stA A l ks i ρ) t = ent kd ρ
  | A, o :: l, kd :: ks, i + 1, ρ, t, 0, o', kd', hj, ho, hk, hd, ht, h => by
    simp at ho hk; subst ho hk
    rw [show stA A (o :: l) (kd :: ks) (i + 1) ρ = stA (nextA A o kd) l ks i ρ from rfl,
      stA_other (nextA A o kd) l ks i ρ t (fun j o' hj ho => h (j + 1) o' (by omega) (by omega) (by simpa using ho))]
    show slot ((A ρ).put o.dst (ent kd ρ)) t = _
    rw [hd]; exact slot_put_same ht
  | A, o :: l, kd :: ks, i + 1, ρ, t, j + 1, o', kd', hj, ho, hk, hd, ht, h =>
    stA_wrote (nextA A o kd) l ks i ρ t j o' kd' (by omega) (by simpa using ho) (by simpa using hk) hd (by simpa [nextA, size_put] using ht) (fun j' o'' h1 h2 h3 => h (j' + 1) o'' (by omega) (by omega) (by simpa using h3))
  | A, [], _, _, ρ, t, j, o, kd, _, ho, _, _, _, _ => by simp at ho
  | A, _ :: _, [], _, ρ, t, j, o, kd, _, _, hk, _, _, _ => by simp at hk
  | A, _ :: _, _ :: _, 0, ρ, t, j, o, kd, hj, _, _, _, _, _ => by omega

theorem stH_mem : ∀ (hs : List (Nat × Fact)) (ks : List Kd) (i : Nat) (p : Nat × Fact), p ∈ stH hs ks i → p ∈ hs ∨ ∃ j, j < i ∧ ks[j]? = some (.nd p.1 p.2)
  | hs, kd :: ks, i + 1, p, h => by
    rcases stH_mem (nextH hs kd) ks i p h with h1 | ⟨j, hj, hk⟩
    · cases kd with
      | nd d Φ =>
        simp only [nextH, List.mem_cons] at h1
        rcases h1 with rfl | h1
        · exact .inr ⟨0, by omega, rfl⟩
        · exact .inl h1
      | _ => exact .inl h1
    · exact .inr ⟨j + 1, by omega, by simpa using hk⟩
  | hs, [], _, p, h => .inl (by simpa [stH] using h)
  | hs, _ :: _, 0, p, h => .inl (by simpa [stH] using h)

variable (ops) in
/-- What is asked of a region, as one Bool: edges go back; slots are written once, and lie in the frame; whatever an operation looks at that another one of the region writes, it waits for. -/
def regB (n : Nat) : Bool :=
  (List.range ops.size).all fun k =>
    match ops[k]? with
    | none => true
    | some o =>
      (o.after.all fun e => !Region.binds .any e || decide (e.on < k)) &&
      (match o.dst with | some d => decide (d < n) | none => true) &&
      (match o.op with | .select .. => false | _ => true) &&
      ((List.range ops.size).all fun j =>
        match ops[j]? with
        | none => true
        | some oj =>
          match oj.dst with
          | none => true
          | some d => (decide (j = k) || o.dst != some d) && (!(o.looksAt ops).contains d || (decide (j < k) && o.after.any fun e => Region.binds .any e && e.on == j)))

structure RegOk (n : Nat) (ops : Array Oper) : Prop where
  back : ∀ (k : Nat) (o : Oper), ops[k]? = some o → ∀ e ∈ o.after, Region.binds .any e = true → e.on < k
  inb : ∀ (k : Nat) (o : Oper) (d : Nat), ops[k]? = some o → o.dst = some d → d < n
  sel : ∀ (k : Nat) (o : Oper), ops[k]? = some o → ∀ cs b, o.op ≠ .select cs b
  once : ∀ (k : Nat) (o : Oper) (j : Nat) (oj : Oper) (d : Nat), ops[k]? = some o → ops[j]? = some oj → oj.dst = some d → o.dst = some d → j = k
  waits : ∀ (k : Nat) (o : Oper) (j : Nat) (oj : Oper) (d : Nat), ops[k]? = some o → ops[j]? = some oj → oj.dst = some d → d ∈ o.looksAt ops → j < k ∧ ∃ e ∈ o.after, Region.binds .any e = true ∧ e.on = j

theorem regB_ok {n : Nat} (h : regB ops n = true) : RegOk n ops := by
  simp only [regB, List.all_eq_true, List.mem_range] at h
  have h' : ∀ (k : Nat) (o : Oper), ops[k]? = some o → _ := fun k o ho => by
    have := h k (Array.getElem?_eq_some_iff.1 ho).1
    simp only [ho, Bool.and_eq_true] at this
    exact this
  have hj : ∀ (k : Nat) (o : Oper) (j : Nat) (oj : Oper) (d : Nat), ops[k]? = some o → ops[j]? = some oj → oj.dst = some d → _ := fun k o j oj d ho hoj hd => by
    have := (h' k o ho).2
    simp only [List.all_eq_true, List.mem_range] at this
    have := this j (Array.getElem?_eq_some_iff.1 hoj).1
    simp only [hoj, hd, Bool.and_eq_true] at this
    exact this
  refine ⟨fun k o ho e he hb => ?_, fun k o d ho hd => ?_, fun k o ho cs b e => ?_, fun k o j oj d ho hoj hd hd' => ?_, fun k o j oj d ho hoj hd hm => ?_⟩
  · have := (h' k o ho).1.1.1
    rw [Array.all_eq_true_iff_forall_mem] at this
    simpa [hb] using this e he
  · have := (h' k o ho).1.1.2
    simpa [hd] using this
  · have := (h' k o ho).1.2
    simp [e] at this
  · have := (hj k o j oj d ho hoj hd).1
    simpa [hd'] using this
  · have := (hj k o j oj d ho hoj hd).2
    simp only [Bool.or_eq_true, Bool.not_eq_true', Bool.and_eq_true, decide_eq_true_eq, Array.any_eq_true', beq_iff_eq] at this
    rcases this with h1 | ⟨h1, e, he, hb⟩
    · have : (o.looksAt ops).contains d = true := by simpa using hm
      rw [h1] at this; cases this
    · exact ⟨h1, e, he, hb⟩

/-- What holds on the way: of the operations that have come up. -/
structure InvR (C : World → Prop) (ks : List Kd) (ops : Array Oper) (a0 : Act) (listed : Array Bool) (a : Act) (w : World) : Prop where
  len : listed.size = ops.size
  size : a.tmps.size = a0.tmps.size
  defers : a.defers = a0.defers
  cls : C w
  other : ∀ t, (∀ (j : Nat) (o : Oper), ops[j]? = some o → listed.getD j false = true → o.dst ≠ some t) → slot a t = slot a0 t
  wrote : ∀ (j : Nat) (o : Oper) (kd : Kd), ops[j]? = some o → ks[j]? = some kd → listed.getD j false = true →
    (∀ d, o.dst = some d → slot a d = ent kd (slot a)) ∧ (∀ d Φ, kd = .nd d Φ → o.dst = some d ∧ Φ (slot a d) w)

theorem slot_at {n : Nat} {a0 : Act} {listed : Array Bool} {a : Act} {w : World} {ks : List Kd} (R : RegOk n ops) (hn : a0.tmps.size = n) (hk : ks.length = ops.size) (I : InvR C ks ops a0 listed a w) {k : Nat} {o : Oper} (ho : ops[k]? = some o)
    (hr : ∀ e ∈ o.after, Region.binds .any e = true → listed.getD e.on false = true) (_ : listed.getD k true = false) {t : Nat} (ht : t ∈ o.looksAt ops) :
    slot a t = slot (stA (fun _ => a0) ops.toList ks k (slot a)) t := by
  by_cases hw : ∃ (j : Nat) (oj : Oper), ops[j]? = some oj ∧ oj.dst = some t
  · obtain ⟨j, oj, hoj, hd⟩ := hw
    obtain ⟨hjk, e, he, hb, rfl⟩ := R.waits k o j oj t ho hoj hd ht
    have hl := hr e he hb
    have hjs : e.on < ks.length := by rw [hk]; exact (Array.getElem?_eq_some_iff.1 hoj).1
    have hkd : ks[e.on]? = some ks[e.on] := List.getElem?_eq_getElem hjs
    rw [stA_wrote (fun _ => a0) ops.toList ks k (slot a) t e.on oj _ hjk (by simpa using hoj) hkd hd (by rw [hn]; exact R.inb _ _ _ hoj hd)
      (fun j' o' h1 h2 h3 h4 => by
        have := R.once e.on oj j' o' t hoj (by simpa using h3) h4 hd
        omega)]
    exact (I.wrote e.on oj _ hoj hkd hl).1 t hd
  · rw [stA_other (fun _ => a0) ops.toList ks k (slot a) t (fun j oj _ hoj hd => hw ⟨j, oj, by simpa using hoj, hd⟩)]
    exact I.other t (fun j oj hoj _ hd => hw ⟨j, oj, hoj, hd⟩)

theorem countP_set {l : List Bool} {i : Nat} (h : l[i]? = some false) : (l.set i true).countP (fun b => !b) + 1 = l.countP (fun b => !b) := by
  induction l generalizing i with
  | nil => simp at h
  | cons b l ih =>
    cases i with
    | zero => simp at h; subst h; simp
    | succ i =>
      have := ih (i := i) (by simpa using h)
      simp only [List.set_cons_succ, List.countP_cons]
      omega

theorem walk_sound {n : Nat} {a0 : Act} {ks : List Kd} {Q : Exit → Act → World → Prop} (R : RegOk n ops) (hn : a0.tmps.size = n) (hS : ∀ w, S w w) (hSt : Steps P ops C S (Q .normal) ops.toList ks (fun _ => a0) []) :
    ∀ (fuel : Nat) (listed : Array Bool) (a : Act) (w : World), InvR C ks ops a0 listed a w → listed.toList.countP (fun b => !b) ≤ fuel → wpAny P .any ops Q fuel listed a w := by
  obtain ⟨hk, hend⟩ := hSt.end_
  simp only [Array.length_toList] at hk hend
  -- all have come up: the state is the walk's last one
  have fin : ∀ (listed : Array Bool) (a : Act) (w : World), InvR C ks ops a0 listed a w → Region.ready .any ops listed = [] → Q .normal a w := by
    intro listed a w I hr
    have hall : ∀ k, k < ops.size → listed.getD k false = true := by
      intro k
      induction k using Nat.strongRecOn with
      | _ k ih =>
        intro hlt
        have hks : k < listed.size := by rw [I.len]; exact hlt
        cases hb : listed.getD k false with
        | true => rfl
        | false =>
          exfalso
          have hk2 : k ∈ Region.ready .any ops listed := by
            refine mem_ready.2 ⟨by simpa [hks] using hb, ops[k], Array.getElem?_eq_getElem hlt, fun e he hbi => ?_⟩
            have hlt2 := R.back k _ (Array.getElem?_eq_getElem hlt) e he hbi
            exact ih e.on hlt2 (by omega)
          rw [hr] at hk2; cases hk2
    have ha : a = stA (fun _ => a0) ops.toList ks ops.size (slot a) := by
      have hsz := stA_size (fun _ => a0) ops.toList ks ops.size (slot a)
      have hslot : ∀ t, slot a t = slot (stA (fun _ => a0) ops.toList ks ops.size (slot a)) t := by
        intro t
        by_cases hw : ∃ (j : Nat) (oj : Oper), ops[j]? = some oj ∧ oj.dst = some t
        · obtain ⟨j, oj, hoj, hd⟩ := hw
          have hj := (Array.getElem?_eq_some_iff.1 hoj).1
          have hkd : ks[j]? = some ks[j] := List.getElem?_eq_getElem (by omega)
          rw [stA_wrote (fun _ => a0) ops.toList ks ops.size (slot a) t j oj _ hj (by simpa using hoj) hkd hd (by rw [hn]; exact R.inb _ _ _ hoj hd)
            (fun j' o' h1 h2 h3 h4 => by
              have := R.once j oj j' o' t hoj (by simpa using h3) h4 hd
              omega)]
          exact (I.wrote j oj _ hoj hkd (hall j hj)).1 t hd
        · rw [stA_other (fun _ => a0) ops.toList ks ops.size (slot a) t (fun j oj _ hoj hd => hw ⟨j, oj, by simpa using hoj, hd⟩)]
          exact I.other t (fun j oj hoj _ hd => hw ⟨j, oj, hoj, hd⟩)
      obtain ⟨h1, h2⟩ := hsz
      have hd := I.defers
      have hs := I.size
      generalize stA (fun _ => a0) ops.toList ks ops.size (slot a) = b at *
      obtain ⟨ta, da⟩ := a
      obtain ⟨tb, db⟩ := b
      simp only [Act.mk.injEq] at *
      refine ⟨?_, by rw [hd, h2]⟩
      apply Array.ext
      · omega
      · intro i hi1 hi2
        have := hslot i
        simp only [slot] at this
        simpa [hi1, hi2] using this
    rw [ha]
    refine hend _ w I.cls (fun p hp => ?_)
    rcases stH_mem [] ks ops.size p hp with h1 | ⟨j, hj, hkd⟩
    · cases h1
    · exact ((I.wrote j _ _ (Array.getElem?_eq_getElem hj) hkd (hall j hj)).2 p.1 p.2 rfl).2
  intro fuel
  induction fuel with
  | zero =>
    intro listed a w I hc
    have hr : Region.ready .any ops listed = [] := by
      rw [List.eq_nil_iff_forall_not_mem]
      intro k hk2
      obtain ⟨h0, o, ho, _⟩ := mem_ready.1 hk2
      have hks : k < listed.size := by rw [I.len]; exact (Array.getElem?_eq_some_iff.1 ho).1
      have hm : listed[k] ∈ listed.toList := by simp
      have := List.countP_eq_zero.1 (by omega : listed.toList.countP (fun b => !b) = 0) _ hm
      simp [hks] at h0
      simp [h0] at this
    exact ⟨hr, fin listed a w I hr⟩
  | succ fuel ih =>
    intro listed a w I hc
    refine ⟨fin listed a w I, fun k hk2 => ?_⟩
    obtain ⟨h0, o, ho, hr⟩ := mem_ready.1 hk2
    have hks : k < listed.size := by rw [I.len]; exact (Array.getElem?_eq_some_iff.1 ho).1
    obtain ⟨kd, hkd, hst⟩ := hSt.at_ k o (by simpa using ho)
    have hsl : ∀ t, t ∈ o.looksAt ops → slot a t = slot (stA (fun _ => a0) ops.toList ks k (slot a)) t := fun t ht => slot_at R hn hk I ho hr h0 ht
    have hsz := stA_size (fun _ => a0) ops.toList ks k (slot a)
    have hev : execOp a.eval o = execOp (stA (fun _ => a0) ops.toList ks k (slot a)).eval o :=
      execOp_congr o (R.sel k o ho) fun x hx => by
        cases x with
        | tmp t => exact hsl t (List.mem_append_left _ (List.mem_filterMap.2 ⟨.tmp t, by simpa using hx, rfl⟩))
        | _ => rfl
    have hwn : Region.wanted o (yielded ops a.tmps) = Region.wanted o (yielded ops (stA (fun _ => a0) ops.toList ks k (slot a)).tmps) := by
      unfold Region.wanted
      cases hg : o.guard with
      | none => rfl
      | some gw =>
        obtain ⟨g, want⟩ := gw
        have : yielded ops a.tmps g = yielded ops (stA (fun _ => a0) ops.toList ks k (slot a)).tmps g := by
          unfold yielded
          cases ht : (ops[g]?).bind (·.dst) with
          | none => rfl
          | some t =>
            have hm : t ∈ o.looksAt ops := by simp [Oper.looksAt, hg, ht]
            have hs := hsl t hm
            have hsz' := I.size
            have e1 : a.tmps.size = (stA (fun _ => a0) ops.toList ks k (slot a)).tmps.size := by rw [hsz.1, hsz']
            simp only [slot] at hs
            have : a.tmps[t]? = (stA (fun _ => a0) ops.toList ks k (slot a)).tmps[t]? := by
              rcases Nat.lt_or_ge t a.tmps.size with h | h
              · have h2 : t < (stA (fun _ => a0) ops.toList ks k (slot a)).tmps.size := by rw [← e1]; exact h
                simpa [h, h2] using hs
              · rw [Array.getElem?_eq_none h, Array.getElem?_eq_none (by omega)]
            simp [this]
        simp only [this]
    have hcount : (listed.setIfInBounds k true).toList.countP (fun b => !b) ≤ fuel := by
      have hf : listed.toList[k]? = some false := by simp [hks] at h0; simp [hks, h0]
      have := countP_set hf
      rw [Array.toList_setIfInBounds]
      omega
    have hset : ∀ j, (listed.setIfInBounds k true).getD j false = true ↔ j = k ∨ listed.getD j false = true := by
      intro j
      by_cases hjk : j = k
      · subst hjk; simp [hks]
      · rw [getD_set_ne false (Ne.symm hjk)]; simp [hjk]
    -- the state behind the operation
    have next : ∀ v w', S w w' → C w' → v = ent kd (slot (a.put o.dst v)) → (∀ d Φ, kd = .nd d Φ → o.dst = some d ∧ Φ v w') → (∀ (j : Nat) d Φ, ks[j]? = some (.nd d Φ) → ∀ u, Φ u w → Φ u w') →
        InvR C ks ops a0 (listed.setIfInBounds k true) (a.put o.dst v) w' := by
      intro v w' hS' hC' hv hnd hstab
      have hin : ∀ d, o.dst = some d → d < a.tmps.size := fun d hd => by rw [I.size, hn]; exact R.inb k o d ho hd
      refine ⟨by simp [I.len], by rw [size_put, I.size], by rw [defers_put, I.defers], hC', fun t ht => ?_, fun j oj kj hoj hkj hlj => ?_⟩
      · rw [slot_put_ne (ht k o ho ((hset k).2 (.inl rfl)))]
        exact I.other t (fun j oj hoj hlj => ht j oj hoj ((hset j).2 (.inr hlj)))
      · rcases (hset j).1 hlj with rfl | hlk
        · rw [ho] at hoj; cases hoj
          rw [hkd] at hkj; cases hkj
          refine ⟨fun d hd => ?_, fun d Φ hkn => ?_⟩
          · have : slot (a.put o.dst v) d = v := by rw [hd]; exact slot_put_same (hin d hd)
            rw [this]; exact hv
          · obtain ⟨hd, hΦ⟩ := hnd d Φ hkn
            refine ⟨hd, ?_⟩
            have : slot (a.put o.dst v) d = v := by rw [hd]; exact slot_put_same (hin d hd)
            rw [this]; exact hΦ
        · by_cases hjk : j = k
          · subst hjk
            have h0' : listed.getD j false = false := by
              simp only [Array.getD_eq_getD_getElem?, Array.getElem?_eq_getElem hks, Option.getD_some] at h0 ⊢; exact h0
            rw [h0'] at hlk; cases hlk
          · obtain ⟨h1, h2⟩ := I.wrote j oj kj hoj hkj hlk
            have hne : ∀ d, oj.dst = some d → o.dst ≠ some d := fun d hd hd' => hjk (R.once k o j oj d ho hoj hd hd')
            refine ⟨fun d hd => ?_, fun d Φ hkn => ?_⟩
            · rw [slot_put_ne (hne d hd), h1 d hd]
              cases kj with
              | un => rfl
              | det c => rfl
              | nd d' Φ =>
                obtain ⟨hd', _⟩ := h2 d' Φ rfl
                exact (slot_put_ne (hne d' hd')).symm
            · obtain ⟨hd, hΦ⟩ := h2 d Φ hkn
              refine ⟨hd, ?_⟩
              rw [slot_put_ne (hne d hd)]
              exact hstab j d Φ (by rw [hkj, hkn]) _ hΦ
    have stab : ∀ (w' : World), S w w' → C w' → ∀ (j : Nat) d Φ, ks[j]? = some (.nd d Φ) → ∀ u, Φ u w → Φ u w' := by
      intro w' hS' hC' j d Φ hkj u hu
      have hjl : j < ops.toList.length := by
        have := (List.getElem?_eq_some_iff.1 hkj).1
        simp; omega
      obtain ⟨kd', hkd', hst'⟩ := hSt.at_ j _ (List.getElem?_eq_getElem hjl)
      rw [hkj] at hkd'; cases hkd'
      exact hst'.2.2.2 _ _ _ hu hS' hC'
    have hfacts : ∀ ts : List Nat, o.looksAt ops = ts → ∀ p ∈ stH [] ks k, p.1 ∈ ts → p.2 (slot a p.1) w := by
      intro ts hts p hp hpt
      rcases stH_mem [] ks k p hp with h1 | ⟨j, hj, hkj⟩
      · cases h1
      · have hjl : j < ops.size := by have := (Array.getElem?_eq_some_iff.1 ho).1; omega
        have hoj := Array.getElem?_eq_getElem hjl
        obtain ⟨kd', hkd', hst'⟩ := hSt.at_ j ops[j] (by rw [Array.getElem?_toList]; exact hoj)
        rw [hkj] at hkd'; cases hkd'
        have hd := hst'.2.2.1
        obtain ⟨_, e, he, hb, hej⟩ := R.waits k o j _ p.1 ho hoj hd (by rw [hts]; exact hpt)
        have hl := hr e he hb
        rw [hej] at hl
        exact ((I.wrote j _ _ hoj hkj hl).2 p.1 p.2 rfl).2
    unfold wpOp
    simp only [ho]
    cases kd with
    | un =>
      have : Region.wanted o (yielded ops a.tmps) = false := by rw [hwn]; exact hst _
      simp only [this, Bool.false_eq_true, if_false]
      exact ih _ _ _ (next undef w (hS w) I.cls rfl (fun d Φ h => by cases h) (stab w (hS w) I.cls)) hcount
    | det c =>
      obtain ⟨hw, ts, hts, hg⟩ := hst
      have : Region.wanted o (yielded ops a.tmps) = true := by rw [hwn]; exact hw _
      simp only [this, if_true]
      refine .inl ((hg (slot a) w I.cls (hfacts ts hts)).wp hev fun v w' ⟨hv, hS', hC'⟩ => ?_)
      exact ih _ _ _ (next v w' hS' hC' hv (fun d Φ h => by cases h) (stab w' hS' hC')) hcount
    | nd d Φ =>
      obtain ⟨hw, ⟨ts, hts, hg⟩, hd, _⟩ := hst
      have : Region.wanted o (yielded ops a.tmps) = true := by rw [hwn]; exact hw _
      simp only [this, if_true]
      refine .inl ((hg (slot a) w I.cls (hfacts ts hts)).wp hev fun v w' ⟨hv, hS', hC'⟩ => ?_)
      refine ih _ _ _ (next v w' hS' hC' ?_ (fun d' Φ' h => by cases h; exact ⟨hd, hv⟩) (stab w' hS' hC')) hcount
      show v = slot (a.put o.dst v) d
      rw [hd]
      exact (slot_put_same (by rw [I.size, hn]; exact R.inb k o d ho hd)).symm

/-- A REGION THAT DRAWS ITS ORDER, WALKED ONCE. -/
theorem wp_walk {id : Nat} {Q : Exit → Act → World → Prop} {a0 : Act} {w0 : World} (n : Nat) (hm : P.follows .mixedOrders = true) (hB : regB ops n = true) (hn : a0.tmps.size = n) (hS : ∀ w, S w w) (hC : C w0.drew)
    (h : WalkR P ops C S (Q .normal) ops.toList (fun _ => a0) []) : (Code.region id ops true).wp P Q a0 w0 := by
  obtain ⟨ks, hSt⟩ := h
  refine wp_region_any hm (walk_sound (regB_ok hB) hn hS hSt ops.size (Array.replicate ops.size false) a0 _ ?_ ?_)
  · exact ⟨by simp, rfl, rfl, hC, fun _ _ => rfl, fun j o kd ho hk hl => by simp [Array.getElem?_replicate] at hl; split at hl <;> simp at hl⟩
  · simp [List.countP_replicate]

/-! ### The moves -/
theorem WalkR.nil {A : (Nat → Value) → Act} {hs : List (Nat × Fact)} (h : ∀ ρ w, C w → (∀ p ∈ hs, p.2 (ρ p.1) w) → QN (A ρ) w) : WalkR P ops C S QN [] A hs := ⟨[], h⟩
theorem WalkR.un {o : Oper} {l : List Oper} {A : (Nat → Value) → Act} {hs : List (Nat × Fact)} (hw : ∀ ρ, Region.wanted o (yielded ops (A ρ).tmps) = false) (h : WalkR P ops C S QN l (fun ρ => (A ρ).put o.dst undef) hs) : WalkR P ops C S QN (o :: l) A hs :=
  h.elim fun ks hk => ⟨.un :: ks, hw, hk⟩
theorem WalkR.det {o : Oper} {l : List Oper} {A : (Nat → Value) → Act} {hs : List (Nat × Fact)} {c : Value} {ts : List Nat} (hw : ∀ ρ, Region.wanted o (yielded ops (A ρ).tmps) = true) (hts : o.looksAt ops = ts)
    (hg : ∀ ρ w, C w → (∀ p ∈ hs, p.1 ∈ ts → p.2 (ρ p.1) w) → gives P o (A ρ) w (fun v w' => v = c ∧ S w w' ∧ C w')) (h : WalkR P ops C S QN l (fun ρ => (A ρ).put o.dst c) hs) : WalkR P ops C S QN (o :: l) A hs :=
  h.elim fun ks hk => ⟨.det c :: ks, ⟨hw, ts, hts, hg⟩, hk⟩
theorem WalkR.nd {o : Oper} {l : List Oper} {A : (Nat → Value) → Act} {hs : List (Nat × Fact)} {d : Nat} (Φ : Fact) {ts : List Nat} (hw : ∀ ρ, Region.wanted o (yielded ops (A ρ).tmps) = true) (hts : o.looksAt ops = ts) (hd : o.dst = some d) (hst : ∀ v w w', Φ v w → S w w' → C w' → Φ v w')
    (hg : ∀ ρ w, C w → (∀ p ∈ hs, p.1 ∈ ts → p.2 (ρ p.1) w) → gives P o (A ρ) w (fun v w' => Φ v w' ∧ S w w' ∧ C w')) (h : WalkR P ops C S QN l (fun ρ => (A ρ).put o.dst (ρ d)) ((d, Φ) :: hs)) : WalkR P ops C S QN (o :: l) A hs :=
  h.elim fun ks hk => ⟨.nd d Φ :: ks, ⟨hw, ⟨ts, hts, hg⟩, hd, hst⟩, hk⟩

end

end Go.Proofs.YtanjolmelbipoaaDoor

namespace Go.Proofs.YtanjolmelbipoaaDoor
open Go.RowKit

attribute [local go_sem] gives

/-- The step of a walk through a region that only makes new memory. -/
abbrev Grows (W W' : World) : Prop := Below W.heap.size W W'
theorem Grows.refl (W : World) : Grows W W := Below.refl _ _

theorem below_next {B : Nat} {w W W' : World} (h : Below B w W) (hB : B ≤ w.heap.size) (hg : Grows W W') : Below B w W' := h.trans (hg.mono (Nat.le_trans hB h.size))

theorem chain5 (a b c d e : Bool) : a = false ∨ (a = true ∧ b = false) ∨ (a = true ∧ b = true ∧ c = false) ∨ (a = true ∧ b = true ∧ c = true ∧ d = false) ∨
    (a = true ∧ b = true ∧ c = true ∧ d = true ∧ e = false) ∨ (a = true ∧ b = true ∧ c = true ∧ d = true ∧ e = true) := by
  cases a <;> cases b <;> cases c <;> cases d <;> cases e <;> simp

def okHabP (h : Hab) : Bool := okSpan h.lo h.hi 1000 && allIn 1 6 [h.dies] && allIn 0 h.dies [h.bears] && allIn 1 h.dies [h.ripe] && allIn 0 200 [h.keep]
theorem okHabP_eq (h : Hab) : okHabP h = okHab h := by
  simp only [okHabP, okHab, okSpan, allIn, inR, List.all_cons, List.all_nil, Bool.and_true]
  rw [Bool.eq_iff_iff]
  simp only [Bool.and_eq_true, decide_eq_true_eq]
  omega

/-- A new slice of just these cells. -/
def NewSl (n : Nat) (cs : Array Value) (e : TypeId) : Fact := fun v W => ∃ g, v = .slice (some ⟨g, 0, none⟩) n n ∧ W.heap[g]? = some (.cells cs e (0, 0))
theorem NewSl.keep {n : Nat} {cs : Array Value} {e : TypeId} (v : Value) (W W' : World) (h : NewSl n cs e v W) (hg : Grows W W') : NewSl n cs e v W' := by
  obtain ⟨g, hv, hm⟩ := h
  exact ⟨g, hv, (hg.block g (Array.getElem?_eq_some_iff.1 hm).1).trans hm⟩

set_option maxRecDepth 100000 in
set_option maxHeartbeats 4000000 in
theorem validHabit_any (h : Hab) (w : World) :
    Calls Tryd.prog 42 #[hv h] w fun e w' => e = .returned (.bool (okHab h)) ∧ Below w.heap.size w w' := by
  rw [← okHabP_eq]
  unfold okHabP hv
  rcases chain5 (okSpan h.lo h.hi 1000) (allIn 1 6 [h.dies]) (allIn 0 h.dies [h.bears]) (allIn 1 h.dies [h.ripe]) (allIn 0 200 [h.keep]) with
    h1 | ⟨h1, h2⟩ | ⟨h1, h2, h3⟩ | ⟨h1, h2, h3, h4⟩ | ⟨h1, h2, h3, h4, h5⟩ | ⟨h1, h2, h3, h4, h5⟩
  all_goals
    go_enter Tryd.func42, Tryd.ntmps42
    go_wp2
    have hcell : ∀ W, Below (w.heap.size + 1) (w.alloc (.cells #[.int .i64 h.lo, .int .i64 h.hi, .int .i64 h.bears, .int .i64 h.ripe, .int .i64 h.dies, .int .i64 h.keep] 31)) W → ∀ i, W.cell? ⟨w.heap.size, i, none⟩ = _ :=
      fun W hW i => (hW.cell (p := ⟨w.heap.size, i, none⟩) (by simp)).trans (cell_of_row _ w.heap.size i _ _ _ (alloc_at0 w _))
    refine wp_walk (C := Below (w.heap.size + 1) (w.alloc (.cells #[.int .i64 h.lo, .int .i64 h.hi, .int .i64 h.bears, .int .i64 h.ripe, .int .i64 h.dies, .int .i64 h.keep] 31))) (S := Grows) 38 (by kernel_rfl) (by kernel_rfl) rfl Grows.refl (Below.refl _ _).drew ?_
    simp only []
    repeat (first
      | (refine WalkR.un (fun _ => rfl) ?_
         simp only [Act.put, List.setIfInBounds_toArray, List.set_cons_succ, List.set_cons_zero])
      | (refine' WalkR.det (fun _ => rfl) rfl (fun ρ W hW hH => ?_) ?_
         rotate_left
         · clear hH
           have hc := hcell W hW
           go_simp
           first
             | exact ⟨rfl, Grows.refl _⟩
             | exact ⟨rfl, Grows.refl _, hW⟩
             | (go_at_call 30; refine (validSpan_any _ _ _ _).mono ?_; rintro e W1 ⟨rfl, hB1⟩; rw [h1]; exact ⟨_, rfl, rfl, hB1, below_next hW (by simp) hB1⟩)
             | (go_at_call 32; refine (upTo_any _ _).mono ?_; rintro e W1 ⟨rfl, hB1⟩; exact ⟨_, rfl, rfl, hB1, below_next hW (by simp) hB1⟩)
         simp only [Act.put, List.setIfInBounds_toArray, List.set_cons_succ, List.set_cons_zero])
      | (refine' WalkR.det (fun _ => rfl) rfl (fun ρ W hW hH => ?_) ?_
         rotate_left
         · obtain ⟨g, hv, hgm⟩ := hH _ (.head _) (by dsimp only; decide +kernel)
           clear hH
           go_simp
           go_at_call 31
           first
             | (refine (within_any _ _ _ 1 [h.dies] _ _ (Nat.le_refl _) (ints_lit [h.dies] hgm rfl) (by simp)).mono ?_; rintro e W1 ⟨rfl, hB1⟩; rw [h2]; exact ⟨_, rfl, rfl, hB1, below_next hW (by simp) hB1⟩)
             | (refine (within_any _ _ _ 1 [h.bears] _ _ (Nat.le_refl _) (ints_lit [h.bears] hgm rfl) (by simp)).mono ?_; rintro e W1 ⟨rfl, hB1⟩; rw [h3]; exact ⟨_, rfl, rfl, hB1, below_next hW (by simp) hB1⟩)
             | (refine (within_any _ _ _ 1 [h.ripe] _ _ (Nat.le_refl _) (ints_lit [h.ripe] hgm rfl) (by simp)).mono ?_; rintro e W1 ⟨rfl, hB1⟩; rw [h4]; exact ⟨_, rfl, rfl, hB1, below_next hW (by simp) hB1⟩)
             | (refine (within_any _ _ _ 1 [h.keep] _ _ (Nat.le_refl _) (ints_lit [h.keep] hgm rfl) (by simp)).mono ?_; rintro e W1 ⟨rfl, hB1⟩; rw [h5]; exact ⟨_, rfl, rfl, hB1, below_next hW (by simp) hB1⟩)
         simp only [Act.put, List.setIfInBounds_toArray, List.set_cons_succ, List.set_cons_zero])
      | (refine' WalkR.nd (NewSl _ _ _) (fun _ => rfl) rfl rfl (fun v W W' hv hg _ => hv.keep v W W' hg) (fun ρ W hW hH => ?_) ?_
         rotate_left
         rotate_left
         rotate_left
         · clear hH
           go_simp
           exact ⟨⟨_, rfl, alloc_at0 _ _⟩, (Below.refl _ _).alloc (Nat.le_refl _) _, hW.alloc (by have := hW.size; simp at this; omega) _⟩
         simp only [Act.put, List.setIfInBounds_toArray, List.set_cons_succ, List.set_cons_zero]))
    refine WalkR.nil (fun ρ W hW hH => ?_)
    clear hH
    go_wp2
    go_ret
    exact ⟨by simp [*], ((Below.refl _ _).alloc (Nat.le_refl _) _).trans (hW.mono (by simp))⟩

end Go.Proofs.YtanjolmelbipoaaDoor

namespace Go.Proofs.YtanjolmelbipoaaDoor
open Go.RowKit

set_option maxHeartbeats 400000 in
theorem ripe_any (h : Hab) (r : Nat) (hr : h.ripe = r) (hr6 : r ≤ 6) (c : List Int) (hc : c.length = 7) (hb : Bnd 0 1000000 c) (w : World) :
    Calls Tryd.prog 45 #[gv h c] w fun e w' => e = .returned (.int .i64 (c.drop r).sum) ∧ Below w.heap.size w w' := by
  obtain ⟨lo, hi, be, ri, di, ke⟩ := h
  simp only at hr
  subst hr
  have hI := ints_of_block (B := w.heap.size + 1) (r := r) (heap_alloc_new w (.cells (gcells ⟨lo, hi, be, r, di, ke⟩ c) 71)) (by omega) (7 - r) (by omega)
  have e7 : (c.drop r).take (7 - r) = c.drop r := List.take_of_length_le (by simp [hc])
  rw [e7] at hI
  have H := sum_any (some ⟨w.heap.size, 6 + r, none⟩) (7 - r) (c.drop r) (w.heap.size + 1) _ hI (by simp; omega) (hb.drop r)
  rw [List.length_drop, hc] at H
  have HH := Lib.hid H
  have hgv : gv ⟨lo, hi, be, r, di, ke⟩ c = .agg (gcells ⟨lo, hi, be, r, di, ke⟩ c) := rfl
  rw [hgv]
  clear H hI e7 hgv
  obtain ⟨c0, c1, c2, c3, c4, c5, c6, rfl⟩ := len7 hc
  have hg : gcells ⟨lo, hi, be, r, di, ke⟩ [c0, c1, c2, c3, c4, c5, c6] = #[.int .i64 lo, .int .i64 hi, .int .i64 be, .int .i64 r, .int .i64 di, .int .i64 ke, .int .i64 c0, .int .i64 c1, .int .i64 c2, .int .i64 c3, .int .i64 c4, .int .i64 c5, .int .i64 c6] := rfl
  rw [hg] at HH ⊢
  generalize (List.drop r [c0, c1, c2, c3, c4, c5, c6]).sum = S at HH ⊢
  have b1 : (0 : Int) ≤ (r : Int) := by omega
  have b2 : (r : Int) ≤ 7 := by omega
  have b3 : ¬ (7 : Nat) = r := by omega
  clear hg hb hc
  go_enter Tryd.func45, Tryd.ntmps45
  go_wp2_with (go_at_call 47; refine (HH.out).mono ?_; rintro e w' ⟨rfl, rfl⟩)
  go_ret
  exact ⟨rfl, (Below.refl _ _).alloc (Nat.le_refl _) _⟩

set_option maxHeartbeats 1000000 in
theorem later_any (h : Hab) (d : Nat) (hd : h.dies = d) (hd6 : d ≤ 6) (c : List Int) (hc : c.length = 7) (s : Int) (w : World) :
    Calls Tryd.prog 34 #[gv h c, .int .i64 s] w fun e w' => e = .returned (gv h (laterP d c s)) ∧ Below w.heap.size w w' := by
  obtain ⟨lo, hi, be, ri, di, ke⟩ := h
  simp only at hd
  subst hd
  have hc0 := Lib.hid hc
  obtain ⟨c0, c1, c2, c3, c4, c5, c6, hc7⟩ := len7 hc
  clear hc
  rw [show gv ⟨lo, hi, be, ri, (d : Int), ke⟩ c = .agg #[.int .i64 lo, .int .i64 hi, .int .i64 be, .int .i64 ri, .int .i64 d, .int .i64 ke, .int .i64 c0, .int .i64 c1, .int .i64 c2, .int .i64 c3, .int .i64 c4, .int .i64 c5, .int .i64 c6] from by rw [hc7]; rfl]
  go_enter Tryd.func34, Tryd.ntmps34
  go_wp2
  go_loopw [12] (fun i wr => ∃ k : Nat, k ≤ d ∧ i = .int .i64 k ∧ Hid (wr.heap[w.heap.size]? = some (.cells (gcells ⟨lo, hi, be, ri, d, ke⟩ c) 71 (0, 0))) ∧
      Hid (wr.heap[w.heap.size + 1]? = some (.cells (gcells ⟨0, 0, 0, 0, 0, 0⟩ [0, 0, 0, 0, 0, 0, 0]) 71 (0, 0))) ∧
      Hid (wr.heap[w.heap.size + 1 + 1]? = some (.cells (ints (laterP k c s)).toArray 58 (0, 0))) ∧ Hid (Below w.heap.size w wr))
    (fun i _ => d - (intOf i).toNat)
  case atStart =>
    refine ⟨0, Nat.zero_le _, rfl, ?_, ?_, ?_, ?_⟩
    · show _ = _
      first | (rw [alloc3_at0, hc7]; rfl) | (rw [heap_setCell_other _ _ _ _ (by simp), alloc3_at0, hc7]; rfl)
    · show _ = _
      first | (rw [alloc3_at1]; rfl) | (rw [heap_setCell_other _ _ _ _ (by simp), alloc3_at1]; rfl)
    · show _ = _
      rw [alloc3_at2]; rfl
    · exact (((Below.refl _ _).alloc (Nat.le_refl _) _).alloc (by simp) _).alloc (by simp; omega) _
  case round =>
    obtain ⟨k, hk, rfl, hP, hR, hG, hBel⟩ := hrel
    by_cases hlt : k < d
    · have cx : wr.cell? ⟨w.heap.size, 6 + k, none⟩ = _ := (cell_of_row wr _ _ _ _ _ hP.out).trans (gcells_at _ _ k (by rw [hc0.out]; omega))
      have hlen := laterP_len s (show k ≤ 6 by omega) hc0.out
      have cg : wr.cell? ⟨w.heap.size + 1 + 1, k + 1, none⟩ = _ := (cell_of_row wr _ _ _ _ _ hG.out).trans (ints_at _ (k + 1) (by omega))
      have fg := frozen_of_row wr _ (k + 1) _ _ hG.out
      have hs := laterP_succ s (show k < 6 by omega) hc0.out
      generalize c[k]?.getD 0 = x at cx hs
      have hst := heap_setCell_same wr (w.heap.size + 1 + 1) (k + 1) _ _ (.int .i64 x) hG.out
      rw [ints_set, hs] at hst
      have HS := Lib.hid (And.intro hst (And.intro (heap_setCell_other wr ⟨w.heap.size + 1 + 1, k + 1, none⟩ w.heap.size (.int .i64 x) (by simp; omega)) (heap_setCell_other wr ⟨w.heap.size + 1 + 1, k + 1, none⟩ (w.heap.size + 1) (.int .i64 x) (by simp))))
      have HB := Lib.hid (hBel.out.setCell (p := ⟨w.heap.size + 1 + 1, k + 1, none⟩) (by simp; omega) (.int .i64 x))
      have b1 : (k : Int) < 6 := by omega
      have b2 : (0 : Int) ≤ (k : Int) := by omega
      clear hs hlen hst hc7
      go_wp2
      go_roundw
      case rel => exact ⟨k + 1, by omega, by go_num, HS.out.2.1.trans hP.out, HS.out.2.2.trans hR.out, HS.out.1, HB.out⟩
      case measure => simp [intOf] <;> omega
    · obtain rfl : k = d := by omega
      have hlen := laterP_len s hd6 hc0.out
      generalize hst : laterP k c s = l at hG hlen ⊢
      obtain ⟨p0, p1, p2, p3, p4, p5, p6, hp⟩ := len7 hlen
      have cP := fun i => cell_of_row wr w.heap.size i _ _ _ hP.out
      have fP := fun i => frozen_of_row wr w.heap.size i _ _ hP.out
      have cG := fun i => cell_of_row wr (w.heap.size + 1 + 1) i _ _ _ hG.out
      have fR := fun i => frozen_of_row wr (w.heap.size + 1) i _ _ hR.out
      have cR := fun i => cell_of_row wr (w.heap.size + 1) i _ _ _ hR.out
      rw [hc7] at cP
      rw [hp] at cG
      simp only [gcells, hcells, ints, List.map_cons, List.map_nil, List.cons_append, List.nil_append] at cP cG cR
      have HL := Lib.hid (And.intro hst hp)
      clear hlen hst hp hc7
      go_wp2
      refine bodyPost_ret (v := .agg #[.int .i64 lo, .int .i64 hi, .int .i64 be, .int .i64 ri, .int .i64 k, .int .i64 ke, .int .i64 p0, .int .i64 p1, .int .i64 p2, .int .i64 p3, .int .i64 p4, .int .i64 p5, .int .i64 p6]) (by simp [results, Tryd.results34, go_sem, cR]) rfl ⟨?_, ?_⟩
      · rw [HL.out.1, HL.out.2]; rfl
      · have hBel := hBel.out
        repeat (first | with_reducible assumption | with_reducible refine Below.drew ?_ | (with_reducible refine Below.setCell ?_ ?hp _; case hp => simp; try omega))

end Go.Proofs.YtanjolmelbipoaaDoor

