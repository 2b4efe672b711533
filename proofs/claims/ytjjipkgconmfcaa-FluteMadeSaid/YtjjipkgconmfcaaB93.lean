/-
  Texts laid together: R8, R9, CdA.
-/
import Derived.Deep.LoopGhost
import Derived.Test.YtjjipkgconmfcaaB91
set_option linter.all false
namespace Go.Proofs.Ytjjipkgconmfcaa
open Go.RowKit

/-- A value that is there if something is so; not, and, or, left as they stand by a walk. -/
def cnd (b : Bool) (v : Value) : Value := if b = true then v else undef
def notB (b : Bool) : Bool := !b
def andB (a b : Bool) : Bool := a && b
def orB (a b : Bool) : Bool := a || b
theorem cnd_true (v : Value) : cnd true v = v := rfl
theorem cnd_false (v : Value) : cnd false v = undef := rfl
theorem notB_false : notB false = true := rfl
theorem notB_true : notB true = false := rfl
theorem andB_left (b : Bool) : andB true b = b := rfl
theorem andB_right (b : Bool) : andB b true = b := by cases b <;> rfl
theorem andB_false (b : Bool) : andB b false = false := by cases b <;> rfl
theorem orB_false (b : Bool) : orB b false = b := by cases b <;> rfl
theorem pick_or (x y : Bool) : (if x = true then Value.bool true else cnd (notB x) (.bool y)) = .bool (orB x y) := by cases x <;> rfl
theorem pick_and (x y : Bool) : (if x = true then cnd x (.bool y) else Value.bool false) = .bool (andB x y) := by cases x <;> rfl
theorem pick_and2 (x y : Bool) : (if x = true then Value.bool y else Value.bool false) = .bool (andB x y) := by cases x <;> rfl
theorem pick_orD (p : Prop) [Decidable p] (y : Bool) : (if p then Value.bool true else cnd (notB (decide p)) (.bool y)) = .bool (orB (decide p) y) := by by_cases h : p <;> simp [h, cnd, notB, orB]
theorem pick_andD (p : Prop) [Decidable p] (y : Bool) : (if p then cnd (decide p) (.bool y) else Value.bool false) = .bool (andB (decide p) y) := by by_cases h : p <;> simp [h, cnd, andB]
theorem pick_andD2 (p : Prop) [Decidable p] (y : Bool) : (if p then Value.bool y else Value.bool false) = .bool (andB (decide p) y) := by by_cases h : p <;> simp [h, andB]
theorem pick_orN (b y : Bool) : (if b = false then Value.bool true else cnd (notB !b) (.bool y)) = .bool (orB (!b) y) := by cases b <;> rfl
theorem pick_andN (b y : Bool) : (if b = false then cnd (!b) (.bool y) else Value.bool false) = .bool (andB (!b) y) := by cases b <;> rfl
theorem wanted_at {o : Oper} {ops : Array Oper} {tmps : Array Value} {j d : Nat} {want : Bool} {v : Value} (hg : o.guard = some (j, want)) (hj : (ops[j]?).bind (·.dst) = some d) (hx : tmps[d]? = some v) :
    Region.wanted o (yielded ops tmps) = (match v with | .bool b => b == want | _ => false) := by
  unfold Region.wanted yielded
  rw [hg]
  simp only [hj, Option.bind_some, hx]
  cases v <;> rfl
namespace R6
open R4 (upd slot_upd)
section
variable {P : Program} {ops : Array Oper} {C : (Nat → Bool) → (Nat → Value) → World → Prop} {QN : Act → World → Prop} {k : Nat} {o : Oper} {l : List Oper} {A : (Nat → Value) → Act} {c : Value}
theorem WalkR.opt (b : Bool) (hw : ∀ ρ, Region.wanted o (yielded ops (A ρ).tmps) = b) (hu : ∀ D ρ w, Knows ops k D → C D ρ w → C (done D k) (upd ρ o.dst undef) w)
    (hg : b = true → ∀ D ρ w, Knows ops k D → C D ρ w → gives P o (A ρ) w (fun v w' => v = c ∧ C (done D k) (upd ρ o.dst v) w')) (h : WalkR P ops C QN (k + 1) l (fun ρ => (A ρ).put o.dst (cnd b c))) : WalkR P ops C QN k (o :: l) A := by
  cases b
  · exact WalkR.un hw hu h
  · exact WalkR.det hw (hg rfl) h
/-- The guard is a slot that holds x: done if x is false. -/
theorem WalkR.gF {j d : Nat} {x : Bool} (hg : o.guard = some (j, false)) (hj : (ops[j]?).bind (·.dst) = some d) (hx : ∀ ρ, (A ρ).tmps[d]? = some (.bool x)) (hu : ∀ D ρ w, Knows ops k D → C D ρ w → C (done D k) (upd ρ o.dst undef) w)
    (hv : x = false → ∀ D ρ w, Knows ops k D → C D ρ w → gives P o (A ρ) w (fun v w' => v = c ∧ C (done D k) (upd ρ o.dst v) w')) (h : WalkR P ops C QN (k + 1) l (fun ρ => (A ρ).put o.dst (cnd (notB x) c))) : WalkR P ops C QN k (o :: l) A :=
  WalkR.opt (notB x) (fun ρ => by rw [wanted_at hg hj (hx ρ)]; cases x <;> rfl) hu (fun h => hv (by cases x <;> simp_all [notB])) h
theorem WalkR.gT {j d : Nat} {x : Bool} (hg : o.guard = some (j, true)) (hj : (ops[j]?).bind (·.dst) = some d) (hx : ∀ ρ, (A ρ).tmps[d]? = some (.bool x)) (hu : ∀ D ρ w, Knows ops k D → C D ρ w → C (done D k) (upd ρ o.dst undef) w)
    (hv : x = true → ∀ D ρ w, Knows ops k D → C D ρ w → gives P o (A ρ) w (fun v w' => v = c ∧ C (done D k) (upd ρ o.dst v) w')) (h : WalkR P ops C QN (k + 1) l (fun ρ => (A ρ).put o.dst (cnd x c))) : WalkR P ops C QN k (o :: l) A :=
  WalkR.opt x (fun ρ => by rw [wanted_at hg hj (hx ρ)]; cases x <;> rfl) hu hv h
/-- .. that holds x where a is so. -/
theorem WalkR.cF {j d : Nat} {a x : Bool} (hg : o.guard = some (j, false)) (hj : (ops[j]?).bind (·.dst) = some d) (hx : ∀ ρ, (A ρ).tmps[d]? = some (cnd a (.bool x))) (hu : ∀ D ρ w, Knows ops k D → C D ρ w → C (done D k) (upd ρ o.dst undef) w)
    (hv : a = true → x = false → ∀ D ρ w, Knows ops k D → C D ρ w → gives P o (A ρ) w (fun v w' => v = c ∧ C (done D k) (upd ρ o.dst v) w')) (h : WalkR P ops C QN (k + 1) l (fun ρ => (A ρ).put o.dst (cnd (andB a (notB x)) c))) : WalkR P ops C QN k (o :: l) A :=
  WalkR.opt (andB a (notB x)) (fun ρ => by rw [wanted_at hg hj (hx ρ)]; cases a <;> cases x <;> rfl) hu (fun h => hv (by cases a <;> simp_all [andB, notB]) (by cases a <;> cases x <;> simp_all [andB, notB])) h
theorem WalkR.cT {j d : Nat} {a x : Bool} (hg : o.guard = some (j, true)) (hj : (ops[j]?).bind (·.dst) = some d) (hx : ∀ ρ, (A ρ).tmps[d]? = some (cnd a (.bool x))) (hu : ∀ D ρ w, Knows ops k D → C D ρ w → C (done D k) (upd ρ o.dst undef) w)
    (hv : a = true → x = true → ∀ D ρ w, Knows ops k D → C D ρ w → gives P o (A ρ) w (fun v w' => v = c ∧ C (done D k) (upd ρ o.dst v) w')) (h : WalkR P ops C QN (k + 1) l (fun ρ => (A ρ).put o.dst (cnd (andB a x) c))) : WalkR P ops C QN k (o :: l) A :=
  WalkR.opt (andB a x) (fun ρ => by rw [wanted_at hg hj (hx ρ)]; cases a <;> cases x <;> rfl) hu (fun h => hv (by cases a <;> simp_all [andB, notB]) (by cases a <;> cases x <;> simp_all [andB, notB])) h
/-- An operation that makes something, guarded. -/
theorem WalkR.mbF {j d' d : Nat} {x : Bool} (hg : o.guard = some (j, false)) (hj : (ops[j]?).bind (·.dst) = some d') (hx : ∀ ρ, (A ρ).tmps[d']? = some (.bool x)) (hd : o.dst = some d) (hu : x = true → ∀ D ρ w, Knows ops k D → C D ρ w → C (done D k) (upd ρ o.dst undef) w)
    (hv : x = false → ∀ D ρ w, Knows ops k D → C D ρ w → gives P o (A ρ) w (fun v w' => C (done D k) (upd ρ o.dst v) w')) (h : WalkR P ops C QN (k + 1) l (fun ρ => (A ρ).put o.dst (ρ d))) : WalkR P ops C QN k (o :: l) A :=
  WalkR.mb (notB x) (fun ρ => by rw [wanted_at hg hj (hx ρ)]; cases x <;> rfl) hd (fun e => hu (by cases x <;> simp_all [notB])) (fun e => hv (by cases x <;> simp_all [notB])) h
theorem WalkR.mbT {j d' d : Nat} {x : Bool} (hg : o.guard = some (j, true)) (hj : (ops[j]?).bind (·.dst) = some d') (hx : ∀ ρ, (A ρ).tmps[d']? = some (.bool x)) (hd : o.dst = some d) (hu : x = false → ∀ D ρ w, Knows ops k D → C D ρ w → C (done D k) (upd ρ o.dst undef) w)
    (hv : x = true → ∀ D ρ w, Knows ops k D → C D ρ w → gives P o (A ρ) w (fun v w' => C (done D k) (upd ρ o.dst v) w')) (h : WalkR P ops C QN (k + 1) l (fun ρ => (A ρ).put o.dst (ρ d))) : WalkR P ops C QN k (o :: l) A :=
  WalkR.mb x (fun ρ => by rw [wanted_at hg hj (hx ρ)]; cases x <;> rfl) hd hu hv h
/-- A region in the text's order. -/
theorem wp_walk0 {id : Nat} {Q : Exit → Act → World → Prop} {a0 : Act} {w0 : World} (n : Nat) (hl : Region.linearise .any ops 0 = List.range ops.size) (hB : R4.regB ops n = true) (hn : a0.tmps.size = n) (hC : C (fun _ => false) (slot a0) w0)
    (h : WalkR P ops C (Q .normal) 0 ops.toList (fun _ => a0)) : (Code.region id ops false).wp P Q a0 w0 := by
  obtain ⟨ks, hSt⟩ := h
  have hw := walk_sound (Q := Q) (R4.regB_ok hB) hn hSt ops.size (Array.replicate ops.size false) a0 w0 ?_ ?_
  · have h2 := wpAny_sound ops.size 0 _ a0 _ hw
    refine wp_region ?_
    rw [← hl]
    exact h2
  · refine ⟨by simp, rfl, rfl, ?_, fun j o ho hl => by simp [Array.getElem?_replicate] at hl; split at hl <;> simp at hl, fun _ _ => rfl, fun j o kd ho hk hl => by simp [Array.getElem?_replicate] at hl; split at hl <;> simp at hl⟩
    have e : (fun j => (Array.replicate ops.size false).getD j false) = fun _ => false := by
      funext j
      simp [Array.getElem?_replicate]
      split <;> rfl
    rw [e]
    exact hC
  · simp [List.countP_replicate]
end
end R6
/-- Blocks that are known whole. -/
def kpt : List (Nat × Obj) → World → Prop
  | [], _ => True
  | e :: l, W => W.heap[e.1]? = some e.2 ∧ kpt l W
theorem kpt.next {W W' : World} (hg : Grows W W') : ∀ {K : List (Nat × Obj)}, kpt K W → kpt K W'
  | [], _ => trivial
  | _ :: _, h => ⟨(hg.block _ (lt_of_heap h.1)).trans h.1, kpt.next hg h.2⟩
theorem kpt.drew {W : World} : ∀ {K : List (Nat × Obj)}, kpt K W → kpt K W.drew
  | [], _ => trivial
  | _ :: _, h => ⟨h.1, kpt.drew h.2⟩
/-- A list that a region makes: by which operation, in which slot, where what is so, of which numbers. -/
structure MkE where
  k : Nat
  d : Nat
  b : Bool
  zs : List Int
def mkAt (I : List MkE) (k : Nat) : Option MkE := I.find? fun f => f.k == k
/-- What a region makes on its way. -/
structure MK (w0 : World) (K : List (Nat × Obj)) (I : List MkE) (D : Nat → Bool) (σ : Nat → Value) (W : World) : Prop where
  bel : Below w0.heap.size w0 W
  box : kpt K W
  new : ∀ k f, mkAt I k = some f → D k = true → f.b = true → ∃ b, σ f.d = .slice (some ⟨b, 0, none⟩) f.zs.length f.zs.length ∧ W.heap[b]? = some (.cells (ints f.zs).toArray 3 (0, 0))
def mkK (I : List MkE) (k : Nat) (d : Option Nat) : Bool := I.all fun f => f.k != k && d != some f.d
def mkO (I : List MkE) (k d : Nat) : Bool := I.all fun f => f.k == k || f.d != d
section
open R6 (done done_ne done_me upd_ne upd_me)
variable {w0 W W' : World} {K : List (Nat × Obj)} {I : List MkE} {D : Nat → Bool} {σ : Nat → Value}
theorem mkAt_mem {k : Nat} {f : MkE} (h : mkAt I k = some f) : f ∈ I ∧ f.k = k := ⟨List.mem_of_find?_eq_some h, by simpa using List.find?_some h⟩
theorem MK.move {k : Nat} {d : Option Nat} {v : Value} (h : MK w0 K I D σ W) (hk : mkK I k d = true) : MK w0 K I (done D k) (R4.upd σ d v) W := by
  refine ⟨h.bel, h.box, fun k' f hf hD hb => ?_⟩
  obtain ⟨hm, he⟩ := mkAt_mem hf
  have h2 := List.all_eq_true.1 hk f hm
  simp only [Bool.and_eq_true, bne_iff_ne, ne_eq] at h2
  rw [done_ne (by rw [← he]; exact h2.1)] at hD
  rw [upd_ne h2.2]
  exact h.new k' f hf hD hb
theorem MK.next (h : MK w0 K I D σ W) (hg : Grows W W') : MK w0 K I D σ W' :=
  ⟨h.bel.trans (hg.mono h.bel.size), h.box.next hg, fun k f hf hD hb => let ⟨b, e, hm⟩ := h.new k f hf hD hb; ⟨b, e, (hg.block _ (lt_of_heap hm)).trans hm⟩⟩
theorem MK.other {k d : Nat} {v : Value} (h : MK w0 K I D σ W) (hk : mkO I k d = true) (k' : Nat) (f : MkE) (hf : mkAt I k' = some f) (hne : k' ≠ k) (hD : done D k k' = true) (hb : f.b = true) :
    ∃ b, R4.upd σ (some d) v f.d = .slice (some ⟨b, 0, none⟩) f.zs.length f.zs.length ∧ W.heap[b]? = some (.cells (ints f.zs).toArray 3 (0, 0)) := by
  obtain ⟨hm, he⟩ := mkAt_mem hf
  have h2 := List.all_eq_true.1 hk f hm
  simp only [Bool.or_eq_true, beq_iff_eq, bne_iff_ne, ne_eq] at h2
  have h3 : ¬ f.d = d := by rcases h2 with h2 | h2; exact absurd (he.symm.trans h2) hne; exact h2
  rw [done_ne hne] at hD
  rw [upd_ne (fun e => h3 (Option.some.inj e).symm)]
  exact h.new k' f hf hD hb
theorem MK.made {k d : Nat} {b : Bool} {zs : List Int} {v : Value} {g : Nat} (h : MK w0 K I D σ W) (hf : mkAt I k = some ⟨k, d, b, zs⟩) (hk : mkO I k d = true) (hg : Grows W W') (hv : v = .slice (some ⟨g, 0, none⟩) zs.length zs.length) (hm : W'.heap[g]? = some (.cells (ints zs).toArray 3 (0, 0))) :
    MK w0 K I (done D k) (R4.upd σ (some d) v) W' := by
  have h' := h.next hg
  refine ⟨h'.bel, h'.box, fun k' f hf' hD hb => ?_⟩
  by_cases e : k' = k
  · subst e
    rw [hf] at hf'
    cases hf'
    exact ⟨g, by rw [upd_me]; exact hv, hm⟩
  · exact h'.other hk k' f hf' e hD hb
theorem MK.made1 {k d : Nat} {b : Bool} {z : Int} (h : MK w0 K I D σ W) (hf : mkAt I k = some ⟨k, d, b, [z]⟩) (hk : mkO I k d = true) : MK w0 K I (done D k) (R4.upd σ (some d) (.slice (some ⟨W.heap.size, 0, none⟩) 1 1)) (W.alloc (.cells #[.int .i64 z] 3)) :=
  h.made hf hk (grow1 _ _) rfl (alloc_at0 _ _)
/-- .. it isn't made. -/
theorem MK.left {k d : Nat} {b : Bool} {zs : List Int} {v : Value} (h : MK w0 K I D σ W) (hf : mkAt I k = some ⟨k, d, b, zs⟩) (hb : b = false) (hk : mkO I k d = true) : MK w0 K I (done D k) (R4.upd σ (some d) v) W := by
  refine ⟨h.bel, h.box, fun k' f hf' hD hb' => ?_⟩
  by_cases e : k' = k
  · subst e
    rw [hf] at hf'
    cases hf'
    rw [hb] at hb'
    cases hb'
  · exact h.other hk k' f hf' e hD hb'
theorem MK.get {k d : Nat} {b : Bool} {zs : List Int} (h : MK w0 K I D σ W) (hf : mkAt I k = some ⟨k, d, b, zs⟩) (hD : D k = true) (hb : b = true) : ∃ g, σ d = .slice (some ⟨g, 0, none⟩) zs.length zs.length ∧ W.heap[g]? = some (.cells (ints zs).toArray 3 (0, 0)) := h.new k _ hf hD hb
theorem MK.start (hb : Below w0.heap.size w0 W) (hK : kpt K W) (hD : ∀ k, D k = false) : MK w0 K I D σ W := ⟨hb, hK, fun k f _ h => by rw [hD] at h; cases h⟩
end
end Go.Proofs.Ytjjipkgconmfcaa

namespace Go.Proofs.Ytjjipkgconmfcaa
open Go.RowKit
open R6 (done done_ne done_me upd_ne upd_me)

/-- What is known of a value stays so while memory grows. -/
def Stab (kp : Nat → Value → World → Prop) : Prop := ∀ c v W W', Grows W W' → kp c v W → kp c v W'
/-- A region whose operations tell things by slots (operation, slot, kind). -/
structure ResF (w0 : World) (K : List (Nat × Obj)) (kp : Nat → Value → World → Prop) (I : List (Nat × Nat × Nat)) (D : Nat → Bool) (σ : Nat → Value) (W : World) : Prop where
  bel : Below w0.heap.size w0 W
  keep : kpt K W
  res : ∀ f ∈ I, D f.1 = true → kp f.2.2 (σ f.2.1) W
def resF (I : List (Nat × Nat × Nat)) (k : Nat) (d : Option Nat) : Bool := I.all fun f => f.1 != k && d != some f.2.1
def madeF (I : List (Nat × Nat × Nat)) (k d c : Nat) : Bool := I.all fun f => (f.1 == k && f.2.1 == d && f.2.2 == c) || (f.1 != k && f.2.1 != d)
section
variable {w0 W W' : World} {K : List (Nat × Obj)} {kp : Nat → Value → World → Prop} {I : List (Nat × Nat × Nat)} {D : Nat → Bool} {σ : Nat → Value}
theorem ResF.next {k : Nat} {d : Option Nat} {v : Value} (h : ResF w0 K kp I D σ W) (hS : Stab kp) (hg : Grows W W') (hk : resF I k d = true) : ResF w0 K kp I (done D k) (R4.upd σ d v) W' := by
  refine ⟨h.bel.trans (hg.mono h.bel.size), kpt.next hg h.keep, fun f hf hd => ?_⟩
  have hf2 := List.all_eq_true.1 hk f hf
  simp only [Bool.and_eq_true, bne_iff_ne, ne_eq] at hf2
  rw [done_ne hf2.1] at hd
  rw [upd_ne hf2.2]
  exact hS _ _ _ _ hg (h.res f hf hd)
theorem ResF.move {k : Nat} {d : Option Nat} {v : Value} (h : ResF w0 K kp I D σ W) (hk : resF I k d = true) : ResF w0 K kp I (done D k) (R4.upd σ d v) W := by
  refine ⟨h.bel, h.keep, fun f hf hd => ?_⟩
  have hf2 := List.all_eq_true.1 hk f hf
  simp only [Bool.and_eq_true, bne_iff_ne, ne_eq] at hf2
  rw [done_ne hf2.1] at hd
  rw [upd_ne hf2.2]
  exact h.res f hf hd
theorem ResF.made {k d c : Nat} {v : Value} (h : ResF w0 K kp I D σ W) (hS : Stab kp) (hg : Grows W W') (hk : madeF I k d c = true) (hv : kp c v W') : ResF w0 K kp I (done D k) (R4.upd σ (some d) v) W' := by
  refine ⟨h.bel.trans (hg.mono h.bel.size), kpt.next hg h.keep, fun f hf hd => ?_⟩
  have hf2 := List.all_eq_true.1 hk f hf
  simp only [Bool.or_eq_true, Bool.and_eq_true, beq_iff_eq, bne_iff_ne, ne_eq] at hf2
  rcases hf2 with ⟨⟨_, h2⟩, h3⟩ | ⟨h1, h2⟩
  · rw [h2, h3, upd_me]; exact hv
  · rw [done_ne h1] at hd
    rw [upd_ne (fun e => h2 (Option.some.inj e).symm)]
    exact hS _ _ _ _ hg (h.res f hf hd)
theorem ResF.get (h : ResF w0 K kp I D σ W) {k d c : Nat} (hm : (k, d, c) ∈ I) (hd : D k = true) : kp c (σ d) W := h.res (k, d, c) hm hd
theorem ResF.start (hb : Below w0.heap.size w0 W) (hK : kpt K W) (hD : ∀ k, D k = false) : ResF w0 K kp I D σ W.drew := ⟨hb.drew, kpt.drew hK, fun f _ h => by rw [hD] at h; cases h⟩
end

end Go.Proofs.Ytjjipkgconmfcaa

namespace Go.Proofs.Ytjjipkgconmfcaa
open Go.RowKit

/-- The first index at which something is so, -1 if there is none. -/
def idxL {α : Type} (P : α → Bool) : List α → Nat → Int
  | [], _ => -1
  | x :: l, i => if P x = true then (i : Int) else idxL P l (i + 1)
theorem idxL_step {α : Type} {P : α → Bool} {zs : List α} {k : Nat} (hk : k < zs.length) : idxL P (zs.drop k) k = if P zs[k] = true then (k : Int) else idxL P (zs.drop (k + 1)) (k + 1) := by
  rw [List.drop_eq_getElem_cons hk]; rfl
theorem idxL_iff {α : Type} {P : α → Bool} : ∀ (l : List α) (i : Nat), 0 ≤ idxL P l i ↔ l.any P = true
  | [], _ => by simp [idxL]
  | x :: l, i => by
    have ih := idxL_iff (P := P) l (i + 1)
    by_cases h : P x = true
    · have e : idxL P (x :: l) i = (i : Int) := by simp [idxL, h]
      rw [e, List.any_cons, h]
      simp
    · have e : idxL P (x :: l) i = idxL P l (i + 1) := by simp [idxL, h]
      rw [e, List.any_cons, show P x = false by simpa using h, Bool.false_or]
      exact ih
theorem idxL_any {α : Type} {P : α → Bool} (l : List α) (i : Nat) : decide (0 ≤ idxL P l i) = l.any P := by
  rw [Bool.eq_iff_iff, decide_eq_true_iff]
  exact idxL_iff l i
theorem idxL_bnd {α : Type} {P : α → Bool} : ∀ (l : List α) (i : Nat), -1 ≤ idxL P l i ∧ idxL P l i < i + l.length
  | [], i => by simp [idxL]; omega
  | x :: l, i => by
    have := idxL_bnd (P := P) l (i + 1)
    simp only [idxL, List.length_cons]
    split <;> omega

def outB (lo hi n : Int) : Bool := decide (n < lo) || decide (hi < n)

/-- All numbers are in a span. -/
def allB (lo hi : Int) (zs : List Int) : Bool := zs.all fun n => inR n lo hi
theorem allB_any (lo hi : Int) (zs : List Int) : allB lo hi zs = !zs.any (outB lo hi) := by
  unfold allB
  rw [Bool.eq_iff_iff]
  simp only [List.all_eq_true, Bool.not_eq_true', List.any_eq_false, inR_iff, outB, Bool.or_eq_true, decide_eq_true_eq, not_or]
  constructor
  · intro h x hx; have := h x hx; omega
  · intro h x hx; have := h x hx; omega

end Go.Proofs.Ytjjipkgconmfcaa
