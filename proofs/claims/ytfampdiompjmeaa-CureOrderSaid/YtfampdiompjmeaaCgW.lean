/-
  Poles turned, plain; a region that lays a list of slices anew, turned (for CureOrder).
-/
import Derived.Test.YtfampdiompjmeaaCfC
namespace Go.Proofs.Ytfampdiompjmeaa
open Go.RowKit Go.Shelf


/-- A list turned: from some place on, then what was before it. -/
def rot {α : Type} (k : Nat) (l : List α) : List α := l.drop k ++ l.take k
theorem rot_len {α : Type} (k : Nat) (l : List α) : (rot k l).length = l.length := by simp [rot]; omega
theorem rot_map {α β : Type} (f : α → β) (k : Nat) (l : List α) : (rot k l).map f = rot k (l.map f) := by simp [rot]
theorem rot_sum (k : Nat) (l : List Int) : (rot k l).sum = l.sum := by
  have h := congrArg List.sum (List.take_append_drop k l)
  rw [List.sum_append] at h
  simp only [rot, List.sum_append]
  omega
theorem rot_all {α : Type} (P : α → Bool) (k : Nat) (l : List α) : (rot k l).all P = l.all P := by
  have h : (l.take k ++ l.drop k).all P = l.all P := by rw [List.take_append_drop]
  rw [List.all_append] at h
  simp only [rot, List.all_append]
  rw [Bool.and_comm]
  exact h
theorem rot_get {α : Type} (k : Nat) (l : List α) {p : Nat} (hk : k ≤ l.length) (hp : p < l.length) : (rot k l)[p]? = l[if p + k < l.length then p + k else p + k - l.length]? := by
  unfold rot
  by_cases h : p + k < l.length
  · rw [if_pos h, List.getElem?_append_left (by simp; omega), List.getElem?_drop, Nat.add_comm]
  · rw [if_neg h, List.getElem?_append_right (by simp; omega), List.length_drop, List.getElem?_take_of_lt (by omega), show p - (l.length - k) = p + k - l.length by omega]
theorem rot_range {α : Type} (f : Nat → α) (n k : Nat) (hk : k ≤ n) : (List.range n).map (fun p => f (if p + k < n then p + k else p + k - n)) = rot k ((List.range n).map f) := by
  apply List.ext_getElem? 
  intro p
  by_cases hp : p < n
  · rw [rot_get k _ (by simpa using hk) (by simpa using hp)]
    simp only [List.length_map, List.length_range]
    have h2 : (if p + k < n then p + k else p + k - n) < n := by split <;> omega
    rw [List.getElem?_map, List.getElem?_map, List.getElem?_range hp, List.getElem?_range h2]
    rfl
  · rw [List.getElem?_eq_none (by simpa using hp), List.getElem?_eq_none (by rw [rot_len]; simpa using hp)]

theorem hourS_rot (W sp : Int) (k : Nat) (b : Int) (ws : List (List Int)) : hourS W sp (b, rot k ws) = ((hourS W sp (b, ws)).1, rot k (hourS W sp (b, ws)).2) := by
  unfold hourS hourB
  simp only [rot_map, rot_sum]
theorem runS_rot (W sp : Int) (k : Nat) (b : Int) (ws : List (List Int)) : ∀ n, runS W sp (b, rot k ws) n = ((runS W sp (b, ws) n).1, rot k (runS W sp (b, ws) n).2)
  | 0 => rfl
  | n + 1 => by
    show hourS W sp (runS W sp (b, rot k ws) n) = _
    rw [runS_rot W sp k b ws n, hourS_rot]
    rfl
theorem okBatch_rot (t : Bt) (k : Nat) (ws : List (List Int)) : okBatch t (rot k ws) = okBatch t ws := by
  unfold okBatch
  rw [rot_len, rot_all]
theorem rowAt_rot {k : Nat} {ws : List (List Int)} {p : Nat} (hk : k ≤ ws.length) (hp : p < ws.length) : rowAt (rot k ws) p = rowAt ws (if p + k < ws.length then p + k else p + k - ws.length) := by
  unfold rowAt
  rw [rot_get k ws hk hp]
theorem hitB_rot {W sp need b : Int} {k : Nat} {ws : List (List Int)} {p : Nat} (hk : k ≤ ws.length) (hp : p < ws.length) (j : Nat) :
    hitB W sp need (b, rot k ws) p j = hitB W sp need (b, ws) (if p + k < ws.length then p + k else p + k - ws.length) j := by
  have hl : (runS W sp (b, ws) j).2.length = ws.length := lens_len (lens_run W sp (b, ws) j)
  unfold hitB coreOf
  rw [runS_rot]
  simp only
  rw [rowAt_rot (by omega) (by omega), hl]
theorem inS_rot {t : Bt} {ws : List (List Int)} {k h : Nat} {s : Int} {p : Nat} (hk : k ≤ ws.length) (hp : p < ws.length) :
    inS t (rot k ws) h s p = inS t ws h s (if p + k < ws.length then p + k else p + k - ws.length) := by
  unfold inS
  rw [show hitB t.water s t.need (t.borax, rot k ws) p = hitB t.water s t.need (t.borax, ws) (if p + k < ws.length then p + k else p + k - ws.length) from funext fun j => hitB_rot hk hp j]
theorem knownL_rot (t : Bt) (ws : List (List Int)) (k h : Nat) (hk : k ≤ ws.length) : knownL t (rot k ws) h = rot k (knownL t ws h) := by
  unfold knownL
  rw [← rot_range _ _ _ hk, rot_len]
  refine List.map_congr_left fun p hp => ?_
  have hp := List.mem_range.1 hp
  rw [show (fun s => inS t (rot k ws) h s p) = fun s => inS t ws h s (if p + k < ws.length then p + k else p + k - ws.length) from funext fun s => inS_rot hk hp]
theorem runE_rot (t : Bt) (k : Nat) (ws : List (List Int)) (sp h : Int) : runE t (rot k ws) sp h = runE t ws sp h := by unfold runE; rw [okBatch_rot]
theorem runB_rot (t : Bt) (k : Nat) (ws : List (List Int)) (sp h : Int) : runB t (rot k ws) sp h = runB t ws sp h := by unfold runB; rw [runE_rot, runS_rot]
theorem runR_rot (t : Bt) (k : Nat) (ws : List (List Int)) (sp h : Int) : runR t (rot k ws) sp h = rot k (runR t ws sp h) := by
  unfold runR
  rw [runE_rot, runS_rot]
  split
  · rfl
  · simp [rot]
theorem treatE_rot (t : Bt) (k : Nat) (ws : List (List Int)) (h : Int) : treatE t (rot k ws) h = treatE t ws h := by unfold treatE; rw [okBatch_rot]
theorem treatL_rot (t : Bt) (k : Nat) (ws : List (List Int)) (h : Int) (hk : k ≤ ws.length) : treatL t (rot k ws) h = rot k (treatL t ws h) := by
  unfold treatL
  rw [treatE_rot]
  split
  · exact knownL_rot t ws k _ hk
  · simp [rot]
/-- The rows that lie in a turned list of slices. -/
theorem rws_rot (k : Nat) (l : List Sl) : rws (rot k l) = rot k (rws l) := rot_map _ _ _
theorem slvs_rot (k : Nat) (l : List Sl) : slvs (rot k l) = (slvs l).drop k ++ (slvs l).take k := by simp [slvs, rot]

open R6 (done done_ne done_me upd_ne upd_me)

attribute [local go_sem] gives

/-- Where a region is that appends two lists to an empty one of its own (and stores it, if bx). -/
structure TurnC (B b0 nb : Nat) (w1 : World) (xs ys : List Value) (bx : Bool) (X : List Value) (ty : TypeId) (k0 t0 k1 t1 k2 t2 k3 : Nat) (D : Nat → Bool) (σ : Nat → Value) (W : World) : Prop where
  bel : Below B w1 W
  lb : b0 ≤ W.heap.size
  e0 : D k0 = true → D k1 = false → W.ownsRow b0 47 1 (σ t0) 0 []
  e1 : D k1 = true → D k2 = false → W.ownsRow b0 47 1 (σ t1) xs.length xs
  e2 : D k2 = true → W.ownsRow b0 47 1 (σ t2) (xs.length + ys.length) (xs ++ ys)
  x0 : bx = true → D k3 = false → W.heap[nb]? = some (.cells X.toArray ty (0, 0))
  x1 : bx = true → D k3 = true → W.heap[nb]? = some (.cells (X.set 2 (σ t2)).toArray ty (0, 0))
def turnK (k0 t0 k1 t1 k2 t2 k3 k : Nat) (d : Option Nat) : Bool := !(k == k0 || k == k1 || k == k2 || k == k3 || d == some t0 || d == some t1 || d == some t2)
def turnN (k0 t0 k1 t1 k2 t2 k3 : Nat) : Bool := !(k0 == k1 || k0 == k2 || k0 == k3 || k1 == k2 || k1 == k3 || k2 == k3 || t0 == t1 || t0 == t2 || t1 == t2)
section
variable {B b0 nb : Nat} {w1 W W' : World} {xs ys : List Value} {bx : Bool} {X : List Value} {ty : TypeId} {k0 t0 k1 t1 k2 t2 k3 : Nat} {D : Nat → Bool} {σ : Nat → Value}
theorem TurnC.move {k : Nat} {d : Option Nat} {u : Value} (h : TurnC B b0 nb w1 xs ys bx X ty k0 t0 k1 t1 k2 t2 k3 D σ W) (hk : turnK k0 t0 k1 t1 k2 t2 k3 k d = true) : TurnC B b0 nb w1 xs ys bx X ty k0 t0 k1 t1 k2 t2 k3 (done D k) (R4.upd σ d u) W := by
  simp only [turnK, Bool.not_eq_true', Bool.or_eq_false_iff, beq_eq_false_iff_ne, ne_eq] at hk
  obtain ⟨⟨⟨⟨⟨⟨a0, a1⟩, a2⟩, a3⟩, d0⟩, d1⟩, d2⟩ := hk
  have f0 := done_ne (D := D) (k := k) (j := k0) (by omega)
  have f1 := done_ne (D := D) (k := k) (j := k1) (by omega)
  have f2 := done_ne (D := D) (k := k) (j := k2) (by omega)
  have f3 := done_ne (D := D) (k := k) (j := k3) (by omega)
  have u0 := upd_ne (ρ := σ) (v := u) d0
  have u1 := upd_ne (ρ := σ) (v := u) d1
  have u2 := upd_ne (ρ := σ) (v := u) d2
  exact ⟨h.bel, h.lb, by rw [f0, f1, u0]; exact h.e0, by rw [f1, f2, u1]; exact h.e1, by rw [f2, u2]; exact h.e2, by rw [f3]; exact h.x0, by rw [f3, u2]; exact h.x1⟩
theorem TurnC.next {k : Nat} {d : Option Nat} {u : Value} (h : TurnC B b0 nb w1 xs ys bx X ty k0 t0 k1 t1 k2 t2 k3 D σ W) (hB : B ≤ b0) (hg : Grows W W') (hk : turnK k0 t0 k1 t1 k2 t2 k3 k d = true) : TurnC B b0 nb w1 xs ys bx X ty k0 t0 k1 t1 k2 t2 k3 (done D k) (R4.upd σ d u) W' := by
  have h' : TurnC B b0 nb w1 xs ys bx X ty k0 t0 k1 t1 k2 t2 k3 D σ W' :=
    ⟨h.bel.trans (hg.mono (Nat.le_trans hB h.lb)), Nat.le_trans h.lb hg.size, fun a b => own_grows (h.e0 a b) hg, fun a b => own_grows (h.e1 a b) hg, fun a => own_grows (h.e2 a) hg,
      fun a b => (hg.block _ (lt_of_heap (h.x0 a b))).trans (h.x0 a b), fun a b => (hg.block _ (lt_of_heap (h.x1 a b))).trans (h.x1 a b)⟩
  exact h'.move hk
theorem TurnC.built (h : TurnC B b0 nb w1 xs ys bx X ty k0 t0 k1 t1 k2 t2 k3 D σ W) (hn : turnN k0 t0 k1 t1 k2 t2 k3 = true) (hB : B ≤ b0) (h1 : D k1 = false) (h2 : D k2 = false) (h3 : bx = true → D k3 = false) :
    TurnC B b0 nb w1 xs ys bx X ty k0 t0 k1 t1 k2 t2 k3 (done D k0) (R4.upd σ (some t0) (.slice (some ⟨W.heap.size, 0, none⟩) 0 0)) (W.alloc (.cells #[] 47)) := by
  simp only [turnN, Bool.not_eq_true', Bool.or_eq_false_iff, beq_eq_false_iff_ne, ne_eq] at hn
  have f1 := done_ne (D := D) (k := k0) (j := k1) (by omega)
  have f2 := done_ne (D := D) (k := k0) (j := k2) (by omega)
  have f3 := done_ne (D := D) (k := k0) (j := k3) (by omega)
  have hg : Grows W (W.alloc (.cells #[] 47)) := grow1 _ _
  refine ⟨h.bel.trans (hg.mono (Nat.le_trans hB h.lb)), Nat.le_trans h.lb hg.size, fun _ _ => ?_, ?_, ?_, ?_, ?_⟩
  · rw [upd_me]; exact own_empty (alloc_at0 _ _) h.lb
  · rw [f1, h1]; intro e; cases e
  · rw [f2, h2]; intro e; cases e
  · rw [f3]; exact fun a b => (hg.block _ (lt_of_heap (h.x0 a b))).trans (h.x0 a b)
  · rw [f3]; intro a e; rw [h3 a] at e; cases e
theorem TurnC.app1 (h : TurnC B b0 nb w1 xs ys bx X ty k0 t0 k1 t1 k2 t2 k3 D σ W) (hn : turnN k0 t0 k1 t1 k2 t2 k3 = true) (hB : B ≤ b0) (hnb : bx = true → nb < b0) (h0 : D k0 = true) (h1 : D k1 = false) (h2 : D k2 = false) (h3 : bx = true → D k3 = false) {v' : Value}
    (ho : W'.ownsRow b0 47 1 v' xs.length xs) (hg : W.grownBy W' (σ t0).ownBlock) : TurnC B b0 nb w1 xs ys bx X ty k0 t0 k1 t1 k2 t2 k3 (done D k1) (R4.upd σ (some t1) v') W' := by
  simp only [turnN, Bool.not_eq_true', Bool.or_eq_false_iff, beq_eq_false_iff_ne, ne_eq] at hn
  have f2 := done_ne (D := D) (k := k1) (j := k2) (by omega)
  have f3 := done_ne (D := D) (k := k1) (j := k3) (by omega)
  have hob := fun q e => (own_blockType (h.e0 h0 h1) (b := q) e).choose_spec.2
  refine ⟨h.bel.grown hg (Nat.le_trans hB h.lb) (fun q e => Nat.le_trans hB (hob q e)), Nat.le_trans h.lb hg.size, fun _ e => ?_, fun _ _ => ?_, ?_, ?_, ?_⟩
  · rw [done_me] at e; cases e
  · rw [upd_me]; exact ho
  · rw [f2, h2]; intro e; cases e
  · rw [f3]; exact fun a b => (hg.block _ (lt_of_heap (h.x0 a b)) (fun e => by have := hob nb e.symm; have := hnb a; omega)).trans (h.x0 a b)
  · rw [f3]; intro a e; rw [h3 a] at e; cases e
theorem TurnC.app2 (h : TurnC B b0 nb w1 xs ys bx X ty k0 t0 k1 t1 k2 t2 k3 D σ W) (hn : turnN k0 t0 k1 t1 k2 t2 k3 = true) (hB : B ≤ b0) (hnb : bx = true → nb < b0) (h1 : D k1 = true) (h2 : D k2 = false) (h3 : bx = true → D k3 = false) {v' : Value}
    (ho : W'.ownsRow b0 47 1 v' (xs.length + ys.length) (xs ++ ys)) (hg : W.grownBy W' (σ t1).ownBlock) : TurnC B b0 nb w1 xs ys bx X ty k0 t0 k1 t1 k2 t2 k3 (done D k2) (R4.upd σ (some t2) v') W' := by
  simp only [turnN, Bool.not_eq_true', Bool.or_eq_false_iff, beq_eq_false_iff_ne, ne_eq] at hn
  have f1 := done_ne (D := D) (k := k2) (j := k1) (by omega)
  have f3 := done_ne (D := D) (k := k2) (j := k3) (by omega)
  have hob := fun q e => (own_blockType (h.e1 h1 h2) (b := q) e).choose_spec.2
  refine ⟨h.bel.grown hg (Nat.le_trans hB h.lb) (fun q e => Nat.le_trans hB (hob q e)), Nat.le_trans h.lb hg.size, ?_, fun _ e => ?_, fun _ => ?_, ?_, ?_⟩
  · rw [f1, h1]; intro _ e; cases e
  · rw [done_me] at e; cases e
  · rw [upd_me]; exact ho
  · rw [f3]; exact fun a b => (hg.block _ (lt_of_heap (h.x0 a b)) (fun e => by have := hob nb e.symm; have := hnb a; omega)).trans (h.x0 a b)
  · rw [f3]; intro a e; rw [h3 a] at e; cases e
theorem TurnC.put {u : Value} (h : TurnC B b0 nb w1 xs ys bx X ty k0 t0 k1 t1 k2 t2 k3 D σ W) (hn : turnN k0 t0 k1 t1 k2 t2 k3 = true) (hB : B ≤ nb) (hnb : nb < b0) (h1 : D k1 = true) (h2 : D k2 = true) (hp : Put W W' nb) (hM : W'.heap[nb]? = some (.cells (X.set 2 (σ t2)).toArray ty (0, 0))) :
    TurnC B b0 nb w1 xs ys bx X ty k0 t0 k1 t1 k2 t2 k3 (done D k3) (R4.upd σ none u) W' := by
  simp only [turnN, Bool.not_eq_true', Bool.or_eq_false_iff, beq_eq_false_iff_ne, ne_eq] at hn
  have f1 := done_ne (D := D) (k := k3) (j := k1) (by omega)
  have f2 := done_ne (D := D) (k := k3) (j := k2) (by omega)
  have u2 := upd_ne (ρ := σ) (d := none) (t := t2) (v := u) (by simp)
  refine ⟨h.bel.trans (hp.below hB), by rw [hp.size]; exact h.lb, ?_, ?_, ?_, fun _ e => ?_, fun _ _ => ?_⟩
  · rw [f1, h1]; intro _ e; cases e
  · rw [f2, h2]; intro _ e; cases e
  · rw [f2, u2]
    exact fun e => own_keeps (h.e2 e) (hp.keepsX (fun j => j = nb) rfl) (fun q hq _ e => by omega)
  · rw [done_me] at e; cases e
  · rw [u2]; exact hM
theorem TurnC.start (hb : Below B w1 W) (hl : b0 ≤ W.heap.size) (hx : bx = true → W.heap[nb]? = some (.cells X.toArray ty (0, 0))) (hD : ∀ k, D k = false) : TurnC B b0 nb w1 xs ys bx X ty k0 t0 k1 t1 k2 t2 k3 D σ W.drew :=
  ⟨hb.drew, hl, fun e => absurd (hD k0) (by rw [e]; decide), fun e => absurd (hD k1) (by rw [e]; decide), fun e => absurd (hD k2) (by rw [e]; decide), fun a _ => hx a, fun _ e => absurd (hD k3) (by rw [e]; decide)⟩
end

end Go.Proofs.Ytfampdiompjmeaa
