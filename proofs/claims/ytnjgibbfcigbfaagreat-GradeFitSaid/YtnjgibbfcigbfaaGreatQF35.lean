import Derived.Test.YtnjgibbfcigbfaaGreatQF1
set_option linter.all false
namespace Go.Proofs.YtnjgibbfcigbfaaGreat
def cnd (b : Bool) (v : Value) : Value := if b = true then v else undef
def notB (b : Bool) : Bool := !b
def andB (a b : Bool) : Bool := a && b
def orB (a b : Bool) : Bool := a || b
theorem zOm (v : Value) : cnd true v = v := rfl
theorem zGm : notB false = true := rfl
theorem zIc (b : Bool) : andB true b = b := rfl
theorem zGn (b : Bool) : andB b true = b := by cases b <;> rfl
theorem zQe (b : Bool) : andB b false = false := by cases b <;> rfl
theorem zGo (x y : Bool) : (if x = true then Value.bool true else cnd (notB x) (.bool y)) = .bool (orB x y) := by cases x <;> rfl
theorem zEe (x y : Bool) : (if x = true then cnd x (.bool y) else Value.bool false) = .bool (andB x y) := by cases x <;> rfl
theorem zDk (p : Prop) [Decidable p] (y : Bool) : (if p then cnd (decide p) (.bool y) else Value.bool false) = .bool (andB (decide p) y) := by by_cases h : p <;> simp [h, cnd, andB]
theorem zEf (b y : Bool) : (if b = false then Value.bool true else cnd (notB !b) (.bool y)) = .bool (orB (!b) y) := by cases b <;> rfl
theorem zFv {o : Oper} {ops : Array Oper} {tmps : Array Value} {j d : Nat} {want : Bool} {v : Value} (hg : o.guard = some (j, want)) (hj : (ops[j]?).bind (·.dst) = some d) (hx : tmps[d]? = some v) :
 Region.wanted o (yielded ops tmps) = (match v with | .bool b => b == want | _ => false) := by
 unfold Region.wanted yielded; rw [hg]; simp only [hj, Option.bind_some, hx]; cases v <;> rfl
namespace R6
open R4 (upd zCg)
section
variable {P : Program} {ops : Array Oper} {C : (Nat → Bool) → (Nat → Value) → World → Prop} {QN : Act → World → Prop} {k : Nat} {o : Oper} {l : List Oper} {A : (Nat → Value) → Act} {c : Value}
theorem WalkR.opt (b : Bool) (hw : ∀ ρ, Region.wanted o (yielded ops (A ρ).tmps) = b) (hu : ∀ D ρ w, Knows ops k D → C D ρ w → C (done D k) (upd ρ o.dst undef) w)
 (hg : b = true → ∀ D ρ w, Knows ops k D → C D ρ w → gives P o (A ρ) w (fun v w' => v = c ∧ C (done D k) (upd ρ o.dst v) w')) (h : WalkR P ops C QN (k + 1) l (fun ρ => (A ρ).put o.dst (cnd b c))) : WalkR P ops C QN k (o :: l) A := by
 cases b
 · exact WalkR.un hw hu h
 · exact WalkR.det hw (hg rfl) h
theorem WalkR.gF {j d : Nat} {x : Bool} (hg : o.guard = some (j, false)) (hj : (ops[j]?).bind (·.dst) = some d) (hx : ∀ ρ, (A ρ).tmps[d]? = some (.bool x)) (hu : ∀ D ρ w, Knows ops k D → C D ρ w → C (done D k) (upd ρ o.dst undef) w)
 (hv : x = false → ∀ D ρ w, Knows ops k D → C D ρ w → gives P o (A ρ) w (fun v w' => v = c ∧ C (done D k) (upd ρ o.dst v) w')) (h : WalkR P ops C QN (k + 1) l (fun ρ => (A ρ).put o.dst (cnd (notB x) c))) : WalkR P ops C QN k (o :: l) A :=
 WalkR.opt (notB x) (fun ρ => by rw [zFv hg hj (hx ρ)]; cases x <;> rfl) hu (fun h => hv (by cases x <;> simp_all [notB])) h
theorem WalkR.gT {j d : Nat} {x : Bool} (hg : o.guard = some (j, true)) (hj : (ops[j]?).bind (·.dst) = some d) (hx : ∀ ρ, (A ρ).tmps[d]? = some (.bool x)) (hu : ∀ D ρ w, Knows ops k D → C D ρ w → C (done D k) (upd ρ o.dst undef) w)
 (hv : x = true → ∀ D ρ w, Knows ops k D → C D ρ w → gives P o (A ρ) w (fun v w' => v = c ∧ C (done D k) (upd ρ o.dst v) w')) (h : WalkR P ops C QN (k + 1) l (fun ρ => (A ρ).put o.dst (cnd x c))) : WalkR P ops C QN k (o :: l) A :=
 WalkR.opt x (fun ρ => by rw [zFv hg hj (hx ρ)]; cases x <;> rfl) hu hv h
theorem WalkR.cF {j d : Nat} {a x : Bool} (hg : o.guard = some (j, false)) (hj : (ops[j]?).bind (·.dst) = some d) (hx : ∀ ρ, (A ρ).tmps[d]? = some (cnd a (.bool x))) (hu : ∀ D ρ w, Knows ops k D → C D ρ w → C (done D k) (upd ρ o.dst undef) w)
 (hv : a = true → x = false → ∀ D ρ w, Knows ops k D → C D ρ w → gives P o (A ρ) w (fun v w' => v = c ∧ C (done D k) (upd ρ o.dst v) w')) (h : WalkR P ops C QN (k + 1) l (fun ρ => (A ρ).put o.dst (cnd (andB a (notB x)) c))) : WalkR P ops C QN k (o :: l) A :=
 WalkR.opt (andB a (notB x)) (fun ρ => by rw [zFv hg hj (hx ρ)]; cases a <;> cases x <;> rfl) hu (fun h => hv (by cases a <;> simp_all [andB, notB]) (by cases a <;> cases x <;> simp_all [andB, notB])) h
theorem WalkR.cT {j d : Nat} {a x : Bool} (hg : o.guard = some (j, true)) (hj : (ops[j]?).bind (·.dst) = some d) (hx : ∀ ρ, (A ρ).tmps[d]? = some (cnd a (.bool x))) (hu : ∀ D ρ w, Knows ops k D → C D ρ w → C (done D k) (upd ρ o.dst undef) w)
 (hv : a = true → x = true → ∀ D ρ w, Knows ops k D → C D ρ w → gives P o (A ρ) w (fun v w' => v = c ∧ C (done D k) (upd ρ o.dst v) w')) (h : WalkR P ops C QN (k + 1) l (fun ρ => (A ρ).put o.dst (cnd (andB a x) c))) : WalkR P ops C QN k (o :: l) A :=
 WalkR.opt (andB a x) (fun ρ => by rw [zFv hg hj (hx ρ)]; cases a <;> cases x <;> rfl) hu (fun h => hv (by cases a <;> simp_all [andB, notB]) (by cases a <;> cases x <;> simp_all [andB, notB])) h
theorem wp_walk0 {id : Nat} {Q : Exit → Act → World → Prop} {a0 : Act} {w0 : World} (n : Nat) (hl : Region.linearise .any ops 0 = List.range ops.size) (hB : R4.regB ops n = true) (hn : a0.tmps.size = n) (hC : C (fun _ => false) (slot a0) w0)
 (h : WalkR P ops C (Q .normal) 0 ops.toList (fun _ => a0)) : (Code.region id ops false).wp P Q a0 w0 := by
 obtain ⟨ks, hSt⟩ := h; have hw := walk_sound (Q := Q) (R4.regB_ok hB) hn hSt ops.size (Array.replicate ops.size false) a0 w0 ?_ ?_
 · have h2 := wpAny_sound ops.size 0 _ a0 _ hw; refine wp_region ?_; rw [← hl]; exact h2
 · refine ⟨by simp, rfl, rfl, ?_, fun j o ho hl => by simp [Array.getElem?_replicate] at hl; split at hl <;> simp at hl, fun _ _ => rfl, fun j o kd ho hk hl => by simp [Array.getElem?_replicate] at hl; split at hl <;> simp at hl⟩
   have e : (fun j => (Array.replicate ops.size false).getD j false) = fun _ => false := by
    funext j
    simp [Array.getElem?_replicate]
    split <;> rfl
   rw [e]; exact hC
 · simp [List.countP_replicate]
end
end R6
end Go.Proofs.YtnjgibbfcigbfaaGreat
