/-
  OUR OWN: guarded operations whose guard isn't decided; regions in the text's order walked as those that draw it.
-/
import Derived.BigGuardPart
import Derived.Test.YtpnnlmaipcjkmaaGreatQV22
import Derived.Test.YtpnnlmaipcjkmaaGreatQV16
import Derived.Test.YtpnnlmaipcjkmaaGreatQV1
set_option linter.all false
namespace Go.Proofs.YtpnnlmaipcjkmaaGreat
open Go.RowKit Go.BigFrame
open R6 (done done_ne done_me upd_ne upd_me)

attribute [local go_sem] gives

theorem cutF_le (f : Pol → Int × Int) : ∀ (l : List Pol) (s : Int × Int), s.1 ≤ (l.foldl (fun s q => cut1 s (f q)) s).1 ∧ (l.foldl (fun s q => cut1 s (f q)) s).2 ≤ s.2
  | [], _ => ⟨Int.le_refl _, Int.le_refl _⟩
  | q :: l, s => by
    have := cutF_le f l (cut1 s (f q))
    rw [List.foldl_cons]
    have e : (cut1 s (f q)).1 = max s.1 (f q).1 ∧ (cut1 s (f q)).2 = min s.2 (f q).2 := ⟨rfl, rfl⟩
    rw [e.1, e.2] at this
    omega
theorem gAt_mem5 {gs : List Gd} {p : Pol} (h : 1 ≤ gOf gs p) : gAt gs p ∈ gs := by
  have hl := gOf_le gs p
  have : gOf gs p - 1 < gs.length := by omega
  simp [gAt, this]
theorem okPol_secs5 {p : Pol} (h : okPol p = true) : okSecs p = true := by
  simp only [okPol, Bool.and_eq_true] at h
  exact h.2.2.2.1
theorem okPol_yrs5 {p : Pol} (h : okPol p = true) : yrs p := by
  simp only [okPol, Bool.and_eq_true, inR_iff, decide_eq_true_eq] at h
  exact ⟨h.2.1.1, h.2.1.2⟩
theorem ownP_small {gs : List Gd} {ts : List Ts} {k : Nat} {p : Pol} (hk : k < 3) (h : okPol p = true) (hg1 : 1 ≤ gOf gs p) (ht : ∀ t ∈ ts, okT t) (hok : ∀ g ∈ gs, okG2 g) : (1 ≤ (ownP gs ts k p).1 ∧ (ownP gs ts k p).1 ≤ 1000000000) ∧ (0 ≤ (ownP gs ts k p).2 ∧ (ownP gs ts k p).2 ≤ 200000) :=
  own_small (okPol_secs5 h) ht (hok _ (gAt_mem5 hg1) k hk).1 (hok _ (gAt_mem5 hg1) k hk).2
end Go.Proofs.YtpnnlmaipcjkmaaGreat

namespace Go.Proofs.YtpnnlmaipcjkmaaGreat
open Go.RowKit

def cnd (b : Bool) (v : Value) : Value := if b = true then v else undef
def notB (b : Bool) : Bool := !b
def andB (a b : Bool) : Bool := a && b
def orB (a b : Bool) : Bool := a || b
theorem cnd_true (v : Value) : cnd true v = v := rfl
theorem notB_false : notB false = true := rfl
theorem andB_left (b : Bool) : andB true b = b := rfl
theorem andB_right (b : Bool) : andB b true = b := by cases b <;> rfl
theorem pick_or (x y : Bool) : (if x = true then Value.bool true else cnd (notB x) (.bool y)) = .bool (orB x y) := by cases x <;> rfl
theorem pick_andD (p : Prop) [Decidable p] (y : Bool) : (if p then cnd (decide p) (.bool y) else Value.bool false) = .bool (andB (decide p) y) := by by_cases h : p <;> simp [h, cnd, andB]
theorem pick_orN (b y : Bool) : (if b = false then Value.bool true else cnd (notB !b) (.bool y)) = .bool (orB (!b) y) := by cases b <;> rfl
theorem wanted_at {o : Oper} {ops : Array Oper} {tmps : Array Value} {j d : Nat} {want : Bool} {v : Value} (hg : o.guard = some (j, want)) (hj : (ops[j]?).bind (·.dst) = some d) (hx : tmps[d]? = some v) :
    Region.wanted o (yielded ops tmps) = (match v with | .bool b => b == want | _ => false) := by
  unfold Region.wanted yielded
  rw [hg]
  simp only [hj, Option.bind_some, hx]
  cases v <;> rfl
namespace R6
open R4 (upd slot_upd)
section
variable {P : Program} {ops : Array Oper} {C : (Nat → Bool) → (Nat → Value) → World → Prop} {QN : Act → World → Prop} {k : Nat} {o : Oper} {l : List Oper} {A : (Nat → Value) → Act} {c : Value}
theorem WalkR.opt (b : Bool) (hw : ∀ ρ, Region.wanted o (yielded ops (A ρ).tmps) = b) (hu : ∀ D ρ w, Knows ops k D → C D ρ w → C (done D k) (upd ρ o.dst undef) w)
    (hg : b = true → ∀ D ρ w, Knows ops k D → C D ρ w → gives P o (A ρ) w (fun v w' => v = c ∧ C (done D k) (upd ρ o.dst v) w')) (h : WalkR P ops C QN (k + 1) l (fun ρ => (A ρ).put o.dst (cnd b c))) : WalkR P ops C QN k (o :: l) A := by
  cases b
  · exact WalkR.un hw hu h
  · exact WalkR.det hw (hg rfl) h
theorem WalkR.gF {j d : Nat} {x : Bool} (hg : o.guard = some (j, false)) (hj : (ops[j]?).bind (·.dst) = some d) (hx : ∀ ρ, (A ρ).tmps[d]? = some (.bool x)) (hu : ∀ D ρ w, Knows ops k D → C D ρ w → C (done D k) (upd ρ o.dst undef) w)
    (hv : x = false → ∀ D ρ w, Knows ops k D → C D ρ w → gives P o (A ρ) w (fun v w' => v = c ∧ C (done D k) (upd ρ o.dst v) w')) (h : WalkR P ops C QN (k + 1) l (fun ρ => (A ρ).put o.dst (cnd (notB x) c))) : WalkR P ops C QN k (o :: l) A :=
  WalkR.opt (notB x) (fun ρ => by rw [wanted_at hg hj (hx ρ)]; cases x <;> rfl) hu (fun h => hv (by cases x <;> simp_all [notB])) h
theorem WalkR.cT {j d : Nat} {a x : Bool} (hg : o.guard = some (j, true)) (hj : (ops[j]?).bind (·.dst) = some d) (hx : ∀ ρ, (A ρ).tmps[d]? = some (cnd a (.bool x))) (hu : ∀ D ρ w, Knows ops k D → C D ρ w → C (done D k) (upd ρ o.dst undef) w)
    (hv : a = true → x = true → ∀ D ρ w, Knows ops k D → C D ρ w → gives P o (A ρ) w (fun v w' => v = c ∧ C (done D k) (upd ρ o.dst v) w')) (h : WalkR P ops C QN (k + 1) l (fun ρ => (A ρ).put o.dst (cnd (andB a x) c))) : WalkR P ops C QN k (o :: l) A :=
  WalkR.opt (andB a x) (fun ρ => by rw [wanted_at hg hj (hx ρ)]; cases a <;> cases x <;> rfl) hu (fun h => hv (by cases a <;> simp_all [andB, notB]) (by cases a <;> cases x <;> simp_all [andB, notB])) h
end
end R6
def kpt : List (Nat × Obj) → World → Prop
  | [], _ => True
  | e :: l, W => W.heap[e.1]? = some e.2 ∧ kpt l W
theorem kpt.next {W W' : World} (hg : Grows W W') : ∀ {K : List (Nat × Obj)}, kpt K W → kpt K W'
  | [], _ => trivial
  | _ :: _, h => ⟨(hg.block _ (lt_of_heap h.1)).trans h.1, kpt.next hg h.2⟩
theorem kpt.drew {W : World} : ∀ {K : List (Nat × Obj)}, kpt K W → kpt K W.drew
  | [], _ => trivial
  | _ :: _, h => ⟨h.1, kpt.drew h.2⟩
structure MkE where
  k : Nat
  d : Nat
  b : Bool
  zs : List Int
def mkAt (I : List MkE) (k : Nat) : Option MkE := I.find? fun f => f.k == k
structure MK (w0 : World) (K : List (Nat × Obj)) (I : List MkE) (D : Nat → Bool) (σ : Nat → Value) (W : World) : Prop where
  bel : Below w0.heap.size w0 W
  box : kpt K W
  new : ∀ k f, mkAt I k = some f → D k = true → f.b = true → ∃ b, σ f.d = .slice (some ⟨b, 0, none⟩) f.zs.length f.zs.length ∧ W.heap[b]? = some (.cells (ints f.zs).toArray 3 (0, 0))
def mkO (I : List MkE) (k d : Nat) : Bool := I.all fun f => f.k == k || f.d != d
section
open R6 (done done_ne done_me upd_ne upd_me)
variable {w0 W W' : World} {K : List (Nat × Obj)} {I : List MkE} {D : Nat → Bool} {σ : Nat → Value}
theorem mkAt_mem {k : Nat} {f : MkE} (h : mkAt I k = some f) : f ∈ I ∧ f.k = k := ⟨List.mem_of_find?_eq_some h, by simpa using List.find?_some h⟩
theorem MK.next (h : MK w0 K I D σ W) (hg : Grows W W') : MK w0 K I D σ W' :=
  ⟨h.bel.trans (hg.mono h.bel.size), h.box.next hg, fun k f hf hD hb => let ⟨b, e, hm⟩ := h.new k f hf hD hb; ⟨b, e, (hg.block _ (lt_of_heap hm)).trans hm⟩⟩
theorem MK.other {k d : Nat} {v : Value} (h : MK w0 K I D σ W) (hk : mkO I k d = true) (k' : Nat) (f : MkE) (hf : mkAt I k' = some f) (hne : k' ≠ k) (hD : done D k k' = true) (hb : f.b = true) :
    ∃ b, R4.upd σ (some d) v f.d = .slice (some ⟨b, 0, none⟩) f.zs.length f.zs.length ∧ W.heap[b]? = some (.cells (ints f.zs).toArray 3 (0, 0)) := by
  obtain ⟨hm, he⟩ := mkAt_mem hf
  have h2 := List.all_eq_true.1 hk f hm
  simp only [Bool.or_eq_true, beq_iff_eq, bne_iff_ne, ne_eq] at h2
  have h3 : ¬ f.d = d := by rcases h2 with h2 | h2; exact absurd (he.symm.trans h2) hne; exact h2
  rw [done_ne hne] at hD
  rw [upd_ne (fun e => h3 (Option.some.inj e).symm)]
  exact h.new k' f hf hD hb
theorem MK.made {k d : Nat} {b : Bool} {zs : List Int} {v : Value} {g : Nat} (h : MK w0 K I D σ W) (hf : mkAt I k = some ⟨k, d, b, zs⟩) (hk : mkO I k d = true) (hg : Grows W W') (hv : v = .slice (some ⟨g, 0, none⟩) zs.length zs.length) (hm : W'.heap[g]? = some (.cells (ints zs).toArray 3 (0, 0))) :
    MK w0 K I (done D k) (R4.upd σ (some d) v) W' := by
  have h' := h.next hg
  refine ⟨h'.bel, h'.box, fun k' f hf' hD hb => ?_⟩
  by_cases e : k' = k
  · subst e
    rw [hf] at hf'
    cases hf'
    exact ⟨g, by rw [upd_me]; exact hv, hm⟩
  · exact h'.other hk k' f hf' e hD hb
theorem MK.left {k d : Nat} {b : Bool} {zs : List Int} {v : Value} (h : MK w0 K I D σ W) (hf : mkAt I k = some ⟨k, d, b, zs⟩) (hb : b = false) (hk : mkO I k d = true) : MK w0 K I (done D k) (R4.upd σ (some d) v) W := by
  refine ⟨h.bel, h.box, fun k' f hf' hD hb' => ?_⟩
  by_cases e : k' = k
  · subst e
    rw [hf] at hf'
    cases hf'
    rw [hb] at hb'
    cases hb'
  · exact h.other hk k' f hf' e hD hb'
theorem MK.start (hb : Below w0.heap.size w0 W) (hK : kpt K W) (hD : ∀ k, D k = false) : MK w0 K I D σ W := ⟨hb, hK, fun k f _ h => by rw [hD] at h; cases h⟩
end
end Go.Proofs.YtpnnlmaipcjkmaaGreat
