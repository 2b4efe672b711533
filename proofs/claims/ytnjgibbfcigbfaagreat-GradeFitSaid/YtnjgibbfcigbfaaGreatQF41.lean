import Derived.Test.YtnjgibbfcigbfaaGreatQF40
import Derived.Test.YtnjgibbfcigbfaaGreatQF29
import Derived.Deep.DeepMust
import Derived.Outline
import Derived.Test.YtnjgibbfcigbfaaGreatQF28
set_option linter.all false
namespace Go.Proofs.YtnjgibbfcigbfaaGreat
open Go.RowKit
open R6 (done zAg zAj upd_ne upd_me)
attribute [local go_sem] gives
theorem zK8 {W : World} {base : Nat} {e : TypeId} {size n : Nat} {v : Value} {xs : List Value} (h : W.ownsRow base e size v n xs) {b : Nat} (hb : v.ownBlock = some b) : ∃ cur, W.heap[b]? = some (.cells cur e (0, 0)) ∧ base ≤ b := by
 rcases h.2 with ⟨rfl, _⟩ | ⟨g, cap, cur, rfl, h2, h3, _⟩
 · cases hb
 · simp only [Value.ownBlock, Option.some.injEq] at hb; subst hb; exact ⟨cur, h3, h2⟩
structure LsC (W : World) (base : Nat) (e : TypeId) (size m : Nat) (xs : List Value) (d0 d1 : Bool) (v0 v1 : Value) : Prop where
 e0 : d0 = true → d1 = false → W.ownsRow base e size v0 0 []
 e1 : d1 = true → W.ownsRow base e size v1 m xs
section
variable {W W' : World} {base : Nat} {e e' : TypeId} {size size' m m' : Nat} {xs xs' : List Value} {d0 d1 : Bool} {v0 v1 v' : Value}
theorem LsC.grows (h : LsC W base e size m xs d0 d1 v0 v1) (hg : Grows W W') : LsC W' base e size m xs d0 d1 v0 v1 := ⟨fun a b => zBi (h.e0 a b) hg, fun a => zBi (h.e1 a) hg⟩
theorem LsC.put (h : LsC W base e size m xs d0 d1 v0 v1) {b : Nat} (hP : Put W W' b) (hb : b < base) : LsC W' base e size m xs d0 d1 v0 v1 := by
 have key : ∀ {u : Value} {k : Nat} {zs : List Value}, W.ownsRow base e size u k zs → W'.ownsRow base e size u k zs := by
  intro u k zs hu; refine hu.kept hP.grown ?_; cases hb' : u.ownBlock with
  | none => exact .inl rfl
  | some g =>
    refine .inr ?_; intro e2; obtain ⟨c1, _, h2⟩ := zK8 hu hb'; simp only [Option.some.injEq] at e2; omega
 exact ⟨fun a b => key (h.e0 a b), fun a => key (h.e1 a)⟩
end
structure TwC (w0 : World) (base nb no : Nat) (bx : Obj) (to : TypeId) (X : List Value) (e1 e2 : TypeId) (s1 s2 m1 m2 : Nat) (xs1 xs2 : List Value) (D : Nat → Bool) (σ : Nat → Value) (W : World) : Prop where
 bel : Grows w0 W
 lb : base ≤ W.heap.size
 ln : w0.heap.size ≤ no ∧ no < base ∧ nb < base ∧ nb ≠ no ∧ w0.heap.size ≤ base
 l1 : LsC W base e1 s1 m1 xs1 (D 0) (D 3) (σ 3) (σ 6)
 l2 : LsC W base e2 s2 m2 xs2 (D 4) (D 7) (σ 7) (σ 10)
 box : W.heap[nb]? = some bx
 x0 : D 9 = false → W.heap[no]? = some (.cells X.toArray to (0, 0))
 x1 : D 9 = true → W.heap[no]? = some (.cells [σ 6, σ 10].toArray to (0, 0))
 bu : D 8 = true → σ 11 = .agg #[σ 6, σ 10]
section
variable {w0 W W' : World} {base nb no : Nat} {bx : Obj} {to : TypeId} {X : List Value} {e1 e2 : TypeId} {s1 s2 m1 m2 : Nat} {xs1 xs2 : List Value} {D : Nat → Bool} {σ : Nat → Value}
theorem TwC.grows (h : TwC w0 base nb no bx to X e1 e2 s1 s2 m1 m2 xs1 xs2 D σ W) (hg : Grows W W') : TwC w0 base nb no bx to X e1 e2 s1 s2 m1 m2 xs1 xs2 D σ W' :=
 ⟨h.bel.trans (hg.mono h.bel.size), Nat.le_trans h.lb hg.size, h.ln, h.l1.grows hg, h.l2.grows hg, (hg.block _ (zAa h.box)).trans h.box, fun a => (hg.block _ (zAa (h.x0 a))).trans (h.x0 a), fun a => (hg.block _ (zAa (h.x1 a))).trans (h.x1 a), h.bu⟩
theorem TwC.put (h : TwC w0 base nb no bx to X e1 e2 s1 s2 m1 m2 xs1 xs2 D σ W) (hP : Put W W' no) (hM : W'.heap[no]? = some (.cells [σ 6, σ 10].toArray to (0, 0))) :
 TwC w0 base nb no bx to X e1 e2 s1 s2 m1 m2 xs1 xs2 (done D 9) σ W' := by
 have f0 := zAg (D := D) (k := 9) (j := 0) (by decide)
 have f3 := zAg (D := D) (k := 9) (j := 3) (by decide)
 have f4 := zAg (D := D) (k := 9) (j := 4) (by decide)
 have f7 := zAg (D := D) (k := 9) (j := 7) (by decide)
 have f8 := zAg (D := D) (k := 9) (j := 8) (by decide)
 refine ⟨h.bel.trans (hP.below h.ln.1), by rw [hP.size]; exact h.lb, h.ln, by rw [f0, f3]; exact h.l1.put hP h.ln.2.1, by rw [f4, f7]; exact h.l2.put hP h.ln.2.1, (hP.other _ h.ln.2.2.2.1).trans h.box, (fun e => by rw [zAj] at e; cases e), fun _ => hM, by rw [f8]; exact h.bu⟩
end
theorem zQy : (Tryz.prog.info? 58).map (fun i => (i.zero, i.size, i.bytes)) = some (some (.agg (tcl ⟨0, 0, 0, 0, false⟩).toArray), 5, 40) := by kernel_rfl
theorem zT7 {w : World} {base base' : Nat} {e : TypeId} {size n : Nat} {v : Value} {xs : List Value} (h : w.ownsRow base e size v n xs) (hb : base' ≤ base) : w.ownsRow base' e size v n xs :=
 ⟨h.1, h.2.imp_right fun ⟨g, cap, cur, a, b, r⟩ => ⟨g, cap, cur, a, Nat.le_trans hb b, r⟩⟩
def OwnS (W : World) (base : Nat) (ps : List Pol) (ts : List Ts) (v1 v2 : Value) : Prop := W.ownsRow base 56 12 v1 ps.length (ps.flatMap pcl) ∧ W.ownsRow base 58 5 v2 ts.length (ts.flatMap tcl)
def TwinPost (w : World) (ps : List Pol) (ts : List Ts) (e : Ending) (w' : World) : Prop :=
 ∃ v1 v2, e = .returned (.agg #[v1, v2]) ∧ OwnS w' w.heap.size ps ts v1 v2 ∧ Grows w w'
section
variable {P : Program} {ops : Array Oper} {rest : List Oper} {o : Oper} {a : Act} {w : World} {Q : Exit → Act → World → Prop}
theorem zEm (s x : Operand) (t : TypeId) (hgd : o.guard = none)
 (ho : o.op = .call { callee := .builtin .append, args := #[s, x], argTypes := #[t, t] })
 (base : Nat) (e : TypeId) (i : TypeInfo) (z : Value) (size bytes : Nat) (ht : P.underlying t = some (.slice e)) (hi : P.info? e = some i) (hz : i.zero = some z)
 (hsize : i.size = size) (hby : i.bytes = bytes) (hzs : z.cells.size = size) (hsz : 0 < size)
 {v : Value} {n : Nat} {xs : List Value} (hs : a.eval s = v) (hown : w.ownsRow base e size v n xs)
 {B : Nat} {A : Option Addr} {m c : Nat} {vs : List Value} (hx : a.eval x = .slice A m c) (hr : Vals w B A vs) (hl : vs.length = m * size) (h1 : ∀ u ∈ vs, u.oneCell' = true)
 (h63 : n + m ≤ maxLen) (hbytes : (n + m) * bytes ≤ 140737488355328) (hbase : base ≤ w.heap.size)
 (h : ∀ v' w', w'.ownsRow base e size v' (n + m) (xs ++ vs) → w.grownBy w' v.ownBlock → wpList P ops Q rest (a.put o.dst v') w') : wpList P ops Q (o :: rest) a w := by
 obtain ⟨v', w', hrun, h2, h3, h4⟩ := zKm (P := P) w base t o.type e i z size bytes ht hi hz hsize hby hzs hsz v n xs hown B A m c vs hr hl h1 h63 hbytes hbase; refine wpList_plain hgd fun K hK => ?_
 unfold Oper.wp execOp; simp only [ho, resolve, invoke, builtin, Sem.run_bind, Sem.run_pure, Result.andThen_ok, List.map_toArray, List.map_cons, List.map_nil, hs, hx, hrun]; exact hK _ _ (h v' w' h2 h3)
theorem zBf (ty : TypeId) (x y : Operand) (hgd : o.guard = none) (ho : o.op = .store ty x y) (hd : o.dst = none) {b f : Nat} (hx : a.eval x = .pointer (some ⟨b, f, none⟩)) {v : Value} (hy : a.eval y = v) (hv : v.cells = #[v]) (h1 : v.oneCell' = true)
 {L : List Value} {t : TypeId} (hb : w.heap[b]? = some (.cells L.toArray t (0, 0))) (hfit : f < L.length) (hty : (P.info? ty).map (·.size) = some 1)
 (h : ∀ w', Put w w' b → w'.heap[b]? = some (.cells (L.set f v).toArray t (0, 0)) → wpList P ops Q rest a w') : wpList P ops Q (o :: rest) a w := by
 refine wpList_plain hgd fun K hK => ?_
 have hrun := zBv (P := P) (v := v) hb hfit hv h1 hty; unfold Oper.wp execOp; simp only [ho, hx, hy, Sem.run_bind, Sem.run_pure, hrun, Result.andThen_ok]; refine hK _ _ ?_; rw [hd]; refine h _ (zBl b [v] f w) ?_
 have := heap_setCell_same w b f _ _ v hb
 rwa [zza] at this
end
def TwinGPost (w : World) (gs : List Gd) (vary : Int) (e : Ending) (w' : World) : Prop :=
 ∃ v1, e = .returned (.agg #[v1, .int .i64 vary]) ∧ w'.ownsRow w.heap.size 53 8 v1 gs.length (gs.flatMap gcl) ∧ Grows w w'
end Go.Proofs.YtnjgibbfcigbfaaGreat
