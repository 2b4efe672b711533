/-
  Tones by fingerings, in a map.
-/
import Derived.Test.YthjpgpelbagceaaFuI
import Derived.Maps.OwnSet
import Derived.Maps.OwnIn
set_option linter.all false
namespace Go.Proofs.Ythjpgpelbagceaa
open Go.RowKit Go.Maps
open R6 (done done_ne done_me upd_ne upd_me)

def rdU (v : Value) : Option (DataW Value × List MemPlace) := some (.held v, [])
def spV (s : Int × Int) : Value := .agg #[.int .i64 s.1, .int .i64 s.2]
theorem keyU8 : Keyed Try.prog 5 := Maps.int_keyed Try.underlying5
theorem keyU8_of (k : Nat) (hk : k < 256) : keyOf Try.prog 5 (.int .u8 (k : Int)) = some (.int .u8 (k : Int)) := Maps.keyOf_int_mk Try.underlying5 (by simp [Lit.wf, IntKind.min, IntKind.max, IntKind.signed, IntKind.bits]; omega)
theorem zeroSp (w : World) : (zeroValue 25).run Try.prog w = .ok (spV (0, 0)) w := by kernel_rfl
def MapU (D : DataW Value) (F : Nat → Option (Int × Int)) : Prop := ∀ n : Nat, n < 256 → Maps.has D (.int .u8 (n : Int)) = (F n).isSome ∧ D.atKey (.int .u8 (n : Int)) (.held (spV (0, 0))) = .held (spV ((F n).getD (0, 0)))
def OwnT (W : World) (mb c : Nat) (F : Nat → Option (Int × Int)) : Prop := ∃ D : DataW Value, W.ownsMap Try.prog 5 rdU mb c D ∧ MapU D F
theorem OwnT.made (w : World) : OwnT (w.alloc (.map #[] 0)) w.heap.size 0 (fun _ => none) :=
  ⟨.map [], World.ownsMap_made _ _ _ _, fun _ _ => ⟨rfl, rfl⟩⟩
theorem OwnT.block {W W' : World} {mb c : Nat} {F : Nat → Option (Int × Int)} (h : OwnT W mb c F) (e : W'.heap[mb]? = W.heap[mb]?) : OwnT W' mb c F := by
  obtain ⟨D, h1, h2⟩ := h
  refine ⟨D, ?_, h2⟩
  unfold World.ownsMap at h1 ⊢
  rw [e]
  exact h1
theorem OwnT.lt {W : World} {mb c : Nat} {F : Nat → Option (Int × Int)} (h : OwnT W mb c F) : mb < W.heap.size := let ⟨_, h1, _⟩ := h; h1.lt
def updU (F : Nat → Option (Int × Int)) (k : Nat) (s : Int × Int) : Nat → Option (Int × Int) := fun n => if n = k then some s else F n
section
variable {op : Oper} {ops : Array Oper} {rest : List Oper} {a : Act} {w : World} {Q : Exit → Act → World → Prop} {R : Value → World → Prop} {M c : Nat} {F : Nat → Option (Int × Int)}
theorem gives_keepU (mp x v : Operand) (hop : op.op = Op.mapUpdate 83 mp x v) (hm : a.eval mp = .map (some M)) (hO : OwnT w M c F) (hn : c < maxLen) {k : Nat} (hk : k < 256) (hx : a.eval x = .int .u8 (k : Int)) {s : Int × Int} (hv : a.eval v = spV s)
    (h : ∀ w', OwnT w' M (c + 1) (updU F k s) → w.grownBy w' (some M) → R undef w') : gives Try.prog op a w R := by
  obtain ⟨D, h1, h2⟩ := hO
  obtain ⟨w', hrun, r1, r2⟩ := h1.update keyU8 Try.underlying83 hn (keyU8_of k hk) (val := spV s) (d := .held (spV s)) (ps := []) rfl
  unfold gives
  simp [execOp, hop, hm, hx, hv, hrun, Result.andThen]
  refine h w' ⟨_, r1, fun n hn => ?_⟩ r2
  have hkey := keyU8.key (keyU8_of k hk)
  unfold updU
  by_cases e : n = k
  · subst e
    rw [if_pos rfl]
    exact ⟨has_put_same h1.isMap hkey _, atKey_put_same h1.isMap hkey _ _⟩
  · have hne : (Lit.int IntKind.u8 (n : Int)) ≠ .int .u8 (k : Int) := fun h => by injection h with _ h2; omega
    rw [if_neg e, has_put_other hne, atKey_put_other hne]
    exact h2 n hn
theorem gives_lookU (mp x : Operand) (hop : op.op = Op.lookup 83 mp x false) (hm : a.eval mp = .map (some M)) (hO : OwnT w M c F) {k : Nat} (hk : k < 256) (hx : a.eval x = .int .u8 (k : Int)) (h : R (spV ((F k).getD (0, 0))) w) : gives Try.prog op a w R := by
  obtain ⟨D, h1, h2⟩ := hO
  obtain ⟨u, ps, hrun, hv⟩ := h1.lookup keyU8 Try.underlying83 (zeroSp w) (zd := .held (spV (0, 0))) (zp := []) rfl (keyU8_of k hk)
  simp only [rdU, Option.some.injEq, Prod.mk.injEq, (h2 k hk).2, DataW.held.injEq] at hv
  rw [hv.1] at hrun
  unfold gives
  simp [execOp, hop, hm, hx, hrun, Result.andThen]
  exact h
theorem wpList_lookU_ok (hg : op.guard = none) (mp x : Operand) (hop : op.op = Op.lookup 83 mp x true) (hm : a.eval mp = .map (some M)) (hO : OwnT w M c F) {k : Nat} (hk : k < 256) (hx : a.eval x = .int .u8 (k : Int))
    (h : wpList Try.prog ops Q rest (a.put op.dst (.tuple #[spV ((F k).getD (0, 0)), .bool (F k).isSome])) w) : wpList Try.prog ops Q (op :: rest) a w := by
  obtain ⟨D, h1, h2⟩ := hO
  obtain ⟨u, ps, hrun, hv⟩ := h1.look_ok keyU8 Try.underlying83 (zeroSp w) (zd := .held (spV (0, 0))) (zp := []) rfl (keyU8_of k hk)
  simp only [rdU, Option.some.injEq, Prod.mk.injEq, (h2 k hk).2, DataW.held.injEq] at hv
  rw [hv.1, (h2 k hk).1] at hrun
  refine wpList_plain hg fun K hK => ?_
  unfold Oper.wp
  simp [execOp, hop, hm, hx, hrun, Result.andThen]
  exact hK _ _ h
end

/-- A region whose last operation writes. -/
structure PhC (ks : Nat) (Pre : (Nat → Bool) → (Nat → Value) → World → Prop) (Post : World → Prop) (D : Nat → Bool) (σ : Nat → Value) (W : World) : Prop where
  pre : D ks = false → Pre D σ W
  post : D ks = true → Post W
theorem PhC.step {ks k : Nat} {Pre : (Nat → Bool) → (Nat → Value) → World → Prop} {Post : World → Prop} {D : Nat → Bool} {σ : Nat → Value} {W : World} (hk : (k == ks) = false) (h0 : D ks = false) (h : Pre (done D k) σ W) : PhC ks Pre Post (done D k) σ W :=
  ⟨fun _ => h, fun e => (by rw [done_ne (fun e => by simp [e] at hk), h0] at e; cases e)⟩
theorem PhC.put {ks : Nat} {Pre : (Nat → Bool) → (Nat → Value) → World → Prop} {Post : World → Prop} {D : Nat → Bool} {σ : Nat → Value} {W : World} (h : Post W) : PhC ks Pre Post (done D ks) σ W :=
  ⟨fun e => (by rw [done_me] at e; cases e), fun _ => h⟩
theorem PhC.start {ks : Nat} {Pre : (Nat → Bool) → (Nat → Value) → World → Prop} {Post : World → Prop} {D : Nat → Bool} {σ : Nat → Value} {W : World} (hD : D ks = false) (h : Pre D σ W) : PhC ks Pre Post D σ W :=
  ⟨fun _ => h, fun e => (by rw [hD] at e; cases e)⟩

end Go.Proofs.Ythjpgpelbagceaa
