/-
  Which batches are valid (the program's).
-/
import Derived.Test.YthjpgpelbagceaaCeA
set_option linter.all false
namespace Go.Proofs.Ythjpgpelbagceaa
open Go.RowKit
open R6 (done done_ne done_me upd_ne upd_me)

attribute [local go_sem] gives

/-- A slice of numbers as it lies. -/
structure Sl where
  A : Option Addr
  c : Nat
  zs : List Int
def slv (s : Sl) : Value := .slice s.A s.zs.length s.c
def slvs (l : List Sl) : List Value := l.map slv
def rws (l : List Sl) : List (List Int) := l.map (·.zs)
structure Rows (w : World) (B : Nat) (A : Option Addr) (l : List Sl) : Prop where
  va : Vals w B A (slvs l)
  each : ∀ s ∈ l, Ints w B s.A s.zs
theorem Rows.below {w w' : World} {B : Nat} {A : Option Addr} {l : List Sl} (h : Rows w B A l) (hb : Below B w w') : Rows w' B A l := ⟨h.va.below hb, fun s hs => (h.each s hs).below hb⟩
theorem Rows.mono {w : World} {B B' : Nat} {A : Option Addr} {l : List Sl} (h : Rows w B A l) (hB : B ≤ B') : Rows w B' A l := ⟨h.va.mono hB, fun s hs => (h.each s hs).mono hB⟩
theorem slvs_len (l : List Sl) : (slvs l).length = l.length := by simp [slvs]
theorem slvs_at (l : List Sl) (k : Nat) (hk : k < l.length) : (slvs l)[k]? = some (slv l[k]) := by simp [slvs, hk]

def okPole (zs : List Int) : Bool := allB 1 6 [(zs.length : Int)] && allB 0 1000 zs

/-- No slice is greater than memory. -/
def shortL (l : List Sl) : Prop := l.length ≤ 1000000 ∧ ∀ s ∈ l, s.zs.length ≤ 1000000

theorem any_rows (l : List Sl) : (l.any fun s : Sl => !okPole s.zs) = !(rws l).all okPole := by
  induction l with
  | nil => rfl
  | cons a l ih => simp only [List.any_cons, rws, List.map_cons, List.all_cons, Bool.not_and]; rw [ih]; rfl

/-- A box, and the lists of one number that a region makes: (operation, slot); f: which number. -/
structure BoxL (w0 : World) (x : Nat) (cs : Array Value) (ty : TypeId) (L : List (Nat × Nat)) (f : Nat → Int) (D : Nat → Bool) (σ : Nat → Value) (W : World) : Prop where
  bel : Below w0.heap.size w0 W
  box : W.heap[x]? = some (.cells cs ty (0, 0))
  new : ∀ e ∈ L, D e.1 = true → ∃ b, σ e.2 = .slice (some ⟨b, 0, none⟩) 1 1 ∧ W.heap[b]? = some (.cells #[.int .i64 (f e.1)] 3 (0, 0))
def boxLK (L : List (Nat × Nat)) (k : Nat) (d : Option Nat) : Bool := L.all fun e => !(k == e.1 || d == some e.2)
def boxLM (L : List (Nat × Nat)) (k t : Nat) : Bool := L.all fun e => e == (k, t) || !(k == e.1 || t == e.2)
section
variable {w0 W W' : World} {x : Nat} {cs : Array Value} {ty : TypeId} {L : List (Nat × Nat)} {f : Nat → Int} {D : Nat → Bool} {σ : Nat → Value}
theorem BoxL.move {k : Nat} {d : Option Nat} {v : Value} (h : BoxL w0 x cs ty L f D σ W) (hk : boxLK L k d = true) : BoxL w0 x cs ty L f (done D k) (R4.upd σ d v) W := by
  refine ⟨h.bel, h.box, fun e he hD => ?_⟩
  have hk' := List.all_eq_true.1 hk e he
  simp only [Bool.not_eq_true', Bool.or_eq_false_iff, beq_eq_false_iff_ne, ne_eq] at hk'
  rw [done_ne (by omega)] at hD
  rw [upd_ne hk'.2]
  exact h.new e he hD
theorem BoxL.next (h : BoxL w0 x cs ty L f D σ W) (hg : Grows W W') : BoxL w0 x cs ty L f D σ W' :=
  ⟨h.bel.trans (hg.mono h.bel.size), (hg.block _ (lt_of_heap h.box)).trans h.box, fun e he hD => let ⟨b, h1, h2⟩ := h.new e he hD; ⟨b, h1, (hg.block _ (lt_of_heap h2)).trans h2⟩⟩
theorem BoxL.made {k t : Nat} {n : Int} (h : BoxL w0 x cs ty L f D σ W) (hk : boxLM L k t = true) (hn : f k = n) : BoxL w0 x cs ty L f (done D k) (R4.upd σ (some t) (.slice (some ⟨W.heap.size, 0, none⟩) 1 1)) (W.alloc (.cells #[.int .i64 n] 3)) := by
  subst hn
  have h' := h.next (grow1 W (.cells #[.int .i64 (f k)] 3))
  refine ⟨h'.bel, h'.box, fun e he hD => ?_⟩
  have hk' := List.all_eq_true.1 hk e he
  by_cases he2 : e = (k, t)
  · subst he2
    exact ⟨_, upd_me, alloc_at0 _ _⟩
  · simp only [Bool.or_eq_true, Bool.not_eq_true', Bool.or_eq_false_iff, beq_eq_false_iff_ne, ne_eq, beq_iff_eq, he2, false_or] at hk'
    rw [done_ne (by omega)] at hD
    rw [upd_ne (by simpa using hk'.2)]
    exact h'.new e he hD
theorem BoxL.start (hb : W = w0.alloc (.cells cs ty)) (hD : ∀ k, D k = false) : BoxL w0 w0.heap.size cs ty L f D σ W.drew := by
  subst hb
  exact ⟨((Below.refl _ _).alloc (Nat.le_refl _) _).drew, alloc_at0 _ _, fun e _ h => by rw [hD] at h; cases h⟩
end

/-- One operation waits for another one at once. -/
def edgeB (ops : Array Oper) (i j : Nat) : Bool := match ops[i]? with
  | none => false
  | some o => o.after.any fun e => Region.binds .any e && e.on == j
theorem needs_edge {ops : Array Oper} {i j : Nat} (h : edgeB ops i j = true) : R6.needsI ops ops.size i j = true := by
  unfold edgeB at h
  cases ho : ops[i]? with
  | none => rw [ho] at h; cases h
  | some o =>
    rw [ho] at h
    have hs : ops.size ≠ 0 := fun e => by
      have := (Array.getElem?_eq_some_iff.1 ho).1
      omega
    obtain ⟨f, hf⟩ := Nat.exists_eq_succ_of_ne_zero hs
    rw [hf]
    unfold R6.needsI
    simp only [ho]
    simp only [Array.any_eq_true] at h ⊢
    obtain ⟨x, hx, hb⟩ := h
    refine ⟨x, hx, ?_⟩
    simp only [Bool.and_eq_true] at hb ⊢
    exact ⟨hb.1, by simp [hb.2]⟩

def btcells (t : Bt) (P : Value) : Array Value := #[.int .i64 t.water, .int .i64 t.borax, P, .int .i64 t.lo, .int .i64 t.hi, .int .i64 t.need]
def okHead (t : Bt) (n : Nat) : Bool := allB 10 10000 [t.water] && allB 0 100000 [t.borax] && allB 1 4 [(n : Int)]
def okBatch (t : Bt) (ws : List (List Int)) : Bool := okHead t ws.length && ws.all okPole && okS t.lo t.hi 1 250 && allB 1 1000 [t.need]
def numB (t : Bt) (n : Nat) : Nat → Int := fun k => if k = 3 then t.water else if k = 9 then t.borax else if k = 17 then (n : Int) else t.need

end Go.Proofs.Ythjpgpelbagceaa
