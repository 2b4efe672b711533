/-
  The region of ClumpWider that lays a twin and a copy into two new blocks: what holds on the way.
-/
import Derived.Test.YtanjolmelbipoaaWidA
import Derived.Test.YtanjolmelbipoaaRegs4
namespace Go.Proofs.Ytanjolmelbipoaa
open Go.RowKit Go.Shelf

attribute [local go_sem] gives

/-- A new block of a grove's cells. -/
def NewB (n0 : Nat) (v : Value) (W : World) : Prop := v = undef ∨ ∃ (b : Nat) (L : List Value), v = .pointer (some ⟨b, 0, none⟩) ∧ n0 ≤ b ∧ W.heap[b]? = some (.cells L.toArray 29 (0, 0)) ∧ L.length = 10

structure TC (w wr : World) (g : Gr) (A1 : Option Addr) (c1 : Nat) (A2 : Option Addr) (c2 : Nat) (σ : Nat → Value) (W : World) : Prop where
  hG : W.heap[w.heap.size]? = some (.cells (gcs g A1 c1 A2 c2) 29 (0, 0))
  bel : Below wr.heap.size wr W
  lw : w.heap.size < wr.heap.size
  a : NewB wr.heap.size (σ 11) W
  b : NewB wr.heap.size (σ 12) W
  ne : ∀ k, σ 11 = .pointer (some ⟨k, 0, none⟩) → σ 12 ≠ .pointer (some ⟨k, 0, none⟩)

def SS (σ : Nat → Value) (o : Oper) (W W' : World) : Prop :=
  W.heap.size ≤ W'.heap.size ∧ ∀ k, k < W.heap.size → W'.heap[k]? = W.heap[k]? ∨ ∃ ty t y, o.op = .store ty (.tmp t) y ∧ (t = 11 ∨ t = 12) ∧ σ t = .pointer (some ⟨k, 0, none⟩)
theorem SS.of {σ : Nat → Value} {o : Oper} {W W' : World} (h : Grows W W') : SS σ o W W' := ⟨h.size, fun k hk => .inl (h.block k hk)⟩
theorem SS.refl (σ : Nat → Value) (o : Oper) (W : World) : SS σ o W W := .of (Grows.refl W)

theorem NewB.grows {n0 : Nat} {v : Value} {W W' : World} (h : NewB n0 v W) (hg : Grows W W') : NewB n0 v W' := by
  rcases h with h | ⟨b, L, hv, hn, hb, hl⟩
  · exact .inl h
  · exact .inr ⟨b, L, hv, hn, (hg.block _ (lt_of_heap hb)).trans hb, hl⟩

section
variable {w wr : World} {g : Gr} {A1 : Option Addr} {c1 : Nat} {A2 : Option Addr} {c2 : Nat} {σ : Nat → Value} {W W' : World}

theorem TC.next (h : TC w wr g A1 c1 A2 c2 σ W) (hg : Grows W W') : TC w wr g A1 c1 A2 c2 σ W' :=
  ⟨(hg.block _ (lt_of_heap h.hG)).trans h.hG, h.bel.trans (hg.mono h.bel.size), h.lw, h.a.grows hg, h.b.grows hg, h.ne⟩
theorem TC.upd (h : TC w wr g A1 c1 A2 c2 σ W) {d : Option Nat} {v : Value} (h1 : d ≠ some 11) (h2 : d ≠ some 12) : TC w wr g A1 c1 A2 c2 (R4.upd σ d v) W := by
  have e1 : R4.upd σ d v 11 = σ 11 := by unfold R4.upd; rw [if_neg h1]
  have e2 : R4.upd σ d v 12 = σ 12 := by unfold R4.upd; rw [if_neg h2]
  exact ⟨h.hG, h.bel, h.lw, by rw [e1]; exact h.a, by rw [e2]; exact h.b, by rw [e1, e2]; exact h.ne⟩
theorem NewB.lt {n0 : Nat} {v : Value} (h : NewB n0 v W) {k : Nat} (e : v = .pointer (some ⟨k, 0, none⟩)) : k < W.heap.size := by
  rcases h with h | ⟨b, L, hv, hn, hb, hl⟩
  · rw [h] at e; cases e
  · rw [hv] at e
    simp only [Value.pointer.injEq, Option.some.injEq, Addr.mk.injEq, and_true] at e
    rw [← e]; exact lt_of_heap hb
/-- The first new block. -/
theorem TC.new11 (h : TC w wr g A1 c1 A2 c2 σ W) {L : List Value} (hL : L.length = 10) : TC w wr g A1 c1 A2 c2 (R4.upd σ (some 11) (.pointer (some ⟨W.heap.size, 0, none⟩))) (W.alloc (.cells L.toArray 29)) := by
  have hg : Grows W (W.alloc (.cells L.toArray 29)) := (Below.refl _ _).alloc (Nat.le_refl _) _
  have h' := h.next hg
  have e1 : R4.upd σ (some 11) (.pointer (some ⟨W.heap.size, 0, none⟩)) 11 = .pointer (some ⟨W.heap.size, 0, none⟩) := by unfold R4.upd; rw [if_pos rfl]
  have e2 : R4.upd σ (some 11) (.pointer (some ⟨W.heap.size, 0, none⟩)) 12 = σ 12 := by unfold R4.upd; rw [if_neg (by decide)]
  refine ⟨h'.hG, h'.bel, h.lw, ?_, by rw [e2]; exact h'.b, fun k hk hk2 => ?_⟩
  · rw [e1]
    exact .inr ⟨_, L, rfl, h.bel.size, alloc_at0 _ _, hL⟩
  · rw [e1] at hk
    rw [e2] at hk2
    have := h.b.lt hk2
    simp only [Value.pointer.injEq, Option.some.injEq, Addr.mk.injEq, and_true] at hk
    omega
theorem TC.new12 (h : TC w wr g A1 c1 A2 c2 σ W) {L : List Value} (hL : L.length = 10) : TC w wr g A1 c1 A2 c2 (R4.upd σ (some 12) (.pointer (some ⟨W.heap.size, 0, none⟩))) (W.alloc (.cells L.toArray 29)) := by
  have hg : Grows W (W.alloc (.cells L.toArray 29)) := (Below.refl _ _).alloc (Nat.le_refl _) _
  have h' := h.next hg
  have e1 : R4.upd σ (some 12) (.pointer (some ⟨W.heap.size, 0, none⟩)) 12 = .pointer (some ⟨W.heap.size, 0, none⟩) := by unfold R4.upd; rw [if_pos rfl]
  have e2 : R4.upd σ (some 12) (.pointer (some ⟨W.heap.size, 0, none⟩)) 11 = σ 11 := by unfold R4.upd; rw [if_neg (by decide)]
  refine ⟨h'.hG, h'.bel, h.lw, by rw [e2]; exact h'.a, ?_, fun k hk hk2 => ?_⟩
  · rw [e1]
    exact .inr ⟨_, L, rfl, h.bel.size, alloc_at0 _ _, hL⟩
  · rw [e1] at hk2
    rw [e2] at hk
    have := h.a.lt hk
    simp only [Value.pointer.injEq, Option.some.injEq, Addr.mk.injEq, and_true] at hk2
    omega

/-- A block of another type is never stored into. -/
theorem TC.same (h : TC w wr g A1 c1 A2 c2 σ W) {o : Oper} (hs : SS σ o W W') {k : Nat} {cur : Array Value} {e : TypeId} {fr : Nat × Nat} (hk : W.heap[k]? = some (.cells cur e fr)) (he : e ≠ 29) : W'.heap[k]? = W.heap[k]? := by
  rcases hs.2 k (lt_of_heap hk) with hx | ⟨ty, t, y, -, ht, hp⟩
  · exact hx
  · exfalso
    have : NewB wr.heap.size (σ t) W := by rcases ht with rfl | rfl; exact h.a; exact h.b
    rcases this with h0 | ⟨b, L, hv, -, hb, -⟩
    · rw [h0] at hp; cases hp
    · rw [hv] at hp
      simp only [Value.pointer.injEq, Option.some.injEq, Addr.mk.injEq, and_true] at hp
      subst hp
      rw [hb] at hk
      simp only [Option.some.injEq, Obj.cells.injEq] at hk
      exact he hk.2.1.symm

theorem own_same {base : Nat} {e : TypeId} {size n : Nat} {v : Value} {xs : List Value} (h : W.ownsRow base e size v n xs) (hk : ∀ (k : Nat) (cur : Array Value) (fr : Nat × Nat), W.heap[k]? = some (Obj.cells cur e fr) → W'.heap[k]? = W.heap[k]?) : W'.ownsRow base e size v n xs := by
  refine ⟨h.1, ?_⟩
  rcases h.2 with h2 | ⟨g, cap, cur, hv, hb, hh, h3⟩
  · exact .inl h2
  · exact .inr ⟨g, cap, cur, hv, hb, (hk _ _ _ hh).trans hh, h3⟩

/-- What Twin hands back. -/
def TwF (n0 : Nat) (g : Gr) : Fact := fun v W => ∃ n1 g1 x1 g2 x2, v = grv g (some ⟨g1, 0, none⟩) x1 (some ⟨g2, 0, none⟩) x2 ∧ n0 ≤ n1 ∧ n1 ≤ g1 ∧ n1 ≤ g2 ∧
  W.ownsRow n1 3 1 (.slice (some ⟨g1, 0, none⟩) g.start.length x1) g.start.length (ints g.start) ∧ W.ownsRow n1 76 2 (.slice (some ⟨g2, 0, none⟩) g.seas.length x2) g.seas.length (pairs g.seas)
theorem TwF.keep {n0 : Nat} {v : Value} (hv : TwF n0 g v W) (h : TC w wr g A1 c1 A2 c2 σ W) {o : Oper} (hs : SS σ o W W') : TwF n0 g v W' := by
  obtain ⟨n1, g1, x1, g2, x2, e, h0, h1, h2, o1, o2⟩ := hv
  exact ⟨n1, g1, x1, g2, x2, e, h0, h1, h2, own_same o1 fun k cur fr hk => h.same hs hk (by decide), own_same o2 fun k cur fr hk => h.same hs hk (by decide)⟩

/-- A store into the block of slot t. -/
def isSt (t : Nat) (o : Oper) : Bool := match o.op with
  | .store _ (.tmp u) _ => u == t
  | _ => false

theorem NewB.put {n0 b : Nat} {v : Value} {L : List Value} (h : NewB n0 v W) (hp : Put W W' b) (hM : W'.heap[b]? = some (.cells L.toArray 29 (0, 0))) (hL : L.length = 10) : NewB n0 v W' := by
  rcases h with h | ⟨b', L', hv, hn, hb, hl⟩
  · exact .inl h
  · by_cases e : b' = b
    · subst e
      exact .inr ⟨_, _, hv, hn, hM, hL⟩
    · exact .inr ⟨_, _, hv, hn, (hp.other _ e).trans hb, hl⟩
theorem TC.put (h : TC w wr g A1 c1 A2 c2 σ W) {b : Nat} {L : List Value} (hp : Put W W' b) (hb : wr.heap.size ≤ b) (hM : W'.heap[b]? = some (.cells L.toArray 29 (0, 0))) (hL : L.length = 10) : TC w wr g A1 c1 A2 c2 σ W' :=
  ⟨(hp.other _ (by have := h.lw; omega)).trans h.hG, h.bel.trans (hp.below hb), h.lw, h.a.put hp hM hL, h.b.put hp hM hL, h.ne⟩
theorem SS.put {o : Oper} {b t : Nat} {ty : TypeId} {y : Operand} (hp : Put W W' b) (ho : o.op = .store ty (.tmp t) y) (ht : t = 11 ∨ t = 12) (hσ : σ t = .pointer (some ⟨b, 0, none⟩)) : SS σ o W W' :=
  ⟨Nat.le_of_eq hp.size.symm, fun k _ => by
    by_cases e : k = b
    · subst e; exact .inr ⟨ty, t, y, ho, ht, hσ⟩
    · exact .inl (hp.other _ e)⟩

theorem keep11 (h : TC w wr g A1 c1 A2 c2 σ W) {o : Oper} (hs : SS σ o W W') (hQ : isSt 11 o = false) {b : Nat} (hσ : σ 11 = .pointer (some ⟨b, 0, none⟩)) (hb : b < W.heap.size) : W'.heap[b]? = W.heap[b]? := by
  rcases hs.2 b hb with hx | ⟨ty, t, y, ho, ht, hp⟩
  · exact hx
  · exfalso
    rcases ht with rfl | rfl
    · simp [isSt, ho] at hQ
    · exact h.ne b hσ hp
theorem keep12 (h : TC w wr g A1 c1 A2 c2 σ W) {o : Oper} (hs : SS σ o W W') (hQ : isSt 12 o = false) {b : Nat} (hσ : σ 12 = .pointer (some ⟨b, 0, none⟩)) (hb : b < W.heap.size) : W'.heap[b]? = W.heap[b]? := by
  rcases hs.2 b hb with hx | ⟨ty, t, y, ho, ht, hp⟩
  · exact hx
  · exfalso
    rcases ht with rfl | rfl
    · exact h.ne b hp hσ
    · simp [isSt, ho] at hQ

theorem gcs_one (A1 : Option Addr) (c1 : Nat) (A2 : Option Addr) (c2 : Nat) : ∀ v ∈ (gcs g A1 c1 A2 c2).toList, v.oneCell' = true := by
  intro v hv
  simp at hv
  rcases hv with rfl | rfl | rfl | rfl | rfl | rfl | rfl | rfl | rfl | rfl <;> rfl
theorem splice_whole {L cs : List Value} (h : L.length = cs.length) : splice L 0 cs = cs := by simp [splice, h]
theorem NewB.get {n0 b : Nat} {v : Value} (h : NewB n0 v W) (e : v = .pointer (some ⟨b, 0, none⟩)) : ∃ L : List Value, n0 ≤ b ∧ W.heap[b]? = some (.cells L.toArray 29 (0, 0)) ∧ L.length = 10 := by
  rcases h with h | ⟨b', L, hv, hn, hb, hl⟩
  · rw [h] at e; cases e
  · rw [hv] at e
    simp only [Value.pointer.injEq, Option.some.injEq, Addr.mk.injEq, and_true] at e
    subst e
    exact ⟨L, hn, hb, hl⟩

/-- The twin's block, and the copy's one. -/
def TwB (n0 : Nat) (g : Gr) : Fact := fun v W => ∃ b n1 g1 x1 g2 x2, v = .pointer (some ⟨b, 0, none⟩) ∧ n0 ≤ b ∧ W.heap[b]? = some (.cells (gcs g (some ⟨g1, 0, none⟩) x1 (some ⟨g2, 0, none⟩) x2) 29 (0, 0)) ∧ TwF n0 g (grv g (some ⟨g1, 0, none⟩) x1 (some ⟨g2, 0, none⟩) x2) W ∧ n0 ≤ n1
def CpB (n0 : Nat) (g : Gr) (A1 : Option Addr) (c1 : Nat) (A2 : Option Addr) (c2 : Nat) : Fact := fun v W => ∃ b, v = .pointer (some ⟨b, 0, none⟩) ∧ n0 ≤ b ∧ W.heap[b]? = some (.cells (gcs g A1 c1 A2 c2) 29 (0, 0))
theorem TwB.keep {n0 : Nat} {o : Oper} (hv : TwB n0 g (σ 11) W) (h : TC w wr g A1 c1 A2 c2 σ W) (hs : SS σ o W W') (hQ : isSt 11 o = false) : TwB n0 g (σ 11) W' := by
  obtain ⟨b, n1, g1, x1, g2, x2, e, hb, hm, ht, hn⟩ := hv
  exact ⟨b, n1, g1, x1, g2, x2, e, hb, (keep11 h hs hQ e (lt_of_heap hm)).trans hm, ht.keep h hs, hn⟩
theorem CpB.keep {n0 : Nat} {o : Oper} {B1 B2 : Option Addr} {d1 d2 : Nat} (hv : CpB n0 g B1 d1 B2 d2 (σ 12) W) (h : TC w wr g A1 c1 A2 c2 σ W) (hs : SS σ o W W') (hQ : isSt 12 o = false) : CpB n0 g B1 d1 B2 d2 (σ 12) W' := by
  obtain ⟨b, e, hb, hm⟩ := hv
  exact ⟨b, e, hb, (keep12 h hs hQ e (lt_of_heap hm)).trans hm⟩
end

end Go.Proofs.Ytanjolmelbipoaa
