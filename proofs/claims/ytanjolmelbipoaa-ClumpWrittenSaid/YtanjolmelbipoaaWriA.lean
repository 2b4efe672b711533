/-
  The law ClumpWritten: where nothing is asked; what holds where a season is appended, and where two entries are laid side by side.
-/
import Derived.Test.YtanjolmelbipoaaWriN
import Derived.Test.YtanjolmelbipoaaZM
import Derived.Test.YtanjolmelbipoaaZK
import Derived.Test.YtanjolmelbipoaaRegs6
import Derived.Test.YtanjolmelbipoaaWidC
import Derived.Deep.LoopGhost
namespace Go.Proofs.Ytanjolmelbipoaa
open Go.RowKit Go.Shelf

attribute [local go_sem] gives

set_option maxRecDepth 100000 in
set_option maxHeartbeats 4000000 in
theorem clumpWritten_idle (g : Gr) (ps : List (Int × Int)) (zs : List Int) (A1 : Option Addr) (c1 : Nat) (A2 : Option Addr) (c2 : Nat) (P1 : Option Addr) (k1 : Nat) (P2 : Option Addr) (k2 : Nat) (P3 : Option Addr) (k3 n3 : Nat) (w : World) (hG : GrAt w w.heap.size g A1 c1 A2 c2)
    (hV1 : Vals w w.heap.size P1 (pairs ps)) (hV2 : Ints w w.heap.size P2 zs) (l1 : ps.length ≤ 9223372036854775807) (l2 : zs.length ≤ 9223372036854775807)
    (h : readyB g ps = false ∨ planOk zs ps.length = false ∨ zs.length < 2) :
    Calls Try.prog 11 #[grv g A1 c1 A2 c2, .slice P1 ps.length k1, .slice P2 zs.length k2, .slice P3 n3 k3] w fun e w' => e = .returned (.bool true) ∧ Below w.heap.size w w' := by
  have HG := Lib.hid hG
  have HV := Lib.hid (And.intro hV1 hV2)
  obtain ⟨w0, hw0⟩ : ∃ w0, w.alloc (.cells (gcs g A1 c1 A2 c2) 29) = w0 := ⟨_, rfl⟩
  have hb0 : Below w.heap.size w w0 := by rw [← hw0]; exact (Below.refl _ _).alloc (Nat.le_refl _) _
  have hs0 : w0.heap.size = w.heap.size + 1 := by rw [← hw0]; simp
  have hm0 : w0.heap[w.heap.size]? = some (.cells (gcs g A1 c1 A2 c2) 29 (0, 0)) := by rw [← hw0]; exact alloc_at0 w _
  have B0 := Lib.hid (And.intro hb0 (And.intro hm0 hs0))
  clear hG hV1 hV2 hb0 hm0 hs0
  simp only [gcs] at hw0
  unfold grv
  have hcase : readyB g ps = false ∨ (readyB g ps = true ∧ planOk zs ps.length = false) ∨ (readyB g ps = true ∧ planOk zs ps.length = true ∧ zs.length < 2) := by
    cases h1 : readyB g ps with
    | false => exact .inl rfl
    | true =>
      cases h2 : planOk zs ps.length with
      | false => exact .inr (.inl ⟨rfl, rfl⟩)
      | true =>
        rw [h1, h2] at h
        simp only [Bool.true_eq_false, false_or] at h
        exact .inr (.inr ⟨rfl, rfl, h⟩)
  clear h
  rcases hcase with hr | ⟨hr, hp⟩ | ⟨hr, hp, h2⟩
  · have HR := Lib.hid hr
    clear hr
    go_enter Try.func11, Try.ntmps11
    go_wp2_with (first
      | (go_at_call 28; refine (alive_any w0).mono ?_; rintro e w1 ⟨rfl, hB1⟩
         have hc1 := fun i => cell_of_row w1 w.heap.size i _ _ _ ((hB1.block _ (by have := B0.out.2.2; omega)).trans B0.out.2.1)
         have H1 := Lib.hid (B0.out.1.trans (hB1.mono (by have := B0.out.2.2; omega))); clear hB1)
      | (go_at_call 29; refine (ready_any g A1 c1 A2 c2 P1 k1 ps w.heap.size w1 H1.out.size (HG.out.below H1.out) (HV.out.1.below H1.out) l1).mono ?_; rintro e w2 ⟨rfl, hB2⟩; rw [HR.out]
         have H2 := Lib.hid (H1.out.trans (hB2.mono H1.out.size)); clear hB2))
    go_ret
    exact ⟨rfl, H2.out⟩
  all_goals
    have HR := Lib.hid (And.intro hr hp)
    clear hr hp
    go_enter Try.func11, Try.ntmps11
    go_wp2_with (first
      | (go_at_call 28; refine (alive_any w0).mono ?_; rintro e w1 ⟨rfl, hB1⟩
         have hc1 := fun i => cell_of_row w1 w.heap.size i _ _ _ ((hB1.block _ (by have := B0.out.2.2; omega)).trans B0.out.2.1)
         have H1 := Lib.hid (B0.out.1.trans (hB1.mono (by have := B0.out.2.2; omega))); clear hB1)
      | (go_at_call 29; refine (ready_any g A1 c1 A2 c2 P1 k1 ps w.heap.size w1 H1.out.size (HG.out.below H1.out) (HV.out.1.below H1.out) l1).mono ?_; rintro e w2 ⟨rfl, hB2⟩; rw [HR.out.1]
         have H2 := Lib.hid (H1.out.trans (hB2.mono H1.out.size)); clear hB2)
      | (go_at_call 30; refine (refPlan_any P1 k1 ps P2 k2 zs w.heap.size w2 (HV.out.2.below H2.out) l2 l1).mono ?_; rintro e w3 ⟨rfl, rfl⟩; rw [HR.out.2]))
    go_ret
    exact ⟨rfl, H2.out⟩

/-! ### A season is appended -/
open R6 (done done_ne done_me upd_ne upd_me Knows)


/-- Which slots and operations of the region matter. -/
def appK (k : Nat) (d : Option Nat) : Bool := !(k == 7 || k == 8 || k == 10 || d == some 103 || d == some 104)

structure AppC (w0 : World) (bn g2 : Nat) (x2 : Nat) (old : Array Value) (ss : List (Int × Int)) (p : Int × Int) (g1 : Nat) (st : List Int) (D : Nat → Bool) (σ : Nat → Value) (W : World) : Prop where
  bel : Below w0.heap.size w0 W
  lbn : w0.heap.size ≤ bn
  lg2 : w0.heap.size ≤ g2
  ne : bn ≠ g2
  ne1 : g1 ≠ bn ∧ g1 ≠ g2
  sz : bn < W.heap.size ∧ g2 < W.heap.size
  st1 : Ints W W.heap.size (some ⟨g1, 0, none⟩) st
  own : D 8 = false → W.ownsRow w0.heap.size 76 2 (.slice (some ⟨g2, 0, none⟩) ss.length x2) ss.length (pairs ss)
  new : D 7 = true → D 8 = false → ∃ b, σ 103 = .slice (some ⟨b, 0, none⟩) 1 1 ∧ W.heap[b]? = some (.cells #[.int .i64 p.1, .int .i64 p.2] 76 (0, 0))
  row : D 8 = true → ∃ A c, σ 104 = .slice A (ss.length + 1) c ∧ W.ownsRow w0.heap.size 76 2 (σ 104) (ss.length + 1) (pairs (ss ++ [p]))
  bno : D 10 = false → W.heap[bn]? = some (.cells old 29 (0, 0))
  bnn : D 10 = true → W.heap[bn]? = some (.cells (old.setIfInBounds 9 (σ 104)) 29 (0, 0))

section
variable {w0 W W' : World} {bn g2 x2 : Nat} {old : Array Value} {ss : List (Int × Int)} {p : Int × Int} {g1 : Nat} {st : List Int} {D : Nat → Bool} {σ : Nat → Value}
theorem AppC.move {k : Nat} {d : Option Nat} {v : Value} (h : AppC w0 bn g2 x2 old ss p g1 st D σ W) (hk : appK k d = true) : AppC w0 bn g2 x2 old ss p g1 st (done D k) (R4.upd σ d v) W := by
  simp only [appK, Bool.not_eq_true', Bool.or_eq_false_iff, beq_eq_false_iff_ne, ne_eq] at hk
  obtain ⟨⟨⟨⟨h7, h8⟩, h10⟩, d3⟩, d4⟩ := hk
  have e7 := done_ne (D := D) (k := k) (j := 7) (by omega)
  have e8 := done_ne (D := D) (k := k) (j := 8) (by omega)
  have e10 := done_ne (D := D) (k := k) (j := 10) (by omega)
  have u3 := upd_ne (ρ := σ) (v := v) d3
  have u4 := upd_ne (ρ := σ) (v := v) d4
  exact ⟨h.bel, h.lbn, h.lg2, h.ne, h.ne1, h.sz, h.st1, by rw [e8]; exact h.own, by rw [e7, e8, u3]; exact h.new, by rw [e8, u4]; exact h.row, by rw [e10]; exact h.bno, by rw [e10, u4]; exact h.bnn⟩

theorem own_type {base : Nat} {e : TypeId} {size n : Nat} {v : Value} {xs : List Value} {b : Nat} {cur : Array Value} {t : TypeId} {fr : Nat × Nat} (h : W.ownsRow base e size v n xs) (hb : W.heap[b]? = some (.cells cur t fr)) (ht : t ≠ e) (hp : Put W W' b) : W'.ownsRow base e size v n xs :=
  own_same h fun k cur' fr' hk => hp.other k fun e' => by
    subst e'
    rw [hb] at hk
    simp only [Option.some.injEq, Obj.cells.injEq] at hk
    exact ht hk.2.1

/-- The new season lies in a block of its own. -/
theorem AppC.new7 (h : AppC w0 bn g2 x2 old ss p g1 st D σ W) (h8 : D 8 = false) (h10 : D 10 = false) :
    AppC w0 bn g2 x2 old ss p g1 st (done D 7) (R4.upd σ (some 103) (.slice (some ⟨W.heap.size, 0, none⟩) 1 1)) (W.alloc (.cells #[.int .i64 p.1, .int .i64 p.2] 76)) := by
  have hg : Grows W (W.alloc (.cells #[.int .i64 p.1, .int .i64 p.2] 76)) := grow1 _ _
  have e8 := done_ne (D := D) (k := 7) (j := 8) (by decide)
  have e10 := done_ne (D := D) (k := 7) (j := 10) (by decide)
  have hs := hg.size
  refine ⟨h.bel.trans (hg.mono h.bel.size), h.lbn, h.lg2, h.ne, h.ne1, by have := h.sz; omega, (h.st1.below hg).mono hg.size, by rw [e8]; exact fun e => own_grows (h.own e) hg, fun _ _ => ?_, fun e => ?_, ?_, fun e => ?_⟩
  · exact ⟨_, R6.upd_me, alloc_at0 _ _⟩
  · rw [e8, h8] at e; cases e
  · rw [e10]
    exact fun e => (hg.block _ h.sz.1).trans (h.bno e)
  · rw [e10, h10] at e; cases e

/-- It is appended. -/
theorem AppC.app8 (h : AppC w0 bn g2 x2 old ss p g1 st D σ W) {v' : Value} (h10 : D 10 = false) (ho : W'.ownsRow w0.heap.size 76 2 v' (ss.length + 1) (pairs (ss ++ [p]))) (hg : W.grownBy W' (some g2)) :
    AppC w0 bn g2 x2 old ss p g1 st (done D 8) (R4.upd σ (some 104) v') W' := by
  have e10 := done_ne (D := D) (k := 8) (j := 10) (by decide)
  obtain ⟨A', c', hv⟩ := own_slice ho
  refine ⟨h.bel.grown hg h.bel.size (fun k e => by cases e; exact h.lg2), h.lbn, h.lg2, h.ne, h.ne1, by have := h.sz; have := hg.size; omega, ?_, fun e => ?_, fun _ e => ?_, fun _ => ?_, ?_, fun e => ?_⟩
  · intro hl
    obtain ⟨b, o, hA, hb, hc⟩ := h.st1 hl
    simp only [Option.some.injEq, Addr.mk.injEq, and_true] at hA
    obtain ⟨rfl, rfl⟩ := hA
    refine ⟨_, _, rfl, Nat.lt_of_lt_of_le hb hg.size, fun k hk => ?_⟩
    rw [← hc k hk]
    exact World.cell?_of_block (hg.block _ hb (by simpa using h.ne1.2))
  · rw [done_me] at e; cases e
  · rw [done_me] at e; cases e
  · exact ⟨A', c', by rw [R6.upd_me, hv], by rw [R6.upd_me]; exact ho⟩
  · rw [e10]
    exact fun e => (hg.block _ h.sz.1 (by simpa using h.ne)).trans (h.bno e)
  · rw [e10, h10] at e; cases e

/-- The list is stored into the grove. -/
theorem AppC.put10 (h : AppC w0 bn g2 x2 old ss p g1 st D σ W) (h8 : D 8 = true) (h10 : D 10 = false) (hp : Put W W' bn) (hM : W'.heap[bn]? = some (.cells (old.setIfInBounds 9 (σ 104)) 29 (0, 0))) :
    AppC w0 bn g2 x2 old ss p g1 st (done D 10) σ W' := by
  have e7 := done_ne (D := D) (k := 10) (j := 7) (by decide)
  have e8 := done_ne (D := D) (k := 10) (j := 8) (by decide)
  refine ⟨h.bel.trans (hp.below h.lbn), h.lbn, h.lg2, h.ne, h.ne1, by have := h.sz; have := hp.size; omega, ?_, fun e => ?_, fun _ e => ?_, fun _ => ?_, fun e => ?_, fun _ => hM⟩
  · intro hl
    obtain ⟨b, o, hA, hb, hc⟩ := h.st1 hl
    simp only [Option.some.injEq, Addr.mk.injEq, and_true] at hA
    obtain ⟨rfl, rfl⟩ := hA
    refine ⟨_, _, rfl, by rw [hp.size]; exact hb, fun k hk => ?_⟩
    rw [← hc k hk]
    exact World.cell?_of_block (hp.other _ h.ne1.1)
  · rw [e8, h8] at e; cases e
  · rw [e8, h8] at e; cases e
  · obtain ⟨A', c', hv, ho⟩ := h.row h8
    exact ⟨A', c', hv, own_type ho (h.bno h10) (by decide) hp⟩
  · rw [done_me] at e; cases e
end

theorem own_cap2 {W : World} {base : Nat} {e : TypeId} {size n c : Nat} {A : Option Addr} {xs : List Value} (h : W.ownsRow base e size (.slice A n c) n xs) : n ≤ c := by
  rcases h.2 with ⟨h0, hn⟩ | ⟨g', cap', cur, hv, hb, hh, h3, _⟩
  · omega
  · simp only [Value.slice.injEq] at hv
    obtain ⟨_, _, rfl⟩ := hv
    exact h3
theorem upd_none (ρ : Nat → Value) (v : Value) : R4.upd ρ none v = ρ := by
  funext t
  exact R6.upd_ne (by simp)
theorem next_gr {g : Gr} {S N : Int} {W : World} {A1 A2 : Option Addr} {c1 c2 : Nat} {base : Nat} (h1 : Ints W W.heap.size A1 g.start) (hc : g.start.length ≤ c1) (hl : g.start.length ≤ 9223372036854775807) (hs : g.seas.length ≤ 60) (ho : W.ownsRow base 76 2 (.slice A2 (g.seas.length + 1) c2) (g.seas.length + 1) (pairs (g.seas ++ [(S, N)]))) :
    GrAt W W.heap.size (nextG g S N) A1 c1 A2 c2 :=
  ⟨h1, Vals.own ho, hc, by simpa [nextG] using own_cap2 ho, hl, by simp [nextG]; omega⟩

/-! ### Two entries are laid side by side -/
def twoK (k : Nat) (d : Option Nat) : Bool := !(k == 9 || k == 10 || k == 11 || k == 12 || d == some 21 || d == some 22)
def zero4 : List Value := [.int .i64 0, .int .i64 0, .int .i64 0, .int .i64 0]
def quad (q : Int × Int × Int × Int) : List Value := [.int .i64 q.1, .int .i64 q.2.1, .int .i64 q.2.2.1, .int .i64 q.2.2.2]
theorem quad_one (q : Int × Int × Int × Int) : ∀ v ∈ quad q, v.oneCell' = true := by
  intro v hv
  simp only [quad, List.mem_cons, List.not_mem_nil, or_false] at hv
  rcases hv with rfl | rfl | rfl | rfl <;> rfl
theorem rowAhead4 : RowTy Try.prog 65 4 := ⟨⟨_, Try.underlying65, rfl⟩, by kernel_rfl⟩
def isB (v : Value) (n0 : Nat) (l : List Value) (W : World) (b : Nat) : Prop := v = .pointer (some ⟨b, 0, none⟩) ∧ n0 ≤ b ∧ W.heap[b]? = some (.cells l.toArray 65 (0, 0))
theorem isB.lt {v : Value} {n0 b : Nat} {l : List Value} {W : World} (h : isB v n0 l W b) : b < W.heap.size := lt_of_heap h.2.2
theorem isB.grows {v : Value} {n0 b : Nat} {l : List Value} {W W' : World} (h : isB v n0 l W b) (hg : Grows W W') : isB v n0 l W' b := ⟨h.1, h.2.1, (hg.block _ h.lt).trans h.2.2⟩
theorem isB.put {v : Value} {n0 b b' : Nat} {l : List Value} {W W' : World} (h : isB v n0 l W b) (hp : Put W W' b') (hne : b ≠ b') : isB v n0 l W' b := ⟨h.1, h.2.1, (hp.other _ hne).trans h.2.2⟩

structure TwoC (w0 : World) (X Y : List Value) (D : Nat → Bool) (σ : Nat → Value) (W : World) : Prop where
  bel : Below w0.heap.size w0 W
  a : D 9 = true → ∃ b, isB (σ 21) w0.heap.size (if D 11 = true then X else zero4) W b
  b : D 10 = true → ∃ b, isB (σ 22) w0.heap.size (if D 12 = true then Y else zero4) W b
  ne : D 9 = true → D 10 = true → σ 21 ≠ σ 22
section
variable {w0 W W' : World} {X Y : List Value} {D : Nat → Bool} {σ : Nat → Value}
theorem TwoC.move {k : Nat} {d : Option Nat} {v : Value} (h : TwoC w0 X Y D σ W) (hk : twoK k d = true) : TwoC w0 X Y (done D k) (R4.upd σ d v) W := by
  simp only [twoK, Bool.not_eq_true', Bool.or_eq_false_iff, beq_eq_false_iff_ne, ne_eq] at hk
  obtain ⟨⟨⟨⟨⟨h9, h10⟩, h11⟩, h12⟩, d1⟩, d2⟩ := hk
  have e9 := done_ne (D := D) (k := k) (j := 9) (by omega)
  have e10 := done_ne (D := D) (k := k) (j := 10) (by omega)
  have e11 := done_ne (D := D) (k := k) (j := 11) (by omega)
  have e12 := done_ne (D := D) (k := k) (j := 12) (by omega)
  have u1 := upd_ne (ρ := σ) (v := v) d1
  have u2 := upd_ne (ρ := σ) (v := v) d2
  exact ⟨h.bel, by rw [e9, e11, u1]; exact h.a, by rw [e10, e12, u2]; exact h.b, by rw [e9, e10, u1, u2]; exact h.ne⟩
theorem TwoC.newA (h : TwoC w0 X Y D σ W) (h11 : D 11 = false) : TwoC w0 X Y (done D 9) (R4.upd σ (some 21) (.pointer (some ⟨W.heap.size, 0, none⟩))) (W.alloc (.cells zero4.toArray 65)) := by
  have hg : Grows W (W.alloc (.cells zero4.toArray 65)) := grow1 _ _
  have e10 := done_ne (D := D) (k := 9) (j := 10) (by decide)
  have e11 := done_ne (D := D) (k := 9) (j := 11) (by decide)
  have e12 := done_ne (D := D) (k := 9) (j := 12) (by decide)
  have u2 := upd_ne (ρ := σ) (d := some 21) (v := .pointer (some ⟨W.heap.size, 0, none⟩)) (t := 22) (by decide)
  refine ⟨h.bel.trans (hg.mono h.bel.size), fun _ => ⟨W.heap.size, R6.upd_me, h.bel.size, ?_⟩, ?_, fun _ e => ?_⟩
  · rw [e11, h11]; exact alloc_at0 _ _
  · rw [e10, e12, u2]
    exact fun e => let ⟨b, hb⟩ := h.b e; ⟨b, hb.grows hg⟩
  · rw [e10] at e
    rw [u2, R6.upd_me]
    obtain ⟨b, hb⟩ := h.b e
    have := hb.lt
    rw [hb.1]
    intro e'
    simp only [Value.pointer.injEq, Option.some.injEq, Addr.mk.injEq, and_true] at e'
    omega
theorem TwoC.newB (h : TwoC w0 X Y D σ W) (h12 : D 12 = false) : TwoC w0 X Y (done D 10) (R4.upd σ (some 22) (.pointer (some ⟨W.heap.size, 0, none⟩))) (W.alloc (.cells zero4.toArray 65)) := by
  have hg : Grows W (W.alloc (.cells zero4.toArray 65)) := grow1 _ _
  have e9 := done_ne (D := D) (k := 10) (j := 9) (by decide)
  have e11 := done_ne (D := D) (k := 10) (j := 11) (by decide)
  have e12 := done_ne (D := D) (k := 10) (j := 12) (by decide)
  have u1 := upd_ne (ρ := σ) (d := some 22) (v := .pointer (some ⟨W.heap.size, 0, none⟩)) (t := 21) (by decide)
  refine ⟨h.bel.trans (hg.mono h.bel.size), ?_, fun _ => ⟨W.heap.size, R6.upd_me, h.bel.size, ?_⟩, fun e _ => ?_⟩
  · rw [e9, e11, u1]
    exact fun e => let ⟨b, hb⟩ := h.a e; ⟨b, hb.grows hg⟩
  · rw [e12, h12]; exact alloc_at0 _ _
  · rw [e9] at e
    rw [u1, R6.upd_me]
    obtain ⟨b, hb⟩ := h.a e
    have := hb.lt
    rw [hb.1]
    intro e'
    simp only [Value.pointer.injEq, Option.some.injEq, Addr.mk.injEq, and_true] at e'
    omega
theorem TwoC.putA (h : TwoC w0 X Y D σ W) (h9 : D 9 = true) {b : Nat} (hb : σ 21 = .pointer (some ⟨b, 0, none⟩)) (hp : Put W W' b) (hM : W'.heap[b]? = some (.cells X.toArray 65 (0, 0))) : TwoC w0 X Y (done D 11) σ W' := by
  have e9 := done_ne (D := D) (k := 11) (j := 9) (by decide)
  have e10 := done_ne (D := D) (k := 11) (j := 10) (by decide)
  have e12 := done_ne (D := D) (k := 11) (j := 12) (by decide)
  obtain ⟨b', hb'⟩ := h.a h9
  have eb : b' = b := by
    have := hb'.1.symm.trans hb
    simpa using this
  subst eb
  refine ⟨h.bel.trans (hp.below hb'.2.1), fun _ => ⟨b', hb, hb'.2.1, by rw [done_me]; exact hM⟩, ?_, by rw [e9, e10]; exact h.ne⟩
  rw [e10, e12]
  intro e
  obtain ⟨c, hc⟩ := h.b e
  exact ⟨c, hc.put hp fun e' => h.ne h9 e (by rw [hb, hc.1, e'])⟩
theorem TwoC.putB (h : TwoC w0 X Y D σ W) (h10 : D 10 = true) {b : Nat} (hb : σ 22 = .pointer (some ⟨b, 0, none⟩)) (hp : Put W W' b) (hM : W'.heap[b]? = some (.cells Y.toArray 65 (0, 0))) : TwoC w0 X Y (done D 12) σ W' := by
  have e9 := done_ne (D := D) (k := 12) (j := 9) (by decide)
  have e10 := done_ne (D := D) (k := 12) (j := 10) (by decide)
  have e11 := done_ne (D := D) (k := 12) (j := 11) (by decide)
  obtain ⟨b', hb'⟩ := h.b h10
  have eb : b' = b := by
    have := hb'.1.symm.trans hb
    simpa using this
  subst eb
  refine ⟨h.bel.trans (hp.below hb'.2.1), ?_, fun _ => ⟨b', hb, hb'.2.1, by rw [done_me]; exact hM⟩, by rw [e9, e10]; exact h.ne⟩
  rw [e9, e11]
  intro e
  obtain ⟨c, hc⟩ := h.a e
  exact ⟨c, hc.put hp fun e' => h.ne e h10 (by rw [hb, hc.1, e'])⟩
end

/-! ### What Look tells, in slots -/
def tupAt (v : Value) (i : Nat) : Value := match v with
  | .tuple a => a.getD i undef
  | _ => undef
def lkK (k : Nat) (d : Option Nat) : Bool := !(k == 5 || d == some 135)
structure LkC (w0 : World) (l : List (Int × Int × Int × Int)) (D : Nat → Bool) (σ : Nat → Value) (W : World) : Prop where
  bel : Below w0.heap.size w0 W
  res : D 5 = true → ∃ X x, σ 135 = .tuple #[.slice X l.length x, .int .i64 l.length, .int .i64 0] ∧ Vals W W.heap.size X (quads l)
theorem LkC.move {w0 W : World} {l : List (Int × Int × Int × Int)} {D : Nat → Bool} {σ : Nat → Value} {k : Nat} {d : Option Nat} {v : Value} (h : LkC w0 l D σ W) (hk : lkK k d = true) : LkC w0 l (done D k) (R4.upd σ d v) W := by
  simp only [lkK, Bool.not_eq_true', Bool.or_eq_false_iff, beq_eq_false_iff_ne, ne_eq] at hk
  have e5 := done_ne (D := D) (k := k) (j := 5) (by omega)
  have u1 := upd_ne (ρ := σ) (v := v) hk.2
  exact ⟨h.bel, by rw [e5, u1]; exact h.res⟩
theorem pairs_drop (l : List (Int × Int)) : pairs (l.drop 1) = (pairs l).drop 2 := by
  cases l with
  | nil => rfl
  | cons p l => simp [pairs]

section
variable {P : Program} {op : Oper} {a : Act} {w : World} {R : Value → World → Prop}
theorem gives_store_val (ty : TypeId) (x y : Operand) (ho : op.op = .store ty x y) {b o : Nat} (hx : a.eval x = .pointer (some ⟨b, o, none⟩)) {v : Value} (hy : a.eval y = v) (hv : v.cells = #[v]) (hv1 : v.oneCell' = true) {L : List Value}
    {t : TypeId} (hb : w.heap[b]? = some (.cells L.toArray t (0, 0))) (hfit : o < L.length) (hty : (P.info? ty).map (·.size) = some 1)
    (h : ∀ w', Put w w' b → w'.heap[b]? = some (.cells (L.set o v).toArray t (0, 0)) → R undef w') : gives P op a w R := by
  have hrun := run_store_one (P := P) (v := v) hb hfit hv hv1 hty
  unfold gives execOp
  simp only [ho, hx, hy, Sem.run_bind, Sem.run_pure, hrun, Result.andThen_ok]
  refine h _ (put_setCells b [v] o w) ?_
  have := heap_setCell_same w b o _ _ v hb
  rwa [List.setIfInBounds_toArray] at this
end

end Go.Proofs.Ytanjolmelbipoaa
