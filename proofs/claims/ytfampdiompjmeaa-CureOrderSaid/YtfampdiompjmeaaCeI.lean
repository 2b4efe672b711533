/-
  What is in the cells of a batch, in lists of their own (the program's).
-/
import Derived.Test.YtfampdiompjmeaaCeH
import Derived.Laws.Cover3
namespace Go.Proofs.Ytfampdiompjmeaa
open Go.RowKit Go.Shelf
open R6 (done done_ne done_me upd_ne upd_me)

attribute [local go_sem] gives

theorem run_eql_slice_nil {P : Program} (w : World) (t e : TypeId) (a : Option Addr) (l c : Nat) (h : P.underlying t = some (.slice e)) : (binOp .eql t (.slice a l c) (.slice none 0 0)).run P w = .ok (.bool a.isNone) w := by
  simp only [binOp]
  simp [run_equal_slice_nil w t e a l c h]

theorem info3 : (Try.prog.info? 3).map (fun i => (i.zero, i.size, i.bytes)) = some (some (.int .i64 0), 1, 8) := by kernel_rfl

/-- A list of its own. -/
def OwnI (W : World) (base : Nat) (v : Value) (zs : List Int) : Prop := W.ownsRow base 3 1 v zs.length (ints zs)

set_option maxRecDepth 100000 in
set_option maxHeartbeats 1000000 in
theorem clone_any (b off cap : Nat) (zs : List Int) (w : World) (hl : zs.length ≤ 1000) (hI : Ints w w.heap.size (some ⟨b, off, none⟩) zs) :
    Calls Try.prog 69 #[.slice (some ⟨b, off, none⟩) zs.length cap] w fun e w' => ∃ g c, e = .returned (.slice (some ⟨g, 0, none⟩) zs.length c) ∧ OwnI w' w.heap.size (.slice (some ⟨g, 0, none⟩) zs.length c) zs ∧ Below w.heap.size w w' := by
  obtain ⟨i0, hi, hz0, hz1, hz2⟩ := info_parts info3
  have HI := Lib.hid (And.intro hi (And.intro hz0 (And.intro hz1 hz2)))
  have h1 := oneCells_ints zs
  have hsl : (ints zs).length = zs.length * 1 := by simp [ints]
  have HV := Lib.hid hI.vals
  have Hsl := Lib.hid hsl
  clear hI hi hz0 hz1 hz2 hsl
  have hnil : ∀ W, (binOp .eql 47 (.slice (some ⟨b, off, none⟩) zs.length cap) (.slice none 0 0)).run Try.prog W = .ok (.bool false) W := fun W => run_eql_slice_nil W 47 3 (some ⟨b, off, none⟩) zs.length cap Try.underlying47
  go_enter Try.func69, Try.ntmps69
  go_wp2_with (first
    | (at_builtin
       refine wpl_clone (by rfl) (.tmp 5) (.tmp 6) _ (by rfl) w.heap.size 3 i0 _ 1 8 Try.underlying47 HI.out.1 HI.out.2.1 HI.out.2.2.1 HI.out.2.2.2 rfl (by omega) _ (by rfl) (alloc_at0 _ _) (by omega)
         w.heap.size (some ⟨b, off, none⟩) zs.length cap (ints zs) (by rfl) (HV.out.below ((Below.refl _ _).alloc (Nat.le_refl _) _)) Hsl.out h1 (by simp only [maxLen]; omega) (by omega) ?_
       intro x1 y1 w3 hown hgrow hat hx1 hx1s
       have HO := Lib.hid hown
       have HB3 := Lib.hid (Below.ofGrown ((Below.refl w.heap.size w).alloc (Nat.le_refl _) _) hgrow (by simp) (Nat.le_refl _))
       clear hown hgrow hat)
    | fail)
  go_ret
  exact ⟨x1, y1, rfl, HO.out, HB3.out⟩

theorem OwnI.ints {W : World} {base : Nat} {A : Option Addr} {c : Nat} {zs : List Int} (h : OwnI W base (.slice A zs.length c) zs) : Ints W W.heap.size A zs := (Vals.own h).ints
theorem OwnI.grows {W W' : World} {base : Nat} {v : Value} {zs : List Int} (h : OwnI W base v zs) (hg : Grows W W') : OwnI W' base v zs := own_grows h hg
theorem OwnI.less {W : World} {base base' : Nat} {v : Value} {zs : List Int} (h : OwnI W base v zs) (hb : base' ≤ base) : OwnI W base' v zs := by
  refine ⟨h.1, h.2.imp id ?_⟩
  rintro ⟨g, cap, cur, h1, h2, h3⟩
  exact ⟨g, cap, cur, h1, Nat.le_trans hb h2, h3⟩
/-- What turns a block of another type leaves it. -/
theorem own_turn {W W' : World} {base : Nat} {e : TypeId} {size n : Nat} {v : Value} {xs : List Value} {r : Option Nat} (h : W.ownsRow base e size v n xs) (hg : W.grownBy W' r)
    (ht : ∀ b cur t fr, r = some b → W.heap[b]? = some (.cells cur t fr) → t ≠ e) : W'.ownsRow base e size v n xs :=
  own_same h fun k cur fr hk => hg.block k (lt_of_heap hk) fun e' => ht k cur _ fr e'.symm hk rfl
theorem own_blockType {W : World} {base : Nat} {e : TypeId} {size n : Nat} {v : Value} {xs : List Value} (h : W.ownsRow base e size v n xs) {b : Nat} (hb : v.ownBlock = some b) : ∃ cur, W.heap[b]? = some (.cells cur e (0, 0)) ∧ base ≤ b := by
  rcases h.2 with ⟨rfl, _⟩ | ⟨g, cap, cur, rfl, h2, h3, _⟩
  · cases hb
  · simp only [Value.ownBlock, Option.some.injEq] at hb
    subst hb
    exact ⟨cur, h3, h2⟩

/-- Lists of their own, in a list of its own. -/
structure OwnR (W : World) (base : Nat) (v : Value) (ls : List Sl) : Prop where
  row : W.ownsRow base 47 1 v ls.length (slvs ls)
  each : ∀ s ∈ ls, OwnI W base (slv s) s.zs
theorem slvs_one (ls : List Sl) : ∀ v ∈ slvs ls, v.oneCell' = true := by
  intro v hv
  simp only [slvs, List.mem_map] at hv
  obtain ⟨s, _, rfl⟩ := hv
  rfl
theorem OwnR.rows {W : World} {base : Nat} {A : Option Addr} {c : Nat} {ls : List Sl} (h : OwnR W base (.slice A ls.length c) ls) : Rows W W.heap.size A ls :=
  ⟨Vals.own h.row, fun s hs => (h.each s hs).ints⟩
theorem OwnR.grows {W W' : World} {base : Nat} {v : Value} {ls : List Sl} (h : OwnR W base v ls) (hg : Grows W W') : OwnR W' base v ls := ⟨own_grows h.row hg, fun s hs => (h.each s hs).grows hg⟩
theorem OwnR.less {W : World} {base base' : Nat} {v : Value} {ls : List Sl} (h : OwnR W base v ls) (hb : base' ≤ base) : OwnR W base' v ls := by
  refine ⟨⟨h.row.1, h.row.2.imp id ?_⟩, fun s hs => (h.each s hs).less hb⟩
  rintro ⟨g, cap, cur, h1, h2, h3⟩
  exact ⟨g, cap, cur, h1, Nat.le_trans hb h2, h3⟩
/-- One list more. -/
theorem OwnR.app {W W' : World} {base : Nat} {v v' : Value} {ls : List Sl} {s : Sl} (h : OwnR W base v ls) (hs : OwnI W base (slv s) s.zs) (hg : W.grownBy W' v.ownBlock) (ho : W'.ownsRow base 47 1 v' (ls.length + 1) (slvs ls ++ [slv s])) : OwnR W' base v' (ls ++ [s]) := by
  have ht : ∀ b cur t fr, v.ownBlock = some b → W.heap[b]? = some (.cells cur t fr) → t ≠ 3 := fun b cur t fr hb hh => by
    obtain ⟨cur', hc, _⟩ := own_blockType h.row hb
    rw [hc] at hh
    simp only [Option.some.injEq, Obj.cells.injEq] at hh
    rw [← hh.2.1]
    decide
  refine ⟨by simpa [slvs] using ho, fun x hx => ?_⟩
  rcases List.mem_append.1 hx with hx | hx
  · exact own_turn (h.each x hx) hg ht
  · rw [List.mem_singleton.1 hx]
    exact own_turn hs hg ht

/-- Where a region is that makes a list, and appends it to lists. -/
structure CelC (b0 : Nat) (w1 : World) (v : Value) (ls : List Sl) (z : List Int) (k1 t1 k2 t2 k3 t3 : Nat) (D : Nat → Bool) (σ : Nat → Value) (W : World) : Prop where
  lb : b0 ≤ W.heap.size
  bel : Below b0 w1 W
  own : D k3 = false → OwnR W b0 v ls
  one : D k1 = true → ∃ s : Sl, σ t1 = slv s ∧ s.zs = z ∧ OwnI W b0 (slv s) z
  two : D k2 = true → D k3 = false → ∃ b, σ t2 = .slice (some ⟨b, 0, none⟩) 1 1 ∧ W.heap[b]? = some (.cells #[σ t1] 47 (0, 0))
  fin : D k3 = true → ∃ s : Sl, s.zs = z ∧ OwnR W b0 (σ t3) (ls ++ [s])
def celK (k1 t1 k2 t2 k3 t3 k : Nat) (d : Option Nat) : Bool := !(k == k1 || k == k2 || k == k3 || d == some t1 || d == some t2 || d == some t3)
section
variable {b0 : Nat} {w1 W W' : World} {v : Value} {ls : List Sl} {z : List Int} {k1 t1 k2 t2 k3 t3 : Nat} {D : Nat → Bool} {σ : Nat → Value}
theorem CelC.move {k : Nat} {d : Option Nat} {u : Value} (h : CelC b0 w1 v ls z k1 t1 k2 t2 k3 t3 D σ W) (hk : celK k1 t1 k2 t2 k3 t3 k d = true) : CelC b0 w1 v ls z k1 t1 k2 t2 k3 t3 (done D k) (R4.upd σ d u) W := by
  simp only [celK, Bool.not_eq_true', Bool.or_eq_false_iff, beq_eq_false_iff_ne, ne_eq] at hk
  obtain ⟨⟨⟨⟨⟨a1, a2⟩, a3⟩, d1⟩, d2⟩, d3⟩ := hk
  have e1 := done_ne (D := D) (k := k) (j := k1) (by omega)
  have e2 := done_ne (D := D) (k := k) (j := k2) (by omega)
  have e3 := done_ne (D := D) (k := k) (j := k3) (by omega)
  have u1 := upd_ne (ρ := σ) (v := u) d1
  have u2 := upd_ne (ρ := σ) (v := u) d2
  have u3 := upd_ne (ρ := σ) (v := u) d3
  exact ⟨h.lb, h.bel, by rw [e3]; exact h.own, by rw [e1, u1]; exact h.one, by rw [e2, e3, u2, u1]; exact h.two, by rw [e3, u3]; exact h.fin⟩
def celN (k1 t1 k2 t2 k3 t3 : Nat) : Bool := !(k1 == k2 || k1 == k3 || k2 == k3 || t1 == t2 || t1 == t3 || t2 == t3)
theorem CelC.made (h : CelC b0 w1 v ls z k1 t1 k2 t2 k3 t3 D σ W) (hn : celN k1 t1 k2 t2 k3 t3 = true) (h2 : D k2 = false) (h3 : D k3 = false) {s : Sl} (hz : s.zs = z) (hg : Grows W W') (ho : OwnI W' b0 (slv s) z) :
    CelC b0 w1 v ls z k1 t1 k2 t2 k3 t3 (done D k1) (R4.upd σ (some t1) (slv s)) W' := by
  simp only [celN, Bool.not_eq_true', Bool.or_eq_false_iff, beq_eq_false_iff_ne, ne_eq] at hn
  have e2 := done_ne (D := D) (k := k1) (j := k2) (by omega)
  have e3 := done_ne (D := D) (k := k1) (j := k3) (by omega)
  refine ⟨Nat.le_trans h.lb hg.size, h.bel.trans (hg.mono h.lb), ?_, fun _ => ⟨s, upd_me, hz, ho⟩, ?_, ?_⟩
  · rw [e3]; exact fun e => (h.own e).grows hg
  · rw [e2, h2]; intro e; cases e
  · rw [e3, h3]; intro e; cases e
theorem CelC.built (h : CelC b0 w1 v ls z k1 t1 k2 t2 k3 t3 D σ W) (hn : celN k1 t1 k2 t2 k3 t3 = true) (h3 : D k3 = false) :
    CelC b0 w1 v ls z k1 t1 k2 t2 k3 t3 (done D k2) (R4.upd σ (some t2) (.slice (some ⟨W.heap.size, 0, none⟩) 1 1)) (W.alloc (.cells #[σ t1] 47)) := by
  simp only [celN, Bool.not_eq_true', Bool.or_eq_false_iff, beq_eq_false_iff_ne, ne_eq] at hn
  have e1 := done_ne (D := D) (k := k2) (j := k1) (by omega)
  have e3 := done_ne (D := D) (k := k2) (j := k3) (by omega)
  have hg : Grows W (W.alloc (.cells #[σ t1] 47)) := grow1 _ _
  have u1 : R4.upd σ (some t2) (.slice (some ⟨W.heap.size, 0, none⟩) 1 1) t1 = σ t1 := upd_ne (by simp; omega)
  refine ⟨Nat.le_trans h.lb hg.size, h.bel.trans (hg.mono h.lb), ?_, ?_, fun _ _ => ⟨_, upd_me, ?_⟩, ?_⟩
  · rw [e3]; exact fun e => (h.own e).grows hg
  · rw [e1, u1]
    exact fun e => let ⟨s, a, b, c⟩ := h.one e; ⟨s, a, b, c.grows hg⟩
  · rw [u1]; exact alloc_at0 _ _
  · rw [e3, h3]; intro e; cases e
theorem CelC.apped (h : CelC b0 w1 v ls z k1 t1 k2 t2 k3 t3 D σ W) (h3 : D k3 = false) {s : Sl} (hσ : σ t1 = slv s) (hz : s.zs = z) (hs : OwnI W b0 (slv s) z) {v' : Value}
    (ho : W'.ownsRow b0 47 1 v' (ls.length + 1) (slvs ls ++ [slv s])) (hg : W.grownBy W' v.ownBlock) (hn : celN k1 t1 k2 t2 k3 t3 = true) : CelC b0 w1 v ls z k1 t1 k2 t2 k3 t3 (done D k3) (R4.upd σ (some t3) v') W' := by
  simp only [celN, Bool.not_eq_true', Bool.or_eq_false_iff, beq_eq_false_iff_ne, ne_eq] at hn
  have hO := h.own h3
  have u1 : R4.upd σ (some t3) v' t1 = σ t1 := upd_ne (by simp; omega)
  have hO' := hO.app (s := s) (by rw [hz]; exact hs) hg ho
  refine ⟨Nat.le_trans h.lb hg.size, h.bel.grown hg h.lb (fun k e => (own_blockType hO.row e).choose_spec.2), fun e => ?_, fun _ => ⟨s, by rw [u1]; exact hσ, hz, ?_⟩, fun _ e => ?_, fun _ => ⟨s, hz, by rw [upd_me]; exact hO'⟩⟩
  · rw [done_me] at e; cases e
  · have := hO'.each s (by simp)
    rw [hz] at this
    exact this
  · rw [done_me] at e; cases e
theorem CelC.start (hb : Below b0 w1 W) (hlb : b0 ≤ W.heap.size) (hO : OwnR W b0 v ls) (hD : ∀ k, D k = false) : CelC b0 w1 v ls z k1 t1 k2 t2 k3 t3 D σ W.drew :=
  ⟨hlb, hb.drew, fun _ => ⟨hO.row, hO.each⟩, fun e => absurd (hD k1) (by rw [e]; decide), fun e _ => absurd (hD k2) (by rw [e]; decide), fun e => absurd (hD k3) (by rw [e]; decide)⟩
end

theorem below_low {B B' : Nat} {a b : World} (h : Below B a b) (hB : B' ≤ B) : Below B' a b := ⟨h.os, h.tape, h.output, h.size, fun k hk => h.block k (by omega)⟩

theorem infoSl : (Try.prog.info? 47).map (fun i => (i.zero, i.size, i.bytes)) = some (some (.slice none 0 0), 1, 24) := by kernel_rfl

/-- What comes back: the lists of a batch, in memory of their own. -/
def CellsPost (w : World) (ws : List (List Int)) (e : Ending) (w' : World) : Prop :=
  ∃ A c ls, e = .returned (.slice A ls.length c) ∧ rws ls = ws ∧ OwnR w' w.heap.size (.slice A ls.length c) ls ∧ Below w.heap.size w w'

set_option maxRecDepth 100000 in
set_option maxHeartbeats 8000000 in
theorem cells_any (t : Bt) (A : Option Addr) (cap : Nat) (l : List Sl) (st : St) (B : Nat) (w : World) (hB : B ≤ w.heap.size) (hz : Rows w B A l) (h4 : l.length ≤ 4) (h6 : ∀ s ∈ l, s.zs.length ≤ 6) (hl : lens st.2 = lens (rws l)) :
    Calls Try.prog 49 #[.agg (bs t (.slice A l.length cap) st).toArray] w (CellsPost w st.2) := by
  have hn : st.2.length = l.length := by have := lens_len hl; simpa [rws] using this
  obtain ⟨V, hV⟩ : ∃ V, V = (bs t (.slice A l.length cap) st).toArray := ⟨_, rfl⟩
  rw [← hV]
  have hV2 : V[2]? = some (.slice A l.length cap) := by rw [hV]; rfl
  have hVw : ∀ p c, p < 4 → c < 6 → V[6 + p * 6 + c]? = some (.int .i64 (atR (rowAt st.2 p) c)) := fun p c hp hc => by rw [hV, List.getElem?_toArray]; exact bv_at t _ st.1 st.2 p c hp hc
  have hrl : ∀ p (hp : p < l.length), (rowAt st.2 p).length = l[p].zs.length := fun p hp => by
    have := lens_at hl p
    rw [this]
    simp [rowAt, rws, hp]
  obtain ⟨w1, hw1⟩ : ∃ w1, w.alloc (.cells V 92) = w1 := ⟨_, rfl⟩
  have hs1 : w1.heap.size = w.heap.size + 1 := by rw [← hw1]; simp
  have hb1 : w1.heap[w.heap.size]? = some (.cells V 92 (0, 0)) := by rw [← hw1]; exact alloc_at0 _ _
  have hbw : Below w.heap.size w w1 := by rw [← hw1]; exact (Below.refl _ _).alloc (Nat.le_refl _) _
  have hc2 := (cell_of_row w1 w.heap.size 2 _ _ _ hb1).trans hV2
  have HV := Lib.hid (And.intro hVw (And.intro hrl (And.intro hn hV2)))
  obtain ⟨i0, hi, hz0, hz1, hz2⟩ := info_parts infoSl
  have HI := Lib.hid (And.intro hi (And.intro hz0 (And.intro hz1 hz2)))
  clear hi hz0 hz1 hz2
  have HZ := Lib.hid hz
  have H6 := Lib.hid h6
  have H1 := Lib.hid (And.intro hs1 (And.intro hb1 hbw))
  clear hV hV2 hVw hrl hs1 hb1 hbw hz h6 hl hn
  go_enter Try.func49, Try.ntmps49
  go_wp2
  go_loopg [3, 9] l.length (fun gg s3 s9 wx => ∃ (k : Nat) (ls : List Sl) (v : Value), k + gg = l.length ∧ ls.length = k ∧ s3 = v ∧ s9 = .int .i64 k ∧ Hid (rws ls = st.2.take k) ∧ Hid (OwnR wx (w.heap.size + 1) v ls) ∧ Hid (Below (w.heap.size + 1) w1 wx) ∧ w.heap.size + 1 ≤ wx.heap.size)
  case atStart => exact ⟨0, [], _, by omega, rfl, rfl, rfl, rfl, ⟨⟨rfl, .inl ⟨rfl, rfl⟩⟩, fun s hs => by cases hs⟩, Below.refl _ _, by rw [H1.out.1]; exact Nat.le_refl _⟩
  case round =>
    obtain ⟨k, ls, v, hkg, hlk, hs3, rfl, hR, hO, hBr, hsr⟩ := hrel
    obtain rfl := hs3.symm
    clear hc2
    have HLK := Lib.hid hlk
    clear hlk
    cases gk with
    | zero =>
      have hkl : k = l.length := by omega
      have HKL := Lib.hid hkl
      have hkn : ¬ (k : Int) < l.length := by omega
      clear hkl
      go_wp2
      go_ret
      obtain ⟨A', c', hv⟩ := own_slice hO.out.row
      refine ⟨A', c', ls, by rw [hv]; rfl, ?_, ?_, H1.out.2.2.trans (below_low hBr.out (by omega))⟩
      · rw [hR.out, HKL.out, ← HV.out.2.2.1, List.take_length]
      · rw [← hv]; exact hO.out.less (by omega)
    | succ gg =>
      have hk : k < l.length := by omega
      have hkz : (k : Int) < l.length := by omega
      have hkz4 : (k : Int) < 4 := by omega
      have hk0 : (0 : Int) ≤ k := by omega
      have hw := fun c hc => HV.out.1 k c (by omega) hc
      have hzl := HV.out.2.1 k hk
      have hrt : st.2.take (k + 1) = st.2.take k ++ [rowAt st.2 k] := by
        have hk2 : k < st.2.length := by rw [HV.out.2.2.1]; exact hk
        rw [List.take_add_one, List.getElem?_eq_getElem hk2]
        simp [rowAt, hk2]
      obtain ⟨ab, off, hA, hcB, hc⟩ := HZ.out.va (by rw [slvs_len]; omega)
      subst hA
      have hy := hc k _ (slvs_at l k hk)
      have hy6 := H6.out _ (List.getElem_mem hk)
      generalize l[k] = y at hy hzl hy6
      obtain ⟨yA, yc, ys⟩ := y
      simp only at hy6 hzl
      unfold slv at hy
      simp only at hy
      rw [← hzl] at hy
      generalize rowAt st.2 k = z at hw hzl hy hrt
      have hz6 : (z.length : Int) ≤ 6 := by omega
      have hz0 : (0 : Int) ≤ z.length := by omega
      have hzi : ∀ W : World, W.heap[w.heap.size]? = some (.cells V 92 (0, 0)) → Ints W W.heap.size (some ⟨w.heap.size, 6 + k * 6, none⟩) z := fun W hW _ =>
        ⟨w.heap.size, 6 + k * 6, rfl, lt_of_heap hW, fun j hj => (cell_of_row W w.heap.size (6 + k * 6 + j) _ _ _ hW).trans (hw j (by omega))⟩
      have hcl := fun (W : World) hW => clone_any w.heap.size (6 + k * 6) 6 z W (by omega) (hzi W hW)
      have HC0 := Lib.hid hcl
      have HY := Lib.hid (And.intro hy (And.intro hcB hrt))
      have hst : CelC (w.heap.size + 1) w1 v ls z 12 24 13 25 14 26 (fun _ => false) (fun _ => undef) wr.drew := CelC.start hBr.out hsr hO.out (fun _ => rfl)
      have HST := Lib.hid hst
      clear hy hcB hc hcl hw hzi hrt hzl hy6 hst
      go_wp2
      refine R6.wp_walk (C := CelC (w.heap.size + 1) w1 v ls z 12 24 13 25 14 26) 29 (by kernel_rfl) (by kernel_rfl) rfl (CelC.start hBr.out hsr hO.out (fun _ => rfl)) ?_
      simp only []
      repeat (first
        | (refine' R6.WalkR.det (fun _ => rfl) (fun D ρ W hK hC => ?_) ?_
           rotate_left
           · have hbb := (hC.bel.block w.heap.size (by omega)).trans H1.out.2.1
             have hcb := (cell_of_row W w.heap.size 2 _ _ _ hbb).trans HV.out.2.2.2
             have hblk : W.heap[ab]? = w.heap[ab]? := (hC.bel.block ab (by have := HY.out.2.1; omega)).trans (H1.out.2.2.block ab (by have := HY.out.2.1; omega))
             have hca : W.cell? ⟨ab, off + k, none⟩ = _ := (World.cell?_of_block (w := w) hblk).trans HY.out.1
             clear hblk hbb
             have HC := Lib.hid hC
             clear hC hK
             go_simp
             first
               | with_reducible exact ⟨rfl, HC.out.move (by decide)⟩
               | fail
           simp only [Act.put, List.setIfInBounds_toArray, List.set_cons_succ, List.set_cons_zero]))
      refine' R6.WalkR.nd (fun _ => rfl) rfl (fun D ρ W hK hC => ?_) ?_
      · have h13 := hK.post 13 (by first | exact needs_edge (by decide +kernel) | decide +kernel)
        have h14 := hK.post 14 (by first | exact needs_edge (by decide +kernel) | decide +kernel)
        have hbb := (hC.bel.block w.heap.size (by omega)).trans H1.out.2.1
        have HC := Lib.hid hC
        have HBB := Lib.hid hbb
        clear hC hK hbb
        go_simp
        go_at_call 69
        refine (HC0.out W HBB.out).mono ?_
        rintro e W1 ⟨g, c, rfl, hO1, hB1⟩
        exact ⟨_, rfl, HC.out.made (by decide) h13 h14 (s := ⟨some ⟨g, 0, none⟩, c, z⟩) rfl hB1 (hO1.less HC.out.lb)⟩
      simp only [Act.put, List.setIfInBounds_toArray, List.set_cons_succ, List.set_cons_zero]
      refine' R6.WalkR.nd (fun _ => rfl) rfl (fun D ρ W hK hC => ?_) ?_
      · have h14 := hK.post 14 (by first | exact needs_edge (by decide +kernel) | decide +kernel)
        obtain ⟨⟨sA, sc, sz⟩, hv, -, -⟩ := hC.one (hK.pre 12 (needs_edge (by decide +kernel)))
        have hb := hC.built (by decide) h14
        unfold slv at hv
        simp only at hv
        rw [hv] at hb
        have HC := Lib.hid hb
        clear hC hK hb
        go_simp
        exact HC.out
      simp only [Act.put, List.setIfInBounds_toArray, List.set_cons_succ, List.set_cons_zero]
      refine' R6.WalkR.nd (fun _ => rfl) rfl (fun D ρ W hK hC => ?_) ?_
      · obtain ⟨s, hv, hz, hs⟩ := hC.one (hK.pre 12 (by decide +kernel))
        obtain ⟨b3, hv3, hg3⟩ := hC.two (hK.pre 13 (needs_edge (by decide +kernel))) hK.me
        rw [hv] at hg3
        refine gives_app (.tmp 12) (.tmp 25) 24 rfl (w.heap.size + 1) 47 i0 _ 1 24 (v := v) (n := ls.length) (xs := slvs ls) Try.underlying24 HI.out.1 HI.out.2.1 HI.out.2.2.1 HI.out.2.2.2 rfl (by omega) rfl (hC.own hK.me).row hv3
          (vals_new (vs := [slv s]) hg3 (lt_of_heap hg3)) rfl (slvs_one [s]) (by have := HLK.out; simp only [maxLen]; omega) (by have := HLK.out; omega) hC.lb (fun v' w' ho' hgr => ?_)
        exact hC.apped hK.me hv hz hs ho' hgr (by decide)
      simp only [Act.put, List.setIfInBounds_toArray, List.set_cons_succ, List.set_cons_zero]
      refine' R6.WalkR.fn 26 (fun v => v) (fun _ => rfl) (by decide +kernel) (fun D ρ W hK hC => ?_) ?_
      · have HC := Lib.hid hC
        clear hC hK
        go_simp
        first
          | exact HC.out.move (by decide)
          | exact ⟨rfl, HC.out.move (by decide)⟩
      simp only [Act.put, List.setIfInBounds_toArray, List.set_cons_succ, List.set_cons_zero]
      refine R6.WalkR.nil (fun D ρ W hD' hC => ?_)
      obtain ⟨s, hz, hO2⟩ := hC.fin (hD' 14 (by decide))
      have HE := Lib.hid (And.intro hz (And.intro hO2 (And.intro hC.bel hC.lb)))
      clear hC hD' hz hO2
      go_wp2
      go_roundg gg
      case measure => omega
      case rel =>
        refine ⟨k + 1, ls ++ [s], _, by omega, by have := HLK.out; simp [this], rfl, by go_num, ?_, HE.out.2.1, HE.out.2.2.1, HE.out.2.2.2⟩
        show rws (ls ++ [s]) = _
        rw [HY.out.2.2, ← hR.out, ← HE.out.1]
        simp [rws]

end Go.Proofs.Ytfampdiompjmeaa
