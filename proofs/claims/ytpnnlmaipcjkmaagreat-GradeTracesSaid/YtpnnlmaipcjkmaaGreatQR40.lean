/-
  The reference's Treated.
-/
import Derived.Test.YtpnnlmaipcjkmaaGreatQR39
set_option linter.all false
namespace Go.Proofs.YtpnnlmaipcjkmaaGreat
open Go.RowKit Go.Shelf
open R6 (done done_ne done_me upd_ne upd_me)

attribute [local go_sem] gives

def bls (zs : List Bool) : List Value := zs.map Value.bool
theorem bls_len (zs : List Bool) : (bls zs).length = zs.length := by simp [bls]
theorem bls_set (zs : List Bool) (k : Nat) (b : Bool) : (bls zs).set k (.bool b) = bls (zs.set k b) := by simp [bls, List.map_set]
theorem bls_at (zs : List Bool) {k : Nat} (hk : k < zs.length) : (bls zs).toArray[k]? = some (.bool (zs[k]?.getD false)) := by simp [bls, hk]
theorem infoBool : (Tryz.prog.info? 4).map (fun i => (i.zero, i.size, i.bytes)) = some (some (.bool false), 1, 1) := by kernel_rfl
theorem sizeBool : (Tryz.prog.info? 4).map (·.size) = some 1 := by kernel_rfl
theorem run_make_bool {P : Program} (t e : TypeId) (i : TypeInfo) (ht : P.underlying t = some (.slice e)) (hi : P.info? e = some i) (hz : i.zero = some (.bool false)) (hs : i.size = 1) (hb : i.bytes = 1) (n : Nat) (hn : n ≤ 1000000) (w : World) :
    (Instr.makeSlice t (.int .i64 (n : Int)) (.int .i64 (n : Int))).run P w = .ok (.slice (some ⟨w.heap.size, 0, none⟩) n n) (w.alloc (.cells (bls (List.replicate n false)).toArray e)) := by
  have hr := run_make (P := P) w t e i (.bool false) ht hi hz .i64 .i64 n n (by omega) (by omega) (by rw [hb]; omega) (by omega)
  simp only [Int.toNat_natCast] at hr
  rw [hr, hs]
  have e1 : madeCells (Value.bool false).cells (n * 1) = (bls (List.replicate n false)).toArray := by
    apply Array.ext'
    rw [show (Value.bool false).cells = #[.bool false] from rfl, toList_madeCells_one]
    simp [bls]
  rw [e1]

def cK (t : Bt) (ws : List (List Int)) (h : Nat) (q k : Nat) : Nat := cntS (fun s => inS t ws h s q) t.lo k
theorem cK_succ (t : Bt) (ws : List (List Int)) (h q k : Nat) : cK t ws h q (k + 1) = cK t ws h q k + if inS t ws h (t.lo + k) q = true then 1 else 0 := rfl
theorem cK_le (t : Bt) (ws : List (List Int)) (h q k : Nat) : cK t ws h q k ≤ k := cntS_le _ _ _
def aL (t : Bt) (ws : List (List Int)) (h n k p : Nat) : List Bool := (List.range n).map fun q => decide (cK t ws h q (if q < p then k + 1 else k) = if q < p then k + 1 else k)
def sL (t : Bt) (ws : List (List Int)) (h n k p : Nat) : List Bool := (List.range n).map fun q => decide (0 < cK t ws h q (if q < p then k + 1 else k))
theorem aL_len (t : Bt) (ws : List (List Int)) (h n k p : Nat) : (aL t ws h n k p).length = n := by simp [aL]
theorem sL_len (t : Bt) (ws : List (List Int)) (h n k p : Nat) : (sL t ws h n k p).length = n := by simp [sL]
theorem aL_at (t : Bt) (ws : List (List Int)) (h : Nat) {n p : Nat} (k : Nat) (hp : p < n) : (aL t ws h n k p)[p]?.getD false = decide (cK t ws h p k = k) := by simp [aL, List.getElem?_range hp]
theorem sL_at (t : Bt) (ws : List (List Int)) (h : Nat) {n p : Nat} (k : Nat) (hp : p < n) : (sL t ws h n k p)[p]?.getD false = decide (0 < cK t ws h p k) := by simp [sL, List.getElem?_range hp]
theorem listB_ext {a b : List Bool} {n : Nat} (ha : a.length = n) (hb : b.length = n) (h : ∀ p, p < n → a[p]?.getD false = b[p]?.getD false) : a = b := by
  apply List.ext_getElem (by omega)
  intro i h1 h2
  have := h i (by omega)
  simpa [h1, h2] using this
theorem aL_get (t : Bt) (ws : List (List Int)) (h : Nat) {n q : Nat} (k p : Nat) (hq : q < n) : (aL t ws h n k p)[q]?.getD false = decide (cK t ws h q (if q < p then k + 1 else k) = if q < p then k + 1 else k) := by simp [aL, List.getElem?_range hq]
theorem sL_get (t : Bt) (ws : List (List Int)) (h : Nat) {n q : Nat} (k p : Nat) (hq : q < n) : (sL t ws h n k p)[q]?.getD false = decide (0 < cK t ws h q (if q < p then k + 1 else k)) := by simp [sL, List.getElem?_range hq]
theorem aL_step {t : Bt} {ws : List (List Int)} {h n k p : Nat} (hp : p < n) : (aL t ws h n k p).set p (decide (cK t ws h p k = k) && inS t ws h (t.lo + k) p) = aL t ws h n k (p + 1) := by
  refine listB_ext (n := n) (by simp [aL]) (aL_len ..) fun q hq => ?_
  rw [aL_get t ws h k (p + 1) hq]
  by_cases e : q = p
  · subst e
    rw [List.getElem?_set_self (by rw [aL_len]; exact hq), Option.getD_some, if_pos (by omega), cK_succ]
    have := cK_le t ws h q k
    cases inS t ws h (t.lo + k) q
    · simp; omega
    · simp
  · rw [List.getElem?_set_ne (by omega), aL_get t ws h k p hq]
    by_cases h1 : q < p
    · rw [if_pos h1, if_pos (by omega)]
    · rw [if_neg h1, if_neg (by omega)]
theorem sL_step {t : Bt} {ws : List (List Int)} {h n k p : Nat} (hp : p < n) : (sL t ws h n k p).set p (decide (0 < cK t ws h p k) || inS t ws h (t.lo + k) p) = sL t ws h n k (p + 1) := by
  refine listB_ext (n := n) (by simp [sL]) (sL_len ..) fun q hq => ?_
  rw [sL_get t ws h k (p + 1) hq]
  by_cases e : q = p
  · subst e
    rw [List.getElem?_set_self (by rw [sL_len]; exact hq), Option.getD_some, if_pos (by omega), cK_succ]
    cases inS t ws h (t.lo + k) q
    · simp
    · simp
  · rw [List.getElem?_set_ne (by omega), sL_get t ws h k p hq]
    by_cases h1 : q < p
    · rw [if_pos h1, if_pos (by omega)]
    · rw [if_neg h1, if_neg (by omega)]
theorem aL_next (t : Bt) (ws : List (List Int)) (h n k : Nat) : aL t ws h n k n = aL t ws h n (k + 1) 0 := by
  refine listB_ext (n := n) (aL_len ..) (aL_len ..) fun q hq => ?_
  rw [aL_get t ws h k n hq, aL_get t ws h (k + 1) 0 hq, if_pos hq, if_neg (by omega)]
theorem sL_next (t : Bt) (ws : List (List Int)) (h n k : Nat) : sL t ws h n k n = sL t ws h n (k + 1) 0 := by
  refine listB_ext (n := n) (sL_len ..) (sL_len ..) fun q hq => ?_
  rw [sL_get t ws h k n hq, sL_get t ws h (k + 1) 0 hq, if_pos hq, if_neg (by omega)]
theorem aL_start (t : Bt) (ws : List (List Int)) (h n : Nat) : aL t ws h n 0 0 = List.replicate n true := by
  refine listB_ext (n := n) (aL_len ..) (by simp) fun q hq => ?_
  rw [aL_get t ws h 0 0 hq]
  simp [cK, cntS, hq]
theorem sL_start (t : Bt) (ws : List (List Int)) (h n : Nat) : sL t ws h n 0 0 = List.replicate n false := by
  refine listB_ext (n := n) (sL_len ..) (by simp) fun q hq => ?_
  rw [sL_get t ws h 0 0 hq]
  simp [cK, cntS, hq]
def fillB (n j : Nat) : List Bool := List.replicate j true ++ List.replicate (n - j) false
theorem fillB_len {n j : Nat} (h : j ≤ n) : (fillB n j).length = n := by simp [fillB]; omega
theorem fillB_set {n j : Nat} (h : j < n) : (fillB n j).set j true = fillB n (j + 1) := by
  unfold fillB
  obtain ⟨m, hm⟩ : ∃ m, n - j = m + 1 := ⟨n - j - 1, by omega⟩
  rw [List.set_append_right _ _ (by simp), List.length_replicate, Nat.sub_self, hm, List.replicate_succ, List.set_cons_zero, show n - (j + 1) = m by omega, List.replicate_succ' (n := j)]
  simp

structure MkB (w0 : World) (B n : Nat) (D : Nat → Bool) (σ : Nat → Value) (W : World) : Prop where
  bel : Below w0.heap.size w0 W
  one : D 3 = true → ∃ g, σ 24 = .slice (some ⟨g, 0, none⟩) n n ∧ w0.heap.size ≤ g ∧ W.heap[g]? = some (.cells (bls (List.replicate n false)).toArray 4 (0, 0))
  two : D 7 = true → ∃ g, σ 28 = .slice (some ⟨g, 0, none⟩) n n ∧ w0.heap.size ≤ g ∧ W.heap[g]? = some (.cells (bls (List.replicate n false)).toArray 4 (0, 0))
  ne : D 3 = true → D 7 = true → σ 24 ≠ σ 28
def mkKZ (k : Nat) (d : Option Nat) : Bool := !(k == 3 || k == 7 || d == some 24 || d == some 28)
section
variable {w0 W : World} {B n : Nat} {D : Nat → Bool} {σ : Nat → Value}
theorem MkB.move {k : Nat} {d : Option Nat} {u : Value} (h : MkB w0 B n D σ W) (hk : mkKZ k d = true) : MkB w0 B n (done D k) (R4.upd σ d u) W := by
  simp only [mkKZ, Bool.not_eq_true', Bool.or_eq_false_iff, beq_eq_false_iff_ne, ne_eq] at hk
  have e1 := done_ne (D := D) (k := k) (j := 3) (by omega)
  have e2 := done_ne (D := D) (k := k) (j := 7) (by omega)
  have u1 := upd_ne (ρ := σ) (v := u) hk.1.2
  have u2 := upd_ne (ρ := σ) (v := u) hk.2
  exact ⟨h.bel, by rw [e1, u1]; exact h.one, by rw [e2, u2]; exact h.two, by rw [e1, e2, u1, u2]; exact h.ne⟩
theorem MkB.newA (h : MkB w0 B n D σ W) : MkB w0 B n (done D 3) (R4.upd σ (some 24) (.slice (some ⟨W.heap.size, 0, none⟩) n n)) (W.alloc (.cells (bls (List.replicate n false)).toArray 4)) := by
  have e2 := done_ne (D := D) (k := 3) (j := 7) (by omega)
  have u2 : R4.upd σ (some 24) (.slice (some ⟨W.heap.size, 0, none⟩) n n) 28 = σ 28 := upd_ne (by simp)
  refine ⟨h.bel.alloc h.bel.size _, fun _ => ⟨W.heap.size, upd_me, h.bel.size, alloc_at0 _ _⟩, ?_, ?_⟩
  · rw [e2, u2]
    exact fun e => let ⟨g, a, b, c⟩ := h.two e; ⟨g, a, b, (Below.heap_alloc _ _ _ (lt_of_heap c)).trans c⟩
  · rw [e2, u2, upd_me]
    intro _ e
    obtain ⟨g, a, b, c⟩ := h.two e
    have := lt_of_heap c
    rw [a]
    simp <;> omega
theorem MkB.newB (h : MkB w0 B n D σ W) : MkB w0 B n (done D 7) (R4.upd σ (some 28) (.slice (some ⟨W.heap.size, 0, none⟩) n n)) (W.alloc (.cells (bls (List.replicate n false)).toArray 4)) := by
  have e2 := done_ne (D := D) (k := 7) (j := 3) (by omega)
  have u2 : R4.upd σ (some 28) (.slice (some ⟨W.heap.size, 0, none⟩) n n) 24 = σ 24 := upd_ne (by simp)
  refine ⟨h.bel.alloc h.bel.size _, ?_, fun _ => ⟨W.heap.size, upd_me, h.bel.size, alloc_at0 _ _⟩, ?_⟩
  · rw [e2, u2]
    exact fun e => let ⟨g, a, b, c⟩ := h.one e; ⟨g, a, b, (Below.heap_alloc _ _ _ (lt_of_heap c)).trans c⟩
  · rw [e2, u2, upd_me]
    intro e _
    obtain ⟨g, a, b, c⟩ := h.one e
    have := lt_of_heap c
    rw [a]
    simp <;> omega
end

structure TwoB (W0 : World) (B ga gb : Nat) (X X' Y Y' : Obj) (D : Nat → Bool) (σ : Nat → Value) (W : World) : Prop where
  bel : Below B W0 W
  sz : W.heap.size = W0.heap.size
  oth : ∀ j, j ≠ ga → j ≠ gb → W.heap[j]? = W0.heap[j]?
  a0 : D 19 = false → W.heap[ga]? = some X
  a1 : D 19 = true → W.heap[ga]? = some X'
  b0 : D 21 = false → W.heap[gb]? = some Y
  b1 : D 21 = true → W.heap[gb]? = some Y'
section
variable {W0 W W' : World} {B ga gb : Nat} {X X' Y Y' : Obj} {D : Nat → Bool} {σ σ' : Nat → Value}
theorem TwoB.move {k : Nat} (h : TwoB W0 B ga gb X X' Y Y' D σ W) (hk : (k == 19 || k == 21) = false) : TwoB W0 B ga gb X X' Y Y' (done D k) σ' W := by
  simp only [Bool.or_eq_false_iff, beq_eq_false_iff_ne, ne_eq] at hk
  have e1 := done_ne (D := D) (k := k) (j := 19) (by omega)
  have e2 := done_ne (D := D) (k := k) (j := 21) (by omega)
  exact ⟨h.bel, h.sz, h.oth, by rw [e1]; exact h.a0, by rw [e1]; exact h.a1, by rw [e2]; exact h.b0, by rw [e2]; exact h.b1⟩
theorem TwoB.putA (h : TwoB W0 B ga gb X X' Y Y' D σ W) (hB : B ≤ ga) (hne : ga ≠ gb) (hp : Put W W' ga) (hM : W'.heap[ga]? = some X') : TwoB W0 B ga gb X X' Y Y' (done D 19) σ' W' := by
  have e2 := done_ne (D := D) (k := 19) (j := 21) (by omega)
  exact ⟨h.bel.trans (hp.below hB), by rw [hp.size]; exact h.sz, fun j h1 h2 => (hp.other j h1).trans (h.oth j h1 h2), fun e => (by rw [done_me] at e; cases e), fun _ => hM, by rw [e2]; exact fun e => (hp.other gb (Ne.symm hne)).trans (h.b0 e), by rw [e2]; exact fun e => (hp.other gb (Ne.symm hne)).trans (h.b1 e)⟩
theorem TwoB.putB (h : TwoB W0 B ga gb X X' Y Y' D σ W) (hB : B ≤ gb) (hne : ga ≠ gb) (hp : Put W W' gb) (hM : W'.heap[gb]? = some Y') : TwoB W0 B ga gb X X' Y Y' (done D 21) σ' W' := by
  have e2 := done_ne (D := D) (k := 21) (j := 19) (by omega)
  exact ⟨h.bel.trans (hp.below hB), by rw [hp.size]; exact h.sz, fun j h1 h2 => (hp.other j h2).trans (h.oth j h1 h2), by rw [e2]; exact fun e => (hp.other ga hne).trans (h.a0 e), by rw [e2]; exact fun e => (hp.other ga hne).trans (h.a1 e), fun e => (by rw [done_me] at e; cases e), fun _ => hM⟩
end

structure TrC (w : World) (cs : Array Value) (n ga gb : Nat) (xs ys : List Bool) (W : World) : Prop where
  bel : Below w.heap.size w W
  b0 : W.heap[w.heap.size]? = some (.cells cs 63 (0, 0))
  a : W.heap[ga]? = some (.cells (bls xs).toArray 4 (0, 0))
  b : W.heap[gb]? = some (.cells (bls ys).toArray 4 (0, 0))
  ne : ga ≠ gb
  la : w.heap.size < ga
  lb : w.heap.size < gb
  lx : xs.length = n
  ly : ys.length = n
section
variable {w W W' : World} {cs : Array Value} {n ga gb : Nat} {xs ys xs' ys' : List Bool}
theorem TrC.next (h : TrC w cs n ga gb xs ys W) (hg : Grows W W') : TrC w cs n ga gb xs ys W' :=
  ⟨h.bel.trans (hg.mono h.bel.size), (hg.block _ (lt_of_heap h.b0)).trans h.b0, (hg.block _ (lt_of_heap h.a)).trans h.a, (hg.block _ (lt_of_heap h.b)).trans h.b, h.ne, h.la, h.lb, h.lx, h.ly⟩
theorem TrC.putA (h : TrC w cs n ga gb xs ys W) (hp : Put W W' ga) (hM : W'.heap[ga]? = some (.cells (bls xs').toArray 4 (0, 0))) (hl : xs'.length = n) : TrC w cs n ga gb xs' ys W' :=
  ⟨h.bel.trans (hp.below (Nat.le_of_lt h.la)), (hp.other _ (by have := h.la; omega)).trans h.b0, hM, (hp.other _ (Ne.symm h.ne)).trans h.b, h.ne, h.la, h.lb, hl, h.ly⟩
end

set_option maxRecDepth 100000 in
set_option maxHeartbeats 8000000 in
theorem refTreated_bad (t : Bt) (A : Option Addr) (cap : Nat) (l : List Sl) (h : Int) (B : Nat) (w : World) (hB : B ≤ w.heap.size) (hz : Rows w B A l) (hl : ∀ s ∈ l, s.zs.length ≤ 9223372036854775807) (hno : treatE t (rws l) h ≠ 0) :
    Calls Tryz.prog 50 #[.agg (btcells t (.slice A l.length cap)), .int .i64 h] w (TrePost w t (rws l) h) := by
  have hLL : treatL t (rws l) h = [] := by simp [treatL, hno]
  have hck := fun W (hW : Below w.heap.size w W) => refBatch_any t A cap l B W (Nat.le_trans hB hW.size) (hz.below (hW.mono hB)) hl
  cases hb : okBatch t (rws l) with
  | false =>
    have hE : treatE t (rws l) h = 40 := by simp [treatE, hb]
    rw [hb] at hck
    have HCK := Lib.hid hck
    have HR := Lib.hid (And.intro hE hLL)
    clear hck hE hLL hz hl hb hno
    unfold btcells at HCK ⊢
    go_enter Tryz.func50, Tryz.ntmps50
    go_wp2_with (go_at_call 88; refine (HCK.out _ (grow1 w _)).mono ?_; rintro e w1 ⟨rfl, hB1⟩; have H1 := Lib.hid ((grow1 w _).trans (hB1.mono (by simp))); clear hB1)
    go_ret2
    exact ⟨none, 0, by rw [HR.out.1, HR.out.2]; rfl, by rw [HR.out.2]; exact ownU_nilC _ _, H1.out⟩
  | true =>
    have hh : inR h 0 300 = false := by
      cases e : inR h 0 300 with
      | false => rfl
      | true => rw [← allB_inR] at e; simp [treatE, hb, e] at hno
    have hE : treatE t (rws l) h = 2 := by rw [← allB_inR] at hh; simp [treatE, hb, hh]
    rw [hb] at hck
    have HCK := Lib.hid hck
    have HH := Lib.hid hh
    have HR := Lib.hid (And.intro hE hLL)
    clear hck hE hLL hz hl hb hno hh
    unfold btcells at HCK ⊢
    go_enter Tryz.func50, Tryz.ntmps50
    go_wp2_with (first
      | (go_at_call 88; refine (HCK.out _ (grow1 w _)).mono ?_; rintro e w1 ⟨rfl, hB1⟩; have H1 := Lib.hid ((grow1 w _).trans (hB1.mono (by simp))); clear hB1)
      | (go_at_call 89; refine (refWithin_any _ _ _ _).mono ?_; rintro e w2 ⟨rfl, rfl⟩; rw [HH.out]))
    go_ret2
    exact ⟨none, 0, by rw [HR.out.1, HR.out.2]; rfl, by rw [HR.out.2]; exact ownU_nilC _ _, H1.out⟩

set_option maxRecDepth 100000 in
set_option maxHeartbeats 16000000 in
theorem refTreated_ok (t : Bt) (A : Option Addr) (cap : Nat) (l : List Sl) (h : Nat) (B : Nat) (w : World) (hB : B ≤ w.heap.size) (hz : Rows w B A l) (hl : ∀ s ∈ l, s.zs.length ≤ 9223372036854775807) (hb : okBatch t (rws l) = true) (hh : inR (h : Int) 0 300 = true) :
    Calls Tryz.prog 50 #[.agg (btcells t (.slice A l.length cap)), .int .i64 (h : Int)] w (TrePost w t (rws l) h) := by
  have hE : treatE t (rws l) h = 0 := by rw [← allB_inR] at hh; simp [treatE, hb, hh]
  have hLL : treatL t (rws l) h = knownL t (rws l) h := by simp [treatL, hE]
  obtain ⟨hg, g1, g2, g3, g4, -⟩ := okBatch_good hb
  have hh3 := inR_iff.1 hh
  have hn4 : l.length ≤ 4 := by have := hg.n4; simpa [rws] using this
  have hrl : (rws l).length = l.length := by simp [rws]
  have hck := fun W (hW : Below w.heap.size w W) => refBatch_any t A cap l B W (Nat.le_trans hB hW.size) (hz.below (hW.mono hB)) hl
  rw [hb] at hck
  have hre := fun (k : Nat) (hk : k < spN t) W (hW : Below w.heap.size w W) => refReached_any t A cap l (t.lo + k) B W (Nat.le_trans hB hW.size) (hz.below (hW.mono hB)) hb (by omega) (by unfold spN at hk; omega)
  unfold RchPost at hre
  have hwl : ∀ s, (whL t (rws l) s).length = l.length := fun s => by rw [whL_len, hrl]
  simp only [hwl] at hre
  have hspn : (spN t : Int) = t.hi - t.lo + 1 := by unfold spN; omega
  have hsp : spN t ≤ 250 := by unfold spN; omega
  obtain ⟨i0, hi, hz0, hz1, hz2⟩ := info_parts infoBool
  have hmk := fun W => run_make_bool (P := Tryz.prog) 172 4 i0 Tryz.underlying172 hi hz0 hz1 hz2 l.length (by omega) W
  obtain ⟨i1, hi', hz0', hz1', hz2'⟩ := info_parts infoU8
  have HI := Lib.hid (And.intro hi' (And.intro hz0' (And.intro hz1' hz2')))
  have hin : ∀ (s : Int) q, inS t (rws l) h s q = true ↔ ∃ j, whenS t (rws l) s q = some j ∧ j ≤ h := fun s q => firstB_le (by omega)
  have hkn := fun p (hp : p < l.length) => (show (knownL t (rws l) h)[p]? = some (codeK (spN t) (cK t (rws l) h p (spN t))) by simp [knownL, List.getElem?_range (show p < (rws l).length by rw [hrl]; exact hp)]; rfl)
  have hkl : (knownL t (rws l) h).length = l.length := by rw [knownL_len, hrl]
  have h0 : BxC w (btcells t (.slice A l.length cap)) (w.alloc (.cells (btcells t (.slice A l.length cap)) 63)) := ⟨grow1 _ _, alloc_at0 _ _⟩
  have HF := Lib.hid (And.intro hck hre)
  have HR := Lib.hid (And.intro hE (And.intro hLL (And.intro hrl (And.intro hwl (And.intro hin (And.intro hkn hkl))))))
  have H0 := Lib.hid h0
  have HH := Lib.hid hh
  have HMK := Lib.hid hmk
  have hsp0 : 0 < spN t := by unfold spN; omega
  clear hck hre hwl hE hLL hrl h0 hg hz hb hl hh hin hkn hkl hi hz0 hz1 hz2 hi' hz0' hz1' hz2' hmk
  unfold btcells at H0 HF ⊢
  go_enter Tryz.func50, Tryz.ntmps50
  go_wp2_with (first
    | (go_at_call 88; refine (HF.out.1 _ H0.out.bel).mono ?_; rintro e w1 ⟨rfl, hB1⟩; have H1 := Lib.hid (H0.out.next hB1); clear hB1)
    | (go_at_call 89; refine (refWithin_any _ _ _ _).mono ?_; rintro e w2 ⟨rfl, rfl⟩; rw [HH.out]))
  have hst : MkB w1 0 l.length (fun _ => false) (fun _ => undef) w1.drew := ⟨(Below.refl _ _).drew, (fun e => by cases e), (fun e => by cases e), (fun e => by cases e)⟩
  have HST := Lib.hid hst
  clear hst
  refine R6.wp_walk (C := MkB w1 0 l.length) 114 (by kernel_rfl) (by kernel_rfl) rfl ⟨HST.out.bel, (fun e => by cases e), (fun e => by cases e), (fun e => by cases e)⟩ ?_
  simp only []
  repeat (first
    | (refine' R6.WalkR.det (fun _ => rfl) (fun D ρ W hK hC => ?_) ?_
       rotate_left
       · have hcb := fun i => cell_of_row W w.heap.size i _ _ _ ((hC.bel.block _ (lt_of_heap H1.out.b0)).trans H1.out.b0)
         have HC := Lib.hid hC
         clear hC hK
         go_simp
         first
           | with_reducible exact ⟨rfl, HC.out.move (by decide)⟩
           | fail
       simp only [Act.put, List.setIfInBounds_toArray, List.set_cons_succ, List.set_cons_zero]))
  refine' R6.WalkR.nd (fun _ => rfl) rfl (fun D ρ W hK hC => ?_) ?_
  · have HC := Lib.hid hC
    have hm := HMK.out W
    clear hC hK
    go_simp
    exact HC.out.newA
  simp only [Act.put, List.setIfInBounds_toArray, List.set_cons_succ, List.set_cons_zero]
  repeat (first
    | (refine' R6.WalkR.det (fun _ => rfl) (fun D ρ W hK hC => ?_) ?_
       rotate_left
       · have hcb := fun i => cell_of_row W w.heap.size i _ _ _ ((hC.bel.block _ (lt_of_heap H1.out.b0)).trans H1.out.b0)
         have HC := Lib.hid hC
         clear hC hK
         go_simp
         first
           | with_reducible exact ⟨rfl, HC.out.move (by decide)⟩
           | fail
       simp only [Act.put, List.setIfInBounds_toArray, List.set_cons_succ, List.set_cons_zero]))
  refine' R6.WalkR.nd (fun _ => rfl) rfl (fun D ρ W hK hC => ?_) ?_
  · have HC := Lib.hid hC
    have hm := HMK.out W
    clear hC hK
    go_simp
    exact HC.out.newB
  simp only [Act.put, List.setIfInBounds_toArray, List.set_cons_succ, List.set_cons_zero]
  refine' R6.WalkR.fn 24 (fun v => v) (fun _ => rfl) (by decide +kernel) (fun D ρ W hK hC => ?_) ?_
  · have HC := Lib.hid hC
    clear hC hK
    go_simp
    first
      | exact HC.out.move (by decide)
      | exact ⟨rfl, HC.out.move (by decide)⟩
  simp only [Act.put, List.setIfInBounds_toArray, List.set_cons_succ, List.set_cons_zero]
  refine' R6.WalkR.fn 28 (fun v => v) (fun _ => rfl) (by decide +kernel) (fun D ρ W hK hC => ?_) ?_
  · have HC := Lib.hid hC
    clear hC hK
    go_simp
    first
      | exact HC.out.move (by decide)
      | exact ⟨rfl, HC.out.move (by decide)⟩
  simp only [Act.put, List.setIfInBounds_toArray, List.set_cons_succ, List.set_cons_zero]
  refine R6.WalkR.nil (fun D ρ W2 hD' hC => ?_)
  obtain ⟨ga, hva, hla, hma⟩ := hC.one (hD' 3 (by decide))
  obtain ⟨gb, hvb, hlb, hmb⟩ := hC.two (hD' 7 (by decide))
  have hne : ga ≠ gb := fun e => hC.ne (hD' 3 (by decide)) (hD' 7 (by decide)) (by rw [hva, hvb, e])
  rw [hva, hvb]
  obtain ⟨n, hn⟩ : ∃ n, n = l.length := ⟨_, rfl⟩
  have h2 : TrC w #[.int .i64 t.water, .int .i64 t.borax, .slice A l.length cap, .int .i64 t.lo, .int .i64 t.hi, .int .i64 t.need] n ga gb (fillB n 0) (List.replicate n false) W2 := by
    have h1 := H1.out.next hC.bel
    have := lt_of_heap H1.out.b0
    exact ⟨h1.bel, h1.b0, by rw [hn]; simpa [fillB] using hma, by rw [hn]; exact hmb, hne, by omega, by omega, fillB_len (Nat.zero_le _), by simp⟩
  have H2 := Lib.hid h2
  have HN := Lib.hid hn
  have hn4' : n ≤ 4 := by omega
  have hcl : (l.length : Int) = n := by omega
  have HCL := Lib.hid hcl
  clear hC hD' hva hvb hla hlb hma hmb hne h2 hcl hn
  go_wp2
  go_loopg [8] l.length (fun gg s8 wx => ∃ j : Nat, j + gg = l.length ∧ s8 = .int .i64 j ∧ Hid (TrC w #[.int .i64 t.water, .int .i64 t.borax, .slice A l.length cap, .int .i64 t.lo, .int .i64 t.hi, .int .i64 t.need] n ga gb (fillB n j) (List.replicate n false) wx))
  case atStart => exact ⟨0, by omega, rfl, H2.out⟩
  case round =>
    obtain ⟨j, hjg, rfl, hTj⟩ := hrel
    cases gk with
    | succ gg =>
      have hj : j < l.length := by omega
      have hjz : (j : Int) < l.length := by omega
      go_wp2_with
        (show wpList _ _ _ (Oper.mk none (Op.store _ (Operand.tmp 37) _) _ _ _ _ :: _) _ _
         refine wpList_store_v 4 (.tmp 37) (.const (.bool true)) (v := .bool true) rfl rfl rfl rfl rfl rfl rfl hTj.out.a (by rw [bls_len, hTj.out.lx, HN.out]; exact hj) sizeBool ?_
         intro w5 hP5 hM5
         rw [bls_set, fillB_set (by rw [HN.out]; exact hj)] at hM5
         have h5 := hTj.out.putA hP5 hM5 (fillB_len (by rw [HN.out]; omega))
         have H5 := Lib.hid h5
         clear hP5 hM5 h5)
      go_roundg gg
      case measure => omega
      case rel => exact ⟨j + 1, by omega, by go_num, H5.out⟩
    | zero =>
      have hje : j = l.length := by omega
      have hT0 := hTj.out
      rw [hje, show fillB n l.length = aL t (rws l) h n 0 0 by rw [aL_start, ← HN.out]; simp [fillB], ← sL_start t (rws l) h n] at hT0
      have HT0 := Lib.hid hT0
      have hjn : ¬ (j : Int) < l.length := by omega
      have hcr := fun i => cell_of_row wr w.heap.size i _ _ _ hT0.b0
      clear hT0 hje hjg
      go_wp2
      clear hcr
      go_loopg [9] (spN t) (fun gg s9 wx => ∃ k : Nat, k + gg = spN t ∧ s9 = .int .i64 (t.lo + k) ∧ Hid (TrC w #[.int .i64 t.water, .int .i64 t.borax, .slice A l.length cap, .int .i64 t.lo, .int .i64 t.hi, .int .i64 t.need] n ga gb (aL t (rws l) h n k 0) (sL t (rws l) h n k 0) wx))
      case atStart => exact ⟨0, by omega, by simp, HT0.out⟩
      case round =>
        obtain ⟨k, hkg, rfl, hT⟩ := hrel
        have hcr := fun i => cell_of_row wr w.heap.size i _ _ _ hT.out.b0
        cases gk with
        | succ gg =>
          have hkz : t.lo + (k : Int) ≤ t.hi := by omega
          have hkn : k < spN t := by omega
          have hk250 : (k : Int) < 250 := by omega
          go_wp2_with
            (go_at_call 90
             refine (HF.out.2 k hkn wr hT.out.bel).mono ?_
             rintro e w3 ⟨g3, c3, rfl, hO3, hB3⟩
             have H3 := Lib.hid (And.intro (hT.out.next hB3) hO3)
             clear hO3 hB3 hcr)
          obtain ⟨wo, rfl⟩ : ∃ wo : World, wo = wr := ⟨_, rfl⟩
          go_loopg [11] l.length (fun gi s11 wx => ∃ p : Nat, p + gi = l.length ∧ s11 = .int .i64 p ∧ Hid (TrC w #[.int .i64 t.water, .int .i64 t.borax, .slice A l.length cap, .int .i64 t.lo, .int .i64 t.hi, .int .i64 t.need] n ga gb (aL t (rws l) h n k p) (sL t (rws l) h n k p) wx) ∧ Hid (OwnI wx wo.heap.size (.slice (some ⟨g3, 0, none⟩) l.length c3) (whL t (rws l) (t.lo + k))))
          case atStart => exact ⟨0, by omega, rfl, H3.out.1, H3.out.2⟩
          case round =>
            obtain ⟨p, hpg, rfl, hTj, hOj⟩ := hrel
            cases gk with
            | zero =>
              have hpe : p = n := by rw [HN.out]; omega
              have hTe := hTj.out
              rw [hpe, aL_next, sL_next] at hTe
              have HTE := Lib.hid hTe
              have hpn : ¬ (p : Int) < l.length := by omega
              clear hTe hpe
              go_wp2
              go_roundg gg
              case measure => omega
              case rel => exact ⟨k + 1, by omega, by go_num, HTE.out⟩
            | succ gi =>
              have hpl : p < l.length := by omega
              have hpz : (p : Int) < l.length := by omega
              have hp0 : (0 : Int) ≤ p := by omega
              have hp : p < n := by rw [HN.out]; exact hpl
              have hpn : p < n := hp
              have hx := own_cellI (W := wr) hOj.out (k := p) (by rw [HR.out.2.2.2.1]; exact hpl)
              rw [rowAt_whL (by rw [HR.out.2.2.1]; exact hpl)] at hx
              have hxa := aL_at t (rws l) h k hpn
              have hxb := sL_at t (rws l) h k hpn
              have hinp := HR.out.2.2.2.2.1 (t.lo + k) p
              obtain ⟨xs, hxs⟩ : ∃ xs, xs = aL t (rws l) h n k p := ⟨_, rfl⟩
              obtain ⟨ys, hys⟩ : ∃ ys, ys = sL t (rws l) h n k p := ⟨_, rfl⟩
              rw [← hxs] at hxa hTj
              rw [← hys] at hxb hTj
              have HXS := Lib.hid (And.intro hxs.symm hys.symm)
              clear hxs hys
              cases hav : decide (cK t (rws l) h p k = k) <;> cases hbv : decide (0 < cK t (rws l) h p k) <;> rw [hav] at hxa <;> rw [hbv] at hxb
              all_goals
                have HXY := Lib.hid (And.intro hxa hxb)
                have HAV := Lib.hid hav
                have HBV := Lib.hid hbv
                clear hxa hxb hav hbv
                cases hw : whenS t (rws l) (t.lo + k) p with
                | none =>
                  rw [hw] at hx hinp
                  simp only [toI] at hx
                  have hi0 : inS t (rws l) h (t.lo + k) p = false := by
                    cases e : inS t (rws l) h (t.lo + k) p with
                    | false => rfl
                    | true => obtain ⟨j', e1, _⟩ := hinp.1 e; cases e1
                  have HIN := Lib.hid hi0
                  clear hinp hw hi0
                  go_wp2
                  clear hx
                  have hs1 := aL_step (t := t) (ws := rws l) (h := h) (k := k) hpn
                  have hs2 := sL_step (t := t) (ws := rws l) (h := h) (k := k) hpn
                  rw [HIN.out, HAV.out, HXS.out.1] at hs1
                  rw [HIN.out, HBV.out, HXS.out.2] at hs2
                  simp only [Bool.and_false, Bool.or_false, Bool.and_self, Bool.or_self] at hs1 hs2
                  obtain ⟨xs2, hx2⟩ : ∃ xs2, xs2 = aL t (rws l) h n k (p + 1) := ⟨_, rfl⟩
                  obtain ⟨ys2, hy2⟩ : ∃ ys2, ys2 = sL t (rws l) h n k (p + 1) := ⟨_, rfl⟩
                  rw [← hx2] at hs1
                  rw [← hy2] at hs2
                  have hl1 : xs2.length = n := by rw [hx2, aL_len]
                  have hl2 : ys2.length = n := by rw [hy2, sL_len]
                  have HS2 := Lib.hid (And.intro hs1 (And.intro hs2 (And.intro hl1 hl2)))
                  have HX2 := Lib.hid (And.intro hx2 hy2)
                  clear hs1 hs2 hx2 hy2 hl1 hl2
                  refine R6.wp_walk (C := TwoB wr (w.heap.size + 1) ga gb (.cells (bls xs).toArray 4 (0, 0)) (.cells (bls xs2).toArray 4 (0, 0)) (.cells (bls ys).toArray 4 (0, 0)) (.cells (bls ys2).toArray 4 (0, 0))) 114 (by kernel_rfl) (by kernel_rfl) rfl ⟨(Below.refl _ _).drew, rfl, fun _ _ _ => rfl, fun _ => hTj.out.a, (fun e => by cases e), fun _ => hTj.out.b, (fun e => by cases e)⟩ ?_
                  simp only []
                  repeat (first
                    | (refine R6.WalkR.un (fun _ => rfl) (fun D ρ W hK hC => hC.move (by decide)) ?_
                       simp only [Act.put, List.setIfInBounds_toArray, List.set_cons_succ, List.set_cons_zero])
                    | (refine' R6.WalkR.det (fun _ => rfl) (fun D ρ W hK hC => ?_) ?_
                       rotate_left
                       · try (have ha := hC.a0 (hK.post 19 (by first | decide +kernel | (dsimp only; decide +kernel))); have hca := (cell_of_row W ga p _ _ _ ha).trans (bls_at xs (by rw [hTj.out.lx]; exact hp)); rw [HXY.out.1] at hca; clear ha)
                         try (have hb := hC.b0 (hK.post 21 (by first | decide +kernel | (dsimp only; decide +kernel))); have hcb := (cell_of_row W gb p _ _ _ hb).trans (bls_at ys (by rw [hTj.out.ly]; exact hp)); rw [HXY.out.2] at hcb; clear hb)
                         have HC := Lib.hid hC
                         clear hC hK
                         go_simp
                         first
                           | with_reducible exact ⟨rfl, HC.out.move (by decide)⟩
                           | fail
                       simp only [Act.put, List.setIfInBounds_toArray, List.set_cons_succ, List.set_cons_zero]))
                  refine' R6.WalkR.det (c := undef) (fun _ => rfl) (fun D ρ W hK hC => ?_) ?_
                  · have ha := hC.a0 hK.me
                    have HC := Lib.hid hC
                    clear hC hK
                    refine gives_store_val 4 (.tmp 88) (.tmp 80) rfl rfl rfl rfl rfl ha (by rw [bls_len, hTj.out.lx]; exact hp) sizeBool ?_
                    intro W1 hP hM1
                    refine ⟨rfl, HC.out.putA (by have := hTj.out.la; omega) hTj.out.ne hP ?_⟩
                    rw [← HS2.out.1, ← bls_set]; exact hM1
                  simp only [Act.put]
                  repeat (first
                    | (refine' R6.WalkR.det (fun _ => rfl) (fun D ρ W hK hC => ?_) ?_
                       rotate_left
                       · skip
                         have HC := Lib.hid hC
                         clear hC hK
                         go_simp
                         first
                           | with_reducible exact ⟨rfl, HC.out.move (by decide)⟩
                           | fail
                       simp only [Act.put, List.setIfInBounds_toArray, List.set_cons_succ, List.set_cons_zero]))
                  refine' R6.WalkR.det (c := undef) (fun _ => rfl) (fun D ρ W hK hC => ?_) ?_
                  · have ha := hC.b0 hK.me
                    have HC := Lib.hid hC
                    clear hC hK
                    refine gives_store_val 4 (.tmp 89) (.tmp 87) rfl rfl rfl rfl rfl ha (by rw [bls_len, hTj.out.ly]; exact hp) sizeBool ?_
                    intro W1 hP hM1
                    refine ⟨rfl, HC.out.putB (by have := hTj.out.lb; omega) hTj.out.ne hP ?_⟩
                    rw [← HS2.out.2.1, ← bls_set]; exact hM1
                  simp only [Act.put]
                  refine R6.WalkR.nil (fun D ρ W6 hD' hC => ?_)
                  have h6 : TrC w #[.int .i64 t.water, .int .i64 t.borax, .slice A l.length cap, .int .i64 t.lo, .int .i64 t.hi, .int .i64 t.need] n ga gb xs2 ys2 W6 := ⟨hTj.out.bel.trans (below_low hC.bel (by omega)), (hC.oth _ (by have := hTj.out.la; omega) (by have := hTj.out.lb; omega)).trans hTj.out.b0, hC.a1 (hD' 19 (by decide)), hC.b1 (hD' 21 (by decide)), hTj.out.ne, hTj.out.la, hTj.out.lb, HS2.out.2.2.1, HS2.out.2.2.2⟩
                  have hO6 : OwnI W6 wo.heap.size (.slice (some ⟨g3, 0, none⟩) l.length c3) (whL t (rws l) (t.lo + k)) := own_same (hOj.out) fun q cur fr hq => hC.oth q (fun e => by rw [e, hTj.out.a] at hq; simp at hq) (fun e => by rw [e, hTj.out.b] at hq; simp at hq)
                  have H6 := Lib.hid (And.intro h6 hO6)
                  clear hC hD' h6 hO6
                  go_wp2
                  go_roundg gi
                  case measure => omega
                  case rel =>
                    refine ⟨p + 1, by omega, by go_num, ?_, H6.out.2⟩
                    show TrC _ _ _ _ _ _ _ _
                    rw [← HX2.out.1, ← HX2.out.2]
                    exact H6.out.1
                | some j' =>
                  rw [hw] at hx hinp
                  simp only [toI] at hx
                  have hj0 : (j' : Int) ≥ 0 := by omega
                  by_cases hjh : j' ≤ h
                  · have hi1 : inS t (rws l) h (t.lo + k) p = true := hinp.2 ⟨j', rfl, hjh⟩
                    have HIN := Lib.hid hi1
                    have hjz' : (j' : Int) ≤ h := by omega
                    clear hinp hw hi1
                    go_wp2
                    clear hx
                    have hs1 := aL_step (t := t) (ws := rws l) (h := h) (k := k) hpn
                    have hs2 := sL_step (t := t) (ws := rws l) (h := h) (k := k) hpn
                    rw [HIN.out, HAV.out, HXS.out.1] at hs1
                    rw [HIN.out, HBV.out, HXS.out.2] at hs2
                    simp only [Bool.and_true, Bool.or_true, Bool.and_self, Bool.or_self] at hs1 hs2
                    obtain ⟨xs2, hx2⟩ : ∃ xs2, xs2 = aL t (rws l) h n k (p + 1) := ⟨_, rfl⟩
                    obtain ⟨ys2, hy2⟩ : ∃ ys2, ys2 = sL t (rws l) h n k (p + 1) := ⟨_, rfl⟩
                    rw [← hx2] at hs1
                    rw [← hy2] at hs2
                    have hl1 : xs2.length = n := by rw [hx2, aL_len]
                    have hl2 : ys2.length = n := by rw [hy2, sL_len]
                    have HS2 := Lib.hid (And.intro hs1 (And.intro hs2 (And.intro hl1 hl2)))
                    have HX2 := Lib.hid (And.intro hx2 hy2)
                    clear hs1 hs2 hx2 hy2 hl1 hl2
                    refine R6.wp_walk (C := TwoB wr (w.heap.size + 1) ga gb (.cells (bls xs).toArray 4 (0, 0)) (.cells (bls xs2).toArray 4 (0, 0)) (.cells (bls ys).toArray 4 (0, 0)) (.cells (bls ys2).toArray 4 (0, 0))) 114 (by kernel_rfl) (by kernel_rfl) rfl ⟨(Below.refl _ _).drew, rfl, fun _ _ _ => rfl, fun _ => hTj.out.a, (fun e => by cases e), fun _ => hTj.out.b, (fun e => by cases e)⟩ ?_
                    simp only []
                    repeat (first
                      | (refine R6.WalkR.un (fun _ => rfl) (fun D ρ W hK hC => hC.move (by decide)) ?_
                         simp only [Act.put, List.setIfInBounds_toArray, List.set_cons_succ, List.set_cons_zero])
                      | (refine' R6.WalkR.det (fun _ => rfl) (fun D ρ W hK hC => ?_) ?_
                         rotate_left
                         · try (have ha := hC.a0 (hK.post 19 (by first | decide +kernel | (dsimp only; decide +kernel))); have hca := (cell_of_row W ga p _ _ _ ha).trans (bls_at xs (by rw [hTj.out.lx]; exact hp)); rw [HXY.out.1] at hca; clear ha)
                           try (have hb := hC.b0 (hK.post 21 (by first | decide +kernel | (dsimp only; decide +kernel))); have hcb := (cell_of_row W gb p _ _ _ hb).trans (bls_at ys (by rw [hTj.out.ly]; exact hp)); rw [HXY.out.2] at hcb; clear hb)
                           have HC := Lib.hid hC
                           clear hC hK
                           go_simp
                           first
                             | with_reducible exact ⟨rfl, HC.out.move (by decide)⟩
                             | fail
                         simp only [Act.put, List.setIfInBounds_toArray, List.set_cons_succ, List.set_cons_zero]))
                    refine' R6.WalkR.det (c := undef) (fun _ => rfl) (fun D ρ W hK hC => ?_) ?_
                    · have ha := hC.a0 hK.me
                      have HC := Lib.hid hC
                      clear hC hK
                      refine gives_store_val 4 (.tmp 88) (.tmp 80) rfl rfl rfl rfl rfl ha (by rw [bls_len, hTj.out.lx]; exact hp) sizeBool ?_
                      intro W1 hP hM1
                      refine ⟨rfl, HC.out.putA (by have := hTj.out.la; omega) hTj.out.ne hP ?_⟩
                      rw [← HS2.out.1, ← bls_set]; exact hM1
                    simp only [Act.put]
                    repeat (first
                      | (refine' R6.WalkR.det (fun _ => rfl) (fun D ρ W hK hC => ?_) ?_
                         rotate_left
                         · skip
                           have HC := Lib.hid hC
                           clear hC hK
                           go_simp
                           first
                             | with_reducible exact ⟨rfl, HC.out.move (by decide)⟩
                             | fail
                         simp only [Act.put, List.setIfInBounds_toArray, List.set_cons_succ, List.set_cons_zero]))
                    refine' R6.WalkR.det (c := undef) (fun _ => rfl) (fun D ρ W hK hC => ?_) ?_
                    · have ha := hC.b0 hK.me
                      have HC := Lib.hid hC
                      clear hC hK
                      refine gives_store_val 4 (.tmp 89) (.tmp 87) rfl rfl rfl rfl rfl ha (by rw [bls_len, hTj.out.ly]; exact hp) sizeBool ?_
                      intro W1 hP hM1
                      refine ⟨rfl, HC.out.putB (by have := hTj.out.lb; omega) hTj.out.ne hP ?_⟩
                      rw [← HS2.out.2.1, ← bls_set]; exact hM1
                    simp only [Act.put]
                    refine R6.WalkR.nil (fun D ρ W6 hD' hC => ?_)
                    have h6 : TrC w #[.int .i64 t.water, .int .i64 t.borax, .slice A l.length cap, .int .i64 t.lo, .int .i64 t.hi, .int .i64 t.need] n ga gb xs2 ys2 W6 := ⟨hTj.out.bel.trans (below_low hC.bel (by omega)), (hC.oth _ (by have := hTj.out.la; omega) (by have := hTj.out.lb; omega)).trans hTj.out.b0, hC.a1 (hD' 19 (by decide)), hC.b1 (hD' 21 (by decide)), hTj.out.ne, hTj.out.la, hTj.out.lb, HS2.out.2.2.1, HS2.out.2.2.2⟩
                    have hO6 : OwnI W6 wo.heap.size (.slice (some ⟨g3, 0, none⟩) l.length c3) (whL t (rws l) (t.lo + k)) := own_same (hOj.out) fun q cur fr hq => hC.oth q (fun e => by rw [e, hTj.out.a] at hq; simp at hq) (fun e => by rw [e, hTj.out.b] at hq; simp at hq)
                    have H6 := Lib.hid (And.intro h6 hO6)
                    clear hC hD' h6 hO6
                    go_wp2
                    go_roundg gi
                    case measure => omega
                    case rel =>
                      refine ⟨p + 1, by omega, by go_num, ?_, H6.out.2⟩
                      show TrC _ _ _ _ _ _ _ _
                      rw [← HX2.out.1, ← HX2.out.2]
                      exact H6.out.1
                  · have hi0 : inS t (rws l) h (t.lo + k) p = false := by
                      cases e : inS t (rws l) h (t.lo + k) p with
                      | false => rfl
                      | true => obtain ⟨j2, e1, e2⟩ := hinp.1 e; injection e1 with e1; omega
                    have HIN := Lib.hid hi0
                    have hjz' : ¬ (j' : Int) ≤ h := by omega
                    clear hinp hw hi0
                    go_wp2
                    clear hx
                    have hs1 := aL_step (t := t) (ws := rws l) (h := h) (k := k) hpn
                    have hs2 := sL_step (t := t) (ws := rws l) (h := h) (k := k) hpn
                    rw [HIN.out, HAV.out, HXS.out.1] at hs1
                    rw [HIN.out, HBV.out, HXS.out.2] at hs2
                    simp only [Bool.and_false, Bool.or_false, Bool.and_self, Bool.or_self] at hs1 hs2
                    obtain ⟨xs2, hx2⟩ : ∃ xs2, xs2 = aL t (rws l) h n k (p + 1) := ⟨_, rfl⟩
                    obtain ⟨ys2, hy2⟩ : ∃ ys2, ys2 = sL t (rws l) h n k (p + 1) := ⟨_, rfl⟩
                    rw [← hx2] at hs1
                    rw [← hy2] at hs2
                    have hl1 : xs2.length = n := by rw [hx2, aL_len]
                    have hl2 : ys2.length = n := by rw [hy2, sL_len]
                    have HS2 := Lib.hid (And.intro hs1 (And.intro hs2 (And.intro hl1 hl2)))
                    have HX2 := Lib.hid (And.intro hx2 hy2)
                    clear hs1 hs2 hx2 hy2 hl1 hl2
                    refine R6.wp_walk (C := TwoB wr (w.heap.size + 1) ga gb (.cells (bls xs).toArray 4 (0, 0)) (.cells (bls xs2).toArray 4 (0, 0)) (.cells (bls ys).toArray 4 (0, 0)) (.cells (bls ys2).toArray 4 (0, 0))) 114 (by kernel_rfl) (by kernel_rfl) rfl ⟨(Below.refl _ _).drew, rfl, fun _ _ _ => rfl, fun _ => hTj.out.a, (fun e => by cases e), fun _ => hTj.out.b, (fun e => by cases e)⟩ ?_
                    simp only []
                    repeat (first
                      | (refine R6.WalkR.un (fun _ => rfl) (fun D ρ W hK hC => hC.move (by decide)) ?_
                         simp only [Act.put, List.setIfInBounds_toArray, List.set_cons_succ, List.set_cons_zero])
                      | (refine' R6.WalkR.det (fun _ => rfl) (fun D ρ W hK hC => ?_) ?_
                         rotate_left
                         · try (have ha := hC.a0 (hK.post 19 (by first | decide +kernel | (dsimp only; decide +kernel))); have hca := (cell_of_row W ga p _ _ _ ha).trans (bls_at xs (by rw [hTj.out.lx]; exact hp)); rw [HXY.out.1] at hca; clear ha)
                           try (have hb := hC.b0 (hK.post 21 (by first | decide +kernel | (dsimp only; decide +kernel))); have hcb := (cell_of_row W gb p _ _ _ hb).trans (bls_at ys (by rw [hTj.out.ly]; exact hp)); rw [HXY.out.2] at hcb; clear hb)
                           have HC := Lib.hid hC
                           clear hC hK
                           go_simp
                           first
                             | with_reducible exact ⟨rfl, HC.out.move (by decide)⟩
                             | fail
                         simp only [Act.put, List.setIfInBounds_toArray, List.set_cons_succ, List.set_cons_zero]))
                    refine' R6.WalkR.det (c := undef) (fun _ => rfl) (fun D ρ W hK hC => ?_) ?_
                    · have ha := hC.a0 hK.me
                      have HC := Lib.hid hC
                      clear hC hK
                      refine gives_store_val 4 (.tmp 88) (.tmp 80) rfl rfl rfl rfl rfl ha (by rw [bls_len, hTj.out.lx]; exact hp) sizeBool ?_
                      intro W1 hP hM1
                      refine ⟨rfl, HC.out.putA (by have := hTj.out.la; omega) hTj.out.ne hP ?_⟩
                      rw [← HS2.out.1, ← bls_set]; exact hM1
                    simp only [Act.put]
                    repeat (first
                      | (refine' R6.WalkR.det (fun _ => rfl) (fun D ρ W hK hC => ?_) ?_
                         rotate_left
                         · skip
                           have HC := Lib.hid hC
                           clear hC hK
                           go_simp
                           first
                             | with_reducible exact ⟨rfl, HC.out.move (by decide)⟩
                             | fail
                         simp only [Act.put, List.setIfInBounds_toArray, List.set_cons_succ, List.set_cons_zero]))
                    refine' R6.WalkR.det (c := undef) (fun _ => rfl) (fun D ρ W hK hC => ?_) ?_
                    · have ha := hC.b0 hK.me
                      have HC := Lib.hid hC
                      clear hC hK
                      refine gives_store_val 4 (.tmp 89) (.tmp 87) rfl rfl rfl rfl rfl ha (by rw [bls_len, hTj.out.ly]; exact hp) sizeBool ?_
                      intro W1 hP hM1
                      refine ⟨rfl, HC.out.putB (by have := hTj.out.lb; omega) hTj.out.ne hP ?_⟩
                      rw [← HS2.out.2.1, ← bls_set]; exact hM1
                    simp only [Act.put]
                    refine R6.WalkR.nil (fun D ρ W6 hD' hC => ?_)
                    have h6 : TrC w #[.int .i64 t.water, .int .i64 t.borax, .slice A l.length cap, .int .i64 t.lo, .int .i64 t.hi, .int .i64 t.need] n ga gb xs2 ys2 W6 := ⟨hTj.out.bel.trans (below_low hC.bel (by omega)), (hC.oth _ (by have := hTj.out.la; omega) (by have := hTj.out.lb; omega)).trans hTj.out.b0, hC.a1 (hD' 19 (by decide)), hC.b1 (hD' 21 (by decide)), hTj.out.ne, hTj.out.la, hTj.out.lb, HS2.out.2.2.1, HS2.out.2.2.2⟩
                    have hO6 : OwnI W6 wo.heap.size (.slice (some ⟨g3, 0, none⟩) l.length c3) (whL t (rws l) (t.lo + k)) := own_same (hOj.out) fun q cur fr hq => hC.oth q (fun e => by rw [e, hTj.out.a] at hq; simp at hq) (fun e => by rw [e, hTj.out.b] at hq; simp at hq)
                    have H6 := Lib.hid (And.intro h6 hO6)
                    clear hC hD' h6 hO6
                    go_wp2
                    go_roundg gi
                    case measure => omega
                    case rel =>
                      refine ⟨p + 1, by omega, by go_num, ?_, H6.out.2⟩
                      show TrC _ _ _ _ _ _ _ _
                      rw [← HX2.out.1, ← HX2.out.2]
                      exact H6.out.1
        | zero =>
          have hkn : ¬ t.lo + (k : Int) ≤ t.hi := by omega
          have hke : k = spN t := by omega
          have hTe := hT.out
          rw [hke] at hTe
          have HTE := Lib.hid hTe
          clear hTe hke
          go_wp2
          clear hcr
          obtain ⟨wo, rfl⟩ : ∃ wo : World, wo = wr := ⟨_, rfl⟩
          go_loopg [13, 14] l.length (fun gi s13 s14 wx => ∃ (p : Nat) (v : Value), p + gi = l.length ∧ s13 = v ∧ s14 = .int .i64 p ∧ Hid (TrC w #[.int .i64 t.water, .int .i64 t.borax, .slice A l.length cap, .int .i64 t.lo, .int .i64 t.hi, .int .i64 t.need] n ga gb (aL t (rws l) h n (spN t) 0) (sL t (rws l) h n (spN t) 0) wx) ∧ Hid (OwnU wx wo.heap.size v ((knownL t (rws l) h).take p)) ∧ Hid (wo.heap.size ≤ wx.heap.size))
          case atStart => exact ⟨0, _, by omega, rfl, rfl, HTE.out, ownU_nilC _ _, Nat.le_refl _⟩
          case round =>
            obtain ⟨p, v, hpg, hs13, rfl, hTj, hO, hWS⟩ := hrel
            obtain rfl := hs13.symm
            cases gk with
            | zero =>
              have hpe : p = l.length := by omega
              have hOe := hO.out
              rw [hpe, List.take_of_length_le (by rw [HR.out.2.2.2.2.2.2]; exact Nat.le_refl _)] at hOe
              have HOE := Lib.hid hOe
              have hpn : ¬ (p : Int) < l.length := by omega
              clear hOe hpe
              go_wp2
              go_ret2
              obtain ⟨A', c', hv⟩ := own_slice HOE.out
              refine ⟨A', c', by rw [HR.out.1, HR.out.2.1, hv]; rfl, ?_, hTj.out.bel⟩
              rw [HR.out.2.1, ← hv]
              exact HOE.out.less HTE.out.bel.size
            | succ gi =>
              have hpl : p < l.length := by omega
              have hpz : (p : Int) < l.length := by omega
              have hp0 : (0 : Int) ≤ p := by omega
              have hp : p < n := by rw [HN.out]; exact hpl
              have hcx := (cell_of_row wr ga p _ _ _ hTj.out.a).trans (bls_at _ (by rw [aL_len]; exact hp))
              have hcy := (cell_of_row wr gb p _ _ _ hTj.out.b).trans (bls_at _ (by rw [sL_len]; exact hp))
              rw [aL_get t (rws l) h (spN t) 0 hp, if_neg (by omega)] at hcx
              rw [sL_get t (rws l) h (spN t) 0 hp, if_neg (by omega)] at hcy
              have hkp := HR.out.2.2.2.2.2.1 p hpl
              have htk : (knownL t (rws l) h).take (p + 1) = (knownL t (rws l) h).take p ++ [codeK (spN t) (cK t (rws l) h p (spN t))] := by rw [List.take_add_one, hkp]; rfl
              have hcle := cK_le t (rws l) h p (spN t)
              have htl : ((knownL t (rws l) h).take p).length = p := by rw [List.length_take, HR.out.2.2.2.2.2.2]; omega
              generalize cK t (rws l) h p (spN t) = c at hcx hcy htk hcle
              have HWS := Lib.hid (show wo.heap.size ≤ wr.heap.size from hWS.out)
              have HTL := Lib.hid htl
              clear hkp htl
              by_cases hc1 : c = spN t
              · have hq : codeK (spN t) c = 2 := by rw [codeK, if_neg (by omega), if_pos hc1]
                rw [hq] at htk
                rw [decide_eq_true hc1] at hcx
                have HTK := Lib.hid htk
                clear htk hcle hq hc1 hcy
                obtain ⟨wy, hwy⟩ : ∃ wy, wr.alloc (.cells #[.int .u8 2] 5) = wy := ⟨_, rfl⟩
                have hby : Below wr.heap.size wr wy := by rw [← hwy]; exact grow1 _ _
                have hmy : wy.heap[wr.heap.size]? = some (.cells #[.int .u8 2] 5 (0, 0)) := by rw [← hwy]; exact alloc_at0 _ _
                have HBY := Lib.hid (And.intro hby hmy)
                clear hby hmy
                go_wp2_with
                  (at_builtin
                   refine wpl_app (by rfl) (.tmp 100) (.tmp 101) 34 (by rfl) wo.heap.size 5 i1 _ 1 1 Tryz.underlying34 HI.out.1 HI.out.2.1 HI.out.2.2.1 HI.out.2.2.2 rfl (by omega) v ((knownL t (rws l) h).take p).length (u8s ((knownL t (rws l) h).take p)) (by rfl) (hO.out.grows HBY.out.1)
                     wy.heap.size (some ⟨wr.heap.size, 0, none⟩) 1 1 [.int .u8 2] (by rfl) (vals_new (vs := [.int .u8 2]) HBY.out.2 (lt_of_heap HBY.out.2)) rfl (by intro u hu; simp at hu; subst hu; rfl) (by rw [HTL.out]; simp only [maxLen]; omega) (by rw [HTL.out]; omega) (by have := HBY.out.1.size; have := HWS.out; omega) ?_
                   intro v' w9 hown hgrow _
                   have hO9 : OwnU w9 wo.heap.size v' ((knownL t (rws l) h).take (p + 1)) := by
                     rw [HTK.out]
                     unfold OwnU
                     simpa [u8s] using hown
                   have hT9 : TrC w #[.int .i64 t.water, .int .i64 t.borax, .slice A l.length cap, .int .i64 t.lo, .int .i64 t.hi, .int .i64 t.need] n ga gb (aL t (rws l) h n (spN t) 0) (sL t (rws l) h n (spN t) 0) w9 := by
                     have h1 := hTj.out.next HBY.out.1
                     have hvt : ∀ x : Nat, ∀ cs' ty, ty ≠ 5 → wy.heap[x]? = some (.cells cs' ty (0, 0)) → some x ≠ v.ownBlock := fun x cs' ty hne hx e => by
                       obtain ⟨cur, hc, _⟩ := own_blockType (hO.out.grows HBY.out.1) e.symm
                       rw [hc] at hx
                       simp only [Option.some.injEq, Obj.cells.injEq] at hx
                       exact hne hx.2.1.symm
                     exact ⟨h1.bel.grown hgrow h1.bel.size (fun q e => by have := (own_blockType (hO.out.grows HBY.out.1) e).choose_spec.2; have := HTE.out.bel.size; omega), (hgrow.block _ (lt_of_heap h1.b0) (hvt _ _ _ (by decide) h1.b0)).trans h1.b0, (hgrow.block _ (lt_of_heap h1.a) (hvt _ _ _ (by decide) h1.a)).trans h1.a, (hgrow.block _ (lt_of_heap h1.b) (hvt _ _ _ (by decide) h1.b)).trans h1.b, h1.ne, h1.la, h1.lb, h1.lx, h1.ly⟩
                   have hS9 : wo.heap.size ≤ w9.heap.size := Nat.le_trans HWS.out (Nat.le_trans HBY.out.1.size hgrow.size)
                   have H9 := Lib.hid (And.intro hT9 (And.intro hO9 hS9))
                   clear hown hgrow hT9 hO9 hS9)
                go_roundg gi
                case measure => omega
                case rel => exact ⟨p + 1, _, by omega, rfl, by go_num, H9.out.1, H9.out.2.1, H9.out.2.2⟩
              · rw [decide_eq_false hc1] at hcx
                by_cases hc0 : 0 < c
                · have hq : codeK (spN t) c = 1 := by rw [codeK, if_neg (by omega), if_neg hc1]
                  rw [hq] at htk
                  rw [decide_eq_true hc0] at hcy
                  have HTK := Lib.hid htk
                  clear htk hcle hq hc1 hc0
                  obtain ⟨wy, hwy⟩ : ∃ wy, wr.alloc (.cells #[.int .u8 1] 5) = wy := ⟨_, rfl⟩
                  have hby : Below wr.heap.size wr wy := by rw [← hwy]; exact grow1 _ _
                  have hmy : wy.heap[wr.heap.size]? = some (.cells #[.int .u8 1] 5 (0, 0)) := by rw [← hwy]; exact alloc_at0 _ _
                  have HBY := Lib.hid (And.intro hby hmy)
                  clear hby hmy
                  go_wp2_with
                    (at_builtin
                     refine wpl_app (by rfl) (.tmp 107) (.tmp 108) 34 (by rfl) wo.heap.size 5 i1 _ 1 1 Tryz.underlying34 HI.out.1 HI.out.2.1 HI.out.2.2.1 HI.out.2.2.2 rfl (by omega) v ((knownL t (rws l) h).take p).length (u8s ((knownL t (rws l) h).take p)) (by rfl) (hO.out.grows HBY.out.1)
                       wy.heap.size (some ⟨wr.heap.size, 0, none⟩) 1 1 [.int .u8 1] (by rfl) (vals_new (vs := [.int .u8 1]) HBY.out.2 (lt_of_heap HBY.out.2)) rfl (by intro u hu; simp at hu; subst hu; rfl) (by rw [HTL.out]; simp only [maxLen]; omega) (by rw [HTL.out]; omega) (by have := HBY.out.1.size; have := HWS.out; omega) ?_
                     intro v' w9 hown hgrow _
                     have hO9 : OwnU w9 wo.heap.size v' ((knownL t (rws l) h).take (p + 1)) := by
                       rw [HTK.out]
                       unfold OwnU
                       simpa [u8s] using hown
                     have hT9 : TrC w #[.int .i64 t.water, .int .i64 t.borax, .slice A l.length cap, .int .i64 t.lo, .int .i64 t.hi, .int .i64 t.need] n ga gb (aL t (rws l) h n (spN t) 0) (sL t (rws l) h n (spN t) 0) w9 := by
                       have h1 := hTj.out.next HBY.out.1
                       have hvt : ∀ x : Nat, ∀ cs' ty, ty ≠ 5 → wy.heap[x]? = some (.cells cs' ty (0, 0)) → some x ≠ v.ownBlock := fun x cs' ty hne hx e => by
                         obtain ⟨cur, hc, _⟩ := own_blockType (hO.out.grows HBY.out.1) e.symm
                         rw [hc] at hx
                         simp only [Option.some.injEq, Obj.cells.injEq] at hx
                         exact hne hx.2.1.symm
                       exact ⟨h1.bel.grown hgrow h1.bel.size (fun q e => by have := (own_blockType (hO.out.grows HBY.out.1) e).choose_spec.2; have := HTE.out.bel.size; omega), (hgrow.block _ (lt_of_heap h1.b0) (hvt _ _ _ (by decide) h1.b0)).trans h1.b0, (hgrow.block _ (lt_of_heap h1.a) (hvt _ _ _ (by decide) h1.a)).trans h1.a, (hgrow.block _ (lt_of_heap h1.b) (hvt _ _ _ (by decide) h1.b)).trans h1.b, h1.ne, h1.la, h1.lb, h1.lx, h1.ly⟩
                     have hS9 : wo.heap.size ≤ w9.heap.size := Nat.le_trans HWS.out (Nat.le_trans HBY.out.1.size hgrow.size)
                     have H9 := Lib.hid (And.intro hT9 (And.intro hO9 hS9))
                     clear hown hgrow hT9 hO9 hS9)
                  go_roundg gi
                  case measure => omega
                  case rel => exact ⟨p + 1, _, by omega, rfl, by go_num, H9.out.1, H9.out.2.1, H9.out.2.2⟩
                · have hq : codeK (spN t) c = 0 := by rw [codeK, if_pos (by omega)]
                  rw [hq] at htk
                  rw [decide_eq_false hc0] at hcy
                  have HTK := Lib.hid htk
                  clear htk hcle hq hc1 hc0
                  obtain ⟨wy, hwy⟩ : ∃ wy, wr.alloc (.cells #[.int .u8 0] 5) = wy := ⟨_, rfl⟩
                  have hby : Below wr.heap.size wr wy := by rw [← hwy]; exact grow1 _ _
                  have hmy : wy.heap[wr.heap.size]? = some (.cells #[.int .u8 0] 5 (0, 0)) := by rw [← hwy]; exact alloc_at0 _ _
                  have HBY := Lib.hid (And.intro hby hmy)
                  clear hby hmy
                  go_wp2_with
                    (at_builtin
                     refine wpl_app (by rfl) (.tmp 110) (.tmp 111) 34 (by rfl) wo.heap.size 5 i1 _ 1 1 Tryz.underlying34 HI.out.1 HI.out.2.1 HI.out.2.2.1 HI.out.2.2.2 rfl (by omega) v ((knownL t (rws l) h).take p).length (u8s ((knownL t (rws l) h).take p)) (by rfl) (hO.out.grows HBY.out.1)
                       wy.heap.size (some ⟨wr.heap.size, 0, none⟩) 1 1 [.int .u8 0] (by rfl) (vals_new (vs := [.int .u8 0]) HBY.out.2 (lt_of_heap HBY.out.2)) rfl (by intro u hu; simp at hu; subst hu; rfl) (by rw [HTL.out]; simp only [maxLen]; omega) (by rw [HTL.out]; omega) (by have := HBY.out.1.size; have := HWS.out; omega) ?_
                     intro v' w9 hown hgrow _
                     have hO9 : OwnU w9 wo.heap.size v' ((knownL t (rws l) h).take (p + 1)) := by
                       rw [HTK.out]
                       unfold OwnU
                       simpa [u8s] using hown
                     have hT9 : TrC w #[.int .i64 t.water, .int .i64 t.borax, .slice A l.length cap, .int .i64 t.lo, .int .i64 t.hi, .int .i64 t.need] n ga gb (aL t (rws l) h n (spN t) 0) (sL t (rws l) h n (spN t) 0) w9 := by
                       have h1 := hTj.out.next HBY.out.1
                       have hvt : ∀ x : Nat, ∀ cs' ty, ty ≠ 5 → wy.heap[x]? = some (.cells cs' ty (0, 0)) → some x ≠ v.ownBlock := fun x cs' ty hne hx e => by
                         obtain ⟨cur, hc, _⟩ := own_blockType (hO.out.grows HBY.out.1) e.symm
                         rw [hc] at hx
                         simp only [Option.some.injEq, Obj.cells.injEq] at hx
                         exact hne hx.2.1.symm
                       exact ⟨h1.bel.grown hgrow h1.bel.size (fun q e => by have := (own_blockType (hO.out.grows HBY.out.1) e).choose_spec.2; have := HTE.out.bel.size; omega), (hgrow.block _ (lt_of_heap h1.b0) (hvt _ _ _ (by decide) h1.b0)).trans h1.b0, (hgrow.block _ (lt_of_heap h1.a) (hvt _ _ _ (by decide) h1.a)).trans h1.a, (hgrow.block _ (lt_of_heap h1.b) (hvt _ _ _ (by decide) h1.b)).trans h1.b, h1.ne, h1.la, h1.lb, h1.lx, h1.ly⟩
                     have hS9 : wo.heap.size ≤ w9.heap.size := Nat.le_trans HWS.out (Nat.le_trans HBY.out.1.size hgrow.size)
                     have H9 := Lib.hid (And.intro hT9 (And.intro hO9 hS9))
                     clear hown hgrow hT9 hO9 hS9)
                  go_roundg gi
                  case measure => omega
                  case rel => exact ⟨p + 1, _, by omega, rfl, by go_num, H9.out.1, H9.out.2.1, H9.out.2.2⟩

theorem refTreated_any (t : Bt) (A : Option Addr) (cap : Nat) (l : List Sl) (h : Int) (B : Nat) (w : World) (hB : B ≤ w.heap.size) (hz : Rows w B A l) (hl : ∀ s ∈ l, s.zs.length ≤ 9223372036854775807) :
    Calls Tryz.prog 50 #[.agg (btcells t (.slice A l.length cap)), .int .i64 h] w (TrePost w t (rws l) h) := by
  by_cases hE : treatE t (rws l) h = 0
  · have hb : okBatch t (rws l) = true := by
      cases hb : okBatch t (rws l) with
      | true => rfl
      | false => simp [treatE, hb] at hE
    have hh : inR h 0 300 = true := by
      cases hh : inR h 0 300 with
      | true => rfl
      | false => rw [← allB_inR] at hh; simp [treatE, hb, hh] at hE
    have h0 := inR_iff.1 hh
    obtain ⟨n, rfl⟩ : ∃ n : Nat, h = (n : Int) := ⟨h.toNat, by omega⟩
    exact refTreated_ok t A cap l n B w hB hz hl hb hh
  · exact refTreated_bad t A cap l h B w hB hz hl hE

end Go.Proofs.YtpnnlmaipcjkmaaGreat
