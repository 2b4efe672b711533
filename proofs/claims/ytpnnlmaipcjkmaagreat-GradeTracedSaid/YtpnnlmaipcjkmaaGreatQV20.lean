/-
  A map from three numbers to a number, as memory; a region that counts one more.
-/
import Derived.Test.YtpnnlmaipcjkmaaGreatQV19
set_option linter.all false
namespace Go.Proofs.YtpnnlmaipcjkmaaGreat
open Go.RowKit Go.Maps Go.ChangeMaps
open R6 (done done_ne done_me upd_ne upd_me)

theorem kLawOA : WideMaps.KeyLaw Tryz.prog 54 := deep_law_laid (P := Tryz.prog) Tryz.laidOutM (m := 4) (by omega) (k := 54) (of_decide_eq_true (by kernel_rfl)) (by kernel_rfl) (by kernel_rfl)
theorem keyedOA : Keyed Tryz.prog 54 := Keyed.of_law kLawOA
theorem cellsOgA : Tryz.prog.cellsOf 54 = 3 := by kernel_rfl
theorem ogv_keyA (o : Og) (h : ogOk o) : ∃ kl, keyOf Tryz.prog 54 (ogv o) = some kl := by
  have hN : Tryz.prog.types.size + 1 = (Tryz.prog.types.size - 1) + 1 + 1 := by kernel_rfl
  have hl : Tryz.prog.keyLits ((Tryz.prog.types.size - 1) + 1 + 1) 54 (ogl o) = some [.int .i64 o.clone, .int .i64 o.cut, .int .i64 o.shot] := by
    unfold Program.keyLits
    simp only [Tryz.underlying54, cellsOgA]
    simp [ogl, List.mapM_cons, show List.range 3 = [0, 1, 2] from rfl, cellsIO, lits_int5 _ h.1, lits_int5 _ h.2.1, lits_int5 _ h.2.2]
  rw [← hN] at hl
  refine ⟨.string (keyBytes [.int .i64 o.clone, .int .i64 o.cut, .int .i64 o.shot]), ?_⟩
  unfold keyOf
  rw [Tryz.underlying54]
  have hk : Tryz.prog.keyType 54 = true := by kernel_rfl
  have hf : (ogv o).formed Tryz.prog 54 = true := by simp [Value.formed, ogv, ogl, Tryz.underlying54, cellsOgA]
  simp only [hk, hf, Bool.and_self, if_true]
  rw [show (ogv o).cells.toList = ogl o from rfl, hl]
  rfl
def MapOA (D : DataW Value) (F : Og → Int) : Prop := ∀ (o : Og) (kl : Lit), keyOf Tryz.prog 54 (ogv o) = some kl → D.atKey kl (.held (.int .i64 0)) = .held (.int .i64 (F o))
def OwnOA (W : World) (mb n : Nat) (F : Og → Int) : Prop := ∃ D : DataW Value, W.ownsMap Tryz.prog 54 rdE mb n D ∧ MapOA D F
theorem OwnOA.made {W : World} {mb : Nat} (h : W.heap[mb]? = some (.map #[] 0)) : OwnOA W mb 0 fun _ => 0 := by
  refine ⟨.map [], ⟨#[], 0, h, ?_⟩, fun _ _ _ => rfl⟩
  have := World.ownsMap_made (H := Value) W Tryz.prog 54 rdE
  obtain ⟨es, cl, hb, r⟩ := this
  rw [World.alloc_heap_new] at hb
  simp only [Option.some.injEq, Obj.map.injEq] at hb
  obtain ⟨rfl, rfl⟩ := hb
  exact r
theorem OwnOA.block {W W' : World} {mb n : Nat} {F : Og → Int} (h : OwnOA W mb n F) (e : W'.heap[mb]? = W.heap[mb]?) : OwnOA W' mb n F := by
  obtain ⟨D, h1, h2⟩ := h
  refine ⟨D, ?_, h2⟩
  unfold World.ownsMap at h1 ⊢
  rw [e]
  exact h1
theorem OwnOA.lt {W : World} {mb n : Nat} {F : Og → Int} (h : OwnOA W mb n F) : mb < W.heap.size := let ⟨_, h1, _⟩ := h; h1.lt
section
variable {op : Oper} {a : Act} {w : World} {R : Value → World → Prop} {M n : Nat} {F : Og → Int}
theorem gives_lookOA (m x : Operand) (hop : op.op = Op.lookup 96 m x false) (hm : a.eval m = .map (some M)) (hO : OwnOA w M n F) {o : Og} (ho : ogOk o) (hx : a.eval x = ogv o) (h : R (.int .i64 (F o)) w) : gives Tryz.prog op a w R := by
  obtain ⟨D, h1, h2⟩ := hO
  obtain ⟨kl, hk⟩ := ogv_keyA o ho
  obtain ⟨v, ps, hrun, hv⟩ := h1.lookup keyedOA Tryz.underlying96 (zeroIO w) (zd := .held (.int .i64 0)) (zp := []) rfl hk
  simp only [rdE, Option.some.injEq, Prod.mk.injEq, h2 o kl hk, DataW.held.injEq] at hv
  rw [hv.1] at hrun
  unfold gives
  simp [execOp, hop, hm, hx, hrun, Result.andThen]
  exact h
structure EntryA (w : World) (M n : Nat) (F : Og → Int) (o : Og) (x : Int) (st : Nat) (W W' : World) : Prop where
  first : w.grownBy W (some M)
  next : w.grownBy W' (some M)
  store : (Instr.entryStore 96 (.map (some M)) (goInt st) (.int .i64 x)).run Tryz.prog W = .ok () W'
  own : OwnOA W' M (n + 1) (updO F o x)
  mid : OwnOA W M (n + 1) F
theorem gives_entryA (m y : Operand) (hop : op.op = Op.mapEntry 96 m y) (hm : a.eval m = .map (some M)) (hO : OwnOA w M n F) (hn : n < maxLen) {o : Og} (ho : ogOk o) (hx : a.eval y = ogv o) (x : Int)
    (h : ∀ v0 st W W', EntryA w M n F o x st W W' → R (.tuple #[v0, goInt st]) W) : gives Tryz.prog op a w R := by
  obtain ⟨D, h1, h2⟩ := hO
  obtain ⟨kl, hk⟩ := ogv_keyA o ho
  obtain ⟨w', hrun, r1, r2⟩ := h1.update keyedOA Tryz.underlying96 hn hk (val := .int .i64 x) (d := .held (.int .i64 x)) (ps := []) rfl
  have hD := h1.isMap
  have hO0 : OwnOA w M n F := ⟨D, h1, h2⟩
  obtain ⟨wz, hrunz, rz, -⟩ := h1.update keyedOA Tryz.underlying96 hn hk (val := .int .i64 0) (d := .held (.int .i64 0)) (ps := []) rfl
  obtain ⟨es, clock, hb, Ft, -, hDe⟩ := h1
  obtain ⟨v9, st9, W9, e9, c9⟩ := entry_mid kLawOA Tryz.underlying96 zeroIO hb Ft hk
  obtain ⟨v0, st, es1, clock1, e1, -, e2⟩ := WideElems.entry_then_store kLawOA Tryz.underlying96 zeroIO hb Ft hk
  have hM : M < w.heap.size := lt_of_heap hb
  have hsame : ∀ ob : Obj, (setBlock w M ob).heap[M]? = some ob := fun ob => by simp [setBlock, hM]
  obtain ⟨es', clock', e3, e4⟩ := e2 (setBlock w M (.map es1 clock1)) (.int .i64 x) (hsame _)
  rw [hrun] at e4
  simp only [Result.ok.injEq, true_and] at e4
  have hss : setBlock (setBlock w M (.map es1 clock1)) M (.map es' clock') = w' := by
    rw [e4]
    simp [setBlock]
  rw [hss] at e3
  have hg : w.grownBy (setBlock w M (.map es1 clock1)) (some M) := ⟨rfl, rfl, rfl, by simp [setBlock], fun i _ hi => by simp only [setBlock]; rw [Array.getElem?_setIfInBounds_ne (fun e => hi (by rw [e]))]⟩
  rw [e1] at e9
  simp only [Result.ok.injEq] at e9
  have hmid : OwnOA (setBlock w M (.map es1 clock1)) M (n + 1) F := by
    rw [e9.2]
    rcases c9 with c9 | ⟨c9, ca⟩
    · exact (let ⟨D', a, b⟩ := hO0.block (W' := W9) (c9.trans hb.symm); ⟨D', a.mono (Nat.le_succ n), b⟩)
    · rw [hrunz] at c9
      simp only [Result.ok.injEq, true_and] at c9
      rw [← c9]
      have hF0 : F o = 0 := by
        have hh := h2 o kl hk
        rcases Maps.fit_look false keyedOA Tryz.underlying96 (zeroIO w) hb Ft hk with ⟨_, _, hat⟩ | ⟨e0, y, he0, hek, _⟩
        · rw [hDe, hat] at hh
          simp only [DataW.held.injEq, Value.int.injEq, true_and] at hh
          exact hh.symm
        · exact absurd hek (ca e0 he0)
      refine ⟨_, rz, fun q kq hq => ?_⟩
      by_cases e : q = o
      · subst e
        rw [hk] at hq
        simp only [Option.some.injEq] at hq
        subst hq
        rw [atKey_put_same hD (keyedOA.key hk) _ _, hF0]
      · have hne : kq ≠ kl := fun hh => e (ogv_inj (keyedOA.inj hq (by rw [hh]; exact hk)))
        rw [atKey_put_other hne]
        exact h2 q kq hq
  unfold gives
  simp [execOp, hop, hm, hx, e1, Result.andThen]
  refine h v0 st _ w' ⟨hg, r2, e3, ⟨_, r1, fun q kq hq => ?_⟩, hmid⟩
  unfold updO
  by_cases e : q = o
  · subst e
    rw [hk] at hq
    simp only [Option.some.injEq] at hq
    subst hq
    rw [if_pos (ogEq_iff.2 rfl)]
    exact atKey_put_same hD (keyedOA.key hk) _ _
  · have hne : kq ≠ kl := fun hh => e (ogv_inj (keyedOA.inj hq (by rw [hh]; exact hk)))
    rw [if_neg (fun h => e (ogEq_iff.1 h)), atKey_put_other hne]
    exact h2 q kq hq
end

structure EnCA (w5 : World) (M n : Nat) (F : Og → Int) (o : Og) (x : Int) (K : List (Nat × Obj)) (D : Nat → Bool) (σ : Nat → Value) (W : World) : Prop where
  pre : D 4 = false → Below w5.heap.size w5 W ∧ keptK K W
  mid : D 4 = true → D 6 = false → ∃ W0 v0 st W', Below w5.heap.size w5 W0 ∧ EntryA W0 M n F o x st W W' ∧ σ 97 = .tuple #[v0, goInt st] ∧ (D 5 = true → σ 98 = goInt st)
  post : D 6 = true → ∃ W0, Below w5.heap.size w5 W0 ∧ W0.grownBy W (some M) ∧ OwnOA W M (n + 1) (updO F o x)
def enKA (k : Nat) (d : Option Nat) : Bool := !(k == 4 || k == 5 || k == 6 || d == some 97 || d == some 98)
section
variable {w5 W W' : World} {M n : Nat} {F : Og → Int} {o : Og} {x : Int} {K : List (Nat × Obj)} {D : Nat → Bool} {σ : Nat → Value}
theorem EnCA.move {k : Nat} {d : Option Nat} {v : Value} (h : EnCA w5 M n F o x K D σ W) (hk : enKA k d = true) : EnCA w5 M n F o x K (done D k) (R4.upd σ d v) W := by
  simp only [enKA, Bool.not_eq_true', Bool.or_eq_false_iff, beq_eq_false_iff_ne, ne_eq] at hk
  obtain ⟨⟨⟨⟨a5, a6⟩, a7⟩, d25⟩, d26⟩ := hk
  have f := fun j (hj : j ≠ k) => done_ne (D := D) (k := k) (j := j) hj
  exact ⟨by rw [f 4 (by omega)]; exact h.pre, by rw [f 4 (by omega), f 5 (by omega), f 6 (by omega), upd_ne (ρ := σ) (v := v) d25, upd_ne (ρ := σ) (v := v) d26]; exact h.mid, by rw [f 6 (by omega)]; exact h.post⟩
theorem EnCA.next {k : Nat} {d : Option Nat} {v : Value} (h : EnCA w5 M n F o x K D σ W) (h5 : D 4 = false) (h7 : D 6 = false) (hg : Grows W W') (hk : enKA k d = true) : EnCA w5 M n F o x K (done D k) (R4.upd σ d v) W' := by
  simp only [enKA, Bool.not_eq_true', Bool.or_eq_false_iff, beq_eq_false_iff_ne, ne_eq] at hk
  obtain ⟨⟨⟨⟨a5, a6⟩, a7⟩, d25⟩, d26⟩ := hk
  have f := fun j (hj : j ≠ k) => done_ne (D := D) (k := k) (j := j) hj
  exact ⟨fun _ => ⟨(h.pre h5).1.trans (hg.mono (h.pre h5).1.size), (h.pre h5).2.next hg⟩, (by rw [f 4 (by omega), h5]; intro e; cases e), (by rw [f 6 (by omega), h7]; intro e; cases e)⟩
theorem EnCA.entry {v0 : Value} {st : Nat} {Wf : World} (h : EnCA w5 M n F o x K D σ W) (h5 : D 4 = false) (h6 : D 5 = false) (h7 : D 6 = false) (he : EntryA W M n F o x st W' Wf) : EnCA w5 M n F o x K (done D 4) (R4.upd σ (some 97) (.tuple #[v0, goInt st])) W' := by
  have f := fun j (hj : j ≠ 4) => done_ne (D := D) (k := 4) (j := j) hj
  exact ⟨(fun e => by rw [done_me] at e; cases e), fun _ _ => ⟨W, v0, st, Wf, (h.pre h5).1, he, upd_me, (by rw [f 5 (by decide), h6]; intro e; cases e)⟩, (by rw [f 6 (by decide), h7]; intro e; cases e)⟩
end

section
variable {w5 W W' : World} {M n : Nat} {F : Og → Int} {o : Og} {x : Int} {K : List (Nat × Obj)} {D : Nat → Bool} {σ : Nat → Value}
theorem EnCA.look (h : EnCA w5 M n F o x K D σ W) (h7 : D 6 = false) (hO : OwnOA w5 M n F) : ∃ m, OwnOA W M m F := by
  cases h5 : D 4
  · exact ⟨n, hO.block ((h.pre h5).1.block _ hO.lt)⟩
  · obtain ⟨W0, v0, st, W', _, hE, _⟩ := h.mid h5 h7
    exact ⟨n + 1, hE.mid⟩
theorem EnCA.ext {v0 : Value} {st : Nat} {W0 Wf : World} (h : EnCA w5 M n F o x K D σ W) (h7 : D 6 = false) (hb : Below w5.heap.size w5 W0) (he : EntryA W0 M n F o x st W Wf) (hv : σ 97 = .tuple #[v0, goInt st]) : EnCA w5 M n F o x K (done D 5) (R4.upd σ (some 98) (goInt st)) W := by
  have f := fun j (hj : j ≠ 5) => done_ne (D := D) (k := 5) (j := j) hj
  have u := upd_ne (ρ := σ) (d := some 98) (v := goInt st) (t := 97) (by decide)
  exact ⟨by rw [f 4 (by decide)]; exact h.pre, fun _ _ => ⟨W0, v0, st, Wf, hb, he, by rw [u]; exact hv, fun _ => upd_me⟩, (by rw [f 6 (by decide), h7]; intro e; cases e)⟩
theorem EnCA.fin {st : Nat} {W0 Wf : World} (h5 : D 4 = true) (hb : Below w5.heap.size w5 W0) (he : EntryA W0 M n F o x st W Wf) : EnCA w5 M n F o x K (done D 6) σ Wf := by
  have f := fun j (hj : j ≠ 6) => done_ne (D := D) (k := 6) (j := j) hj
  exact ⟨(fun e => by rw [f 4 (by decide), h5] at e; cases e), (fun _ e => by rw [done_me] at e; cases e), fun _ => ⟨W0, hb, he.next, he.own⟩⟩
end
section
variable {P : Program} {ops : Array Oper} {rest : List Oper} {op : Oper} {a : Act} {w : World} {Q : Exit → Act → World → Prop} {M n : Nat} {F : Og → Int}
theorem wpList_lookOAG (m x : Operand) (hw : Region.wanted op (yielded ops a.tmps) = true) (hop : op.op = Op.lookup 96 m x false) (hm : a.eval m = .map (some M)) (hO : OwnOA w M n F) {o : Og} (ho : ogOk o) (hx : a.eval x = ogv o) (h : wpList Tryz.prog ops Q rest (a.put op.dst (.int .i64 (F o))) w) : wpList Tryz.prog ops Q (op :: rest) a w := by
  obtain ⟨D, h1, h2⟩ := hO
  obtain ⟨kl, hk⟩ := ogv_keyA o ho
  obtain ⟨v, ps, hrun, hv⟩ := h1.lookup keyedOA Tryz.underlying96 (zeroIO w) (zd := .held (.int .i64 0)) (zp := []) rfl hk
  simp only [rdE, Option.some.injEq, Prod.mk.injEq, h2 o kl hk, DataW.held.injEq] at hv
  rw [hv.1] at hrun
  refine wpList_step fun K hK => ?_
  rw [if_pos hw]
  unfold Oper.wp execOp
  simp [hop, hm, hx, hrun, Sem.run_bind, Result.andThen_ok]
  exact hK _ _ h
end

end Go.Proofs.YtpnnlmaipcjkmaaGreat
