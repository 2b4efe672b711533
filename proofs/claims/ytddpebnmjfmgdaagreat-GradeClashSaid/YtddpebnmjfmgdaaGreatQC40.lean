/-
  A region that makes two blocks of one number each and writes them; structs compared behind a guard.
-/
import Derived.Test.YtddpebnmjfmgdaaGreatQC30
import Derived.Test.YtddpebnmjfmgdaaGreatQC34
import Derived.Test.YtddpebnmjfmgdaaGreatQC39
import Derived.Test.YtddpebnmjfmgdaaGreatQC38
set_option linter.all false
namespace Go.Proofs.YtddpebnmjfmgdaaGreat
open Go.RowKit

theorem clash_zero {gs : List Gd} {vary : Int} {ps : List Pol} {T : List Ts} (h : gChk gs vary ps T = 0) (h0 : truth gs vary ps [] = true) :
    decide (0 < (sClash gs vary ps T).1.length) = !truth gs vary ps T ∧ ((sClash gs vary ps T).2 == 0) = true := by
  unfold sClash
  rw [if_pos h]
  refine ⟨?_, rfl⟩
  cases ht : truth gs vary ps T
  · have := clash_some h0 ht
    have hl : 0 < (clashL gs vary ps T).length := List.length_pos_iff.2 this
    simp [hl]
  · rw [clash_none ht]
    rfl
/-- One test alone. -/
theorem one_alone {gs : List Gd} {vary : Int} {ps : List Pol} {ts : List Ts} (h : gChk gs vary ps ts = 0) (h0 : truth gs vary ps [] = true) {i : Nat} (hi : i < ts.length) :
    decide (0 < (sClash gs vary ps (subT ts [ts[i].id])).1.length) = !truth gs vary ps [ts[i]] ∧ ((sClash gs vary ps (subT ts [ts[i].id])).2 == 0 && (subT ts [ts[i].id]).length == [ts[i].id].length) = true := by
  rw [subT_one ts i hi (gChk_upT h)]
  have hs : [ts[i]].Sublist ts := List.singleton_sublist.2 (List.getElem_mem hi)
  obtain ⟨h1, h2⟩ := clash_zero (gChk_sub hs h) h0
  refine ⟨h1, ?_⟩
  rw [h2]
  rfl
/-- Two tests alone. -/
theorem two_alone {gs : List Gd} {vary : Int} {ps : List Pol} {ts : List Ts} (h : gChk gs vary ps ts = 0) (h0 : truth gs vary ps [] = true) {i k : Nat} (hk : k < ts.length) (hik : i < k) :
    decide (0 < (sClash gs vary ps (subT ts [ts[i].id, ts[k].id])).1.length) = !truth gs vary ps [ts[i], ts[k]] ∧ ((sClash gs vary ps (subT ts [ts[i].id, ts[k].id])).2 == 0 && (subT ts [ts[i].id, ts[k].id]).length == [ts[i].id, ts[k].id].length) = true := by
  rw [subT_two ts i k hk hik (gChk_upT h)]
  obtain ⟨h1, h2⟩ := clash_zero (gChk_sub (pair_sub hk hik) h) h0
  refine ⟨h1, ?_⟩
  rw [h2]
  rfl
theorem id_lt {ts : List Ts} (h : UpT ts) {i k : Nat} (hk : k < ts.length) (hi : i < ts.length) : ts[i].id < ts[k].id ↔ i < k := by
  have h' := List.pairwise_iff_getElem.1 h
  constructor
  · intro hlt
    rcases Nat.lt_trichotomy i k with e | e | e
    · exact e
    · subst e; omega
    · have := h' k i hk hi e; omega
  · exact h' i k hi hk

end Go.Proofs.YtddpebnmjfmgdaaGreat

namespace Go.Proofs.YtddpebnmjfmgdaaGreat
open Go.RowKit

/-- What the closure `clashes` tells of some numbers, in all worlds on top of one. -/
def ClsAt (w4 : World) (bs bg : Nat) (ids : List Int) (u : Bool) : Prop := ∀ (W : World), Below w4.heap.size w4 W → ∀ (A0 : Option Addr) (c0 : Nat), Ints W W.heap.size A0 ids →
  Calls Tryz.prog 36 #[.slice A0 ids.length c0, .pointer (some ⟨bs, 0, none⟩), .pointer (some ⟨bg, 0, none⟩)] W fun e w' => e = .returned (.tuple #[.bool u, .bool true]) ∧ Below W.heap.size W w'

section
variable {ps : List Pol} {ts : List Ts} {gs : List Gd} {vary : Int} {AP AT AG : Option Addr} {cp ct cg bs bg B : Nat} {w4 : World}
theorem cls_of (ids : List Int) (hli : ids.length ≤ 2) (hB : B ≤ w4.heap.size) (hz : ShAt w4 B ps ts AP AT) (hg : GdAt w4 B gs AG) (hlp : ps.length ≤ 16) (hlt : ts.length ≤ 26)
    (hbs : w4.heap[bs]? = some (.cells #[.slice AP ps.length cp, .slice AT ts.length ct] 25 (0, 0))) (hbg : w4.heap[bg]? = some (.cells #[.slice AG gs.length cg, .int .i64 vary] 28 (0, 0)))
    {u : Bool} (h1 : decide (0 < (sClash gs vary ps (subT ts ids)).1.length) = u) (h2 : ((sClash gs vary ps (subT ts ids)).2 == 0 && (subT ts ids).length == ids.length) = true) : ClsAt w4 bs bg ids u := by
  intro W hW A0 c0 hi
  have h := gtClashes_any ps ts gs vary ids AP cp AT ct AG cg A0 c0 bs bg W.heap.size W (Nat.le_refl _) ((hz.below (hW.mono hB)).mono (Nat.le_trans hB hW.size)) ((hg.below (hW.mono hB)).mono (Nat.le_trans hB hW.size)) hlp hlt hli hi ((hW.block _ (lt_of_heap hbs)).trans hbs) ((hW.block _ (lt_of_heap hbg)).trans hbg)
  rw [h1, h2] at h
  exact h
theorem cls_one (hB : B ≤ w4.heap.size) (hz : ShAt w4 B ps ts AP AT) (hg : GdAt w4 B gs AG) (hlp : ps.length ≤ 16) (hlt : ts.length ≤ 26)
    (hbs : w4.heap[bs]? = some (.cells #[.slice AP ps.length cp, .slice AT ts.length ct] 25 (0, 0))) (hbg : w4.heap[bg]? = some (.cells #[.slice AG gs.length cg, .int .i64 vary] 28 (0, 0)))
    (hck : gChk gs vary ps ts = 0) {i : Nat} (hi : i < ts.length) : ClsAt w4 bs bg [ts[i].id] (!truth gs vary ps [ts[i]]) := by
  obtain ⟨h1, h2⟩ := one_alone hck (truth_nil (gChk_ok hck).1) hi
  exact cls_of _ (by simp) hB hz hg hlp hlt hbs hbg h1 h2
theorem cls_two (hB : B ≤ w4.heap.size) (hz : ShAt w4 B ps ts AP AT) (hg : GdAt w4 B gs AG) (hlp : ps.length ≤ 16) (hlt : ts.length ≤ 26)
    (hbs : w4.heap[bs]? = some (.cells #[.slice AP ps.length cp, .slice AT ts.length ct] 25 (0, 0))) (hbg : w4.heap[bg]? = some (.cells #[.slice AG gs.length cg, .int .i64 vary] 28 (0, 0)))
    (hck : gChk gs vary ps ts = 0) {i k : Nat} (hk : k < ts.length) (hik : i < k) : ClsAt w4 bs bg [ts[i].id, ts[k].id] (!truth gs vary ps [ts[i], ts[k]]) := by
  obtain ⟨h1, h2⟩ := two_alone hck (truth_nil (gChk_ok hck).1) hk hik
  exact cls_of _ (by simp) hB hz hg hlp hlt hbs hbg h1 h2
end
theorem truth_some {gs : List Gd} {vary : Int} {ps : List Pol} {ts us : List Ts} (hs : us.Sublist ts) (h : truth gs vary ps ts = true) : (!truth gs vary ps us) = false := by rw [truth_fewer hs h]; rfl
theorem id_le {ts : List Ts} (h : UpT ts) {i k : Nat} (hk : k < ts.length) (hi : i < ts.length) (hik : i ≤ k) : ts[i].id ≤ ts[k].id := by
  rcases Nat.lt_or_eq_of_le hik with e | rfl
  · have := (id_lt h hk hi).2 e; omega
  · exact Int.le_refl _

end Go.Proofs.YtddpebnmjfmgdaaGreat

namespace Go.Proofs.YtddpebnmjfmgdaaGreat
open Go.RowKit
open R6 (done done_ne done_me upd_ne upd_me)

/-- Two blocks that a region makes and writes: the first by the operations ka (its slot sa), kc; the second by kb (sb), kd. -/
structure Mk2 (w1 : World) (ty : TypeId) (X0 : List Value) (ka kc sa : Nat) (X : List Value) (kb kd sb : Nat) (Y : List Value) (D : Nat → Bool) (σ : Nat → Value) (W : World) : Prop where
  bel : Below w1.heap.size w1 W
  a : D ka = true → ∃ b, w1.heap.size ≤ b ∧ σ sa = .pointer (some ⟨b, 0, none⟩) ∧ W.heap[b]? = some (.cells (if D kc = true then X else X0).toArray ty (0, 0))
  b : D kb = true → ∃ b, w1.heap.size ≤ b ∧ σ sb = .pointer (some ⟨b, 0, none⟩) ∧ W.heap[b]? = some (.cells (if D kd = true then Y else X0).toArray ty (0, 0))
  ne : D ka = true → D kb = true → σ sa ≠ σ sb
def mk2K (ka kc sa kb kd sb k : Nat) (d : Option Nat) : Bool := !(k == ka || k == kb || k == kc || k == kd || d == some sa || d == some sb)
def mk2D (ka kc sa kb kd sb : Nat) : Bool := !(ka == kb || ka == kc || ka == kd || kb == kc || kb == kd || kc == kd || sa == sb)
section
variable {w1 W W' : World} {ka kc sa kb kd sb : Nat} {ty : TypeId} {X0 X Y : List Value} {D : Nat → Bool} {σ : Nat → Value}
theorem Mk2.swap (h : Mk2 w1 ty X0 ka kc sa X kb kd sb Y D σ W) : Mk2 w1 ty X0 kb kd sb Y ka kc sa X D σ W := ⟨h.bel, h.b, h.a, fun p q e => h.ne q p e.symm⟩
theorem Mk2.start (hD : ∀ k, D k = false) : Mk2 w1 ty X0 ka kc sa X kb kd sb Y D σ w1.drew := ⟨(Below.refl _ _).drew, (fun h => by rw [hD] at h; cases h), (fun h => by rw [hD] at h; cases h), (fun h => by rw [hD] at h; cases h)⟩
theorem Mk2.move {k : Nat} {d : Option Nat} {v : Value} (h : Mk2 w1 ty X0 ka kc sa X kb kd sb Y D σ W) (hk : mk2K ka kc sa kb kd sb k d = true) : Mk2 w1 ty X0 ka kc sa X kb kd sb Y (done D k) (R4.upd σ d v) W := by
  simp only [mk2K, Bool.not_eq_true', Bool.or_eq_false_iff, beq_eq_false_iff_ne, ne_eq] at hk
  obtain ⟨⟨⟨⟨⟨h1, h2⟩, h3⟩, h4⟩, h5⟩, h6⟩ := hk
  have e1 := done_ne (D := D) (k := k) (j := ka) (by omega)
  have e2 := done_ne (D := D) (k := k) (j := kb) (by omega)
  have e3 := done_ne (D := D) (k := k) (j := kc) (by omega)
  have e4 := done_ne (D := D) (k := k) (j := kd) (by omega)
  have u1 := upd_ne (ρ := σ) (v := v) h5
  have u2 := upd_ne (ρ := σ) (v := v) h6
  exact ⟨h.bel, by rw [e1, e3, u1]; exact h.a, by rw [e2, e4, u2]; exact h.b, by rw [e1, e2, u1, u2]; exact h.ne⟩
theorem Mk2.newA {cs : Array Value} (h : Mk2 w1 ty X0 ka kc sa X kb kd sb Y D σ W) (hd : mk2D ka kc sa kb kd sb = true) (hc : D kc = false) (hcs : cs = X0.toArray) :
    Mk2 w1 ty X0 ka kc sa X kb kd sb Y (done D ka) (R4.upd σ (some sa) (.pointer (some ⟨W.heap.size, 0, none⟩))) (W.alloc (.cells cs ty)) := by
  subst hcs
  simp only [mk2D, Bool.not_eq_true', Bool.or_eq_false_iff, beq_eq_false_iff_ne, ne_eq] at hd
  obtain ⟨⟨⟨⟨⟨⟨h1, h2⟩, h3⟩, h4⟩, h5⟩, h6⟩, h7⟩ := hd
  have hg : Grows W (W.alloc (.cells X0.toArray ty)) := grow1 _ _
  have e2 := done_ne (D := D) (k := ka) (j := kb) (by omega)
  have e3 := done_ne (D := D) (k := ka) (j := kc) (by omega)
  have e4 := done_ne (D := D) (k := ka) (j := kd) (by omega)
  have u2 : R4.upd σ (some sa) (.pointer (some ⟨W.heap.size, 0, none⟩)) sb = σ sb := upd_ne (by simpa using h7)
  have hb : D kb = true → ∃ b, w1.heap.size ≤ b ∧ σ sb = .pointer (some ⟨b, 0, none⟩) ∧ (W.alloc (.cells X0.toArray ty)).heap[b]? = some (.cells (if D kd = true then Y else X0).toArray ty (0, 0)) := fun e => by
    obtain ⟨b, h0, h1, h2⟩ := h.b e
    exact ⟨b, h0, h1, (hg.block _ (lt_of_heap h2)).trans h2⟩
  refine ⟨h.bel.trans (hg.mono h.bel.size), fun _ => ⟨_, h.bel.size, upd_me, by rw [e3, hc, if_neg (by decide)]; exact alloc_at0 _ _⟩, by rw [e2, e4, u2]; exact hb, ?_⟩
  rw [e2, u2, upd_me]
  intro _ e e'
  obtain ⟨b, h0, h1, h2⟩ := h.b e
  rw [h1] at e'
  simp only [Value.pointer.injEq, Option.some.injEq, Addr.mk.injEq, and_true] at e'
  have := lt_of_heap h2
  omega
theorem Mk2.putA {b : Nat} (h : Mk2 w1 ty X0 ka kc sa X kb kd sb Y D σ W) (hd : mk2D ka kc sa kb kd sb = true) (ha : D ka = true) (hv : σ sa = .pointer (some ⟨b, 0, none⟩)) (hb : w1.heap.size ≤ b) (hP : Put W W' b) (hM : W'.heap[b]? = some (.cells X.toArray ty (0, 0))) :
    Mk2 w1 ty X0 ka kc sa X kb kd sb Y (done D kc) σ W' := by
  simp only [mk2D, Bool.not_eq_true', Bool.or_eq_false_iff, beq_eq_false_iff_ne, ne_eq] at hd
  obtain ⟨⟨⟨⟨⟨⟨h1, h2⟩, h3⟩, h4⟩, h5⟩, h6⟩, h7⟩ := hd
  have e1 := done_ne (D := D) (k := kc) (j := ka) (by omega)
  have e2 := done_ne (D := D) (k := kc) (j := kb) (by omega)
  have e4 := done_ne (D := D) (k := kc) (j := kd) (by omega)
  refine ⟨h.bel.trans (hP.below hb), fun _ => ⟨b, hb, hv, by rw [done_me, if_pos rfl]; exact hM⟩, ?_, by rw [e1, e2]; exact h.ne⟩
  rw [e2, e4]
  intro e
  obtain ⟨c, g0, g1, g2⟩ := h.b e
  exact ⟨c, g0, g1, (hP.other _ (fun e' => h.ne ha e (by rw [hv, g1, e']))).trans g2⟩
end
section
variable {P : Program} {ops : Array Oper} {rest : List Oper} {op : Oper} {a : Act} {w : World} {Q : Exit → Act → World → Prop}
theorem wpList_eqlG (ty ty2 : TypeId) (x y : Operand) (hw : Region.wanted op (yielded ops a.tmps) = true) (ho : op.op = .binOp .eql ty x y ty2) {u v : Value} (hx : a.eval x = u) (hy : a.eval y = v) {r : Value} (hg : (eqGuard .eql ty x y u v).run P w = .ok () w)
    (hr : (binOp .eql ty u v).run P w = .ok r w) (h : wpList P ops Q rest (a.put op.dst r) w) : wpList P ops Q (op :: rest) a w := by
  refine wpList_step fun K hK => ?_
  rw [if_pos hw]
  unfold Oper.wp execOp
  simp only [ho, hx, hy, Sem.run_bind, hg, hr, Result.andThen_ok]
  exact hK _ _ h
end
theorem guard_structEq {P : Program} {ty : TypeId} {x y : Operand} {X Y : Array Value} {w : World} (hg : P.eqGuardType P.depth ty = false) : (eqGuard .eql ty x y (.agg X) (.agg Y)).run P w = .ok () w := by
  unfold eqGuard
  simp [hg, go_sem]

theorem infoInt6 : (Tryz.prog.info? 3).map (·.size) = some 1 := by kernel_rfl

end Go.Proofs.YtddpebnmjfmgdaaGreat
