/-
  The law GradeMore.
-/
import Derived.BigGuardPart
import Derived.IntWalk
import Derived.Test.YtboffligjgjgjaaGreatQM47
import Derived.Test.YtboffligjgjgjaaGreatQM26
set_option linter.all false
namespace Go.Proofs.YtboffligjgjgjaaGreat
open Go.RowKit Go.BigFrame
open R6 (done done_ne done_me upd_ne upd_me)

attribute [local go_sem] gives

theorem gives_slice_h5 {P : Program} {op : Oper} {a : Act} {w : World} {R : Value → World → Prop} (ty : TypeId) (x hi : Operand) (ho : op.op = .slice ty x none (some hi) none) (ht : P.underlying ty = some (.slice (P.elem ty))) {A : Option Addr} {len cap : Nat} (hx : a.eval x = .slice A len cap)
    {h : Int} (hh : a.eval hi = .int .i64 h) (h0 : 0 ≤ h) (h2 : h ≤ cap) {s : Nat} {i : TypeInfo} (hs : P.info? (P.elem ty) = some i) (hs2 : P.cellsOf (P.elem ty) = s) (hr : R (sliced A 0 h.toNat cap s) w) : gives P op a w R := by
  have e1 := run_sliceAt_slice (P := P) (w := w) (t := ty) (x := .slice A len cap) (lo := none) (hi := some (.int .i64 h)) (mx := none) (h := ht)
  have e2 := run_slice_h (P := P) (w := w) (t := ty) (a := A) (len := len) (cap := cap) (ht := ht) (kh := .i64) (h := h) (h0 := h0) (h2 := h2)
  have e3 := run_sizeOf w hs
  rw [hs2] at e3
  rw [e3, Result.andThen_ok] at e2
  rw [e2] at e1
  unfold gives execOp
  simp only [ho, hx, hh, Option.map_some, Option.map_none, Sem.run_bind, e1, Result.andThen_ok]
  exact hr
theorem sliced_zero {A : Option Addr} (h : A = none ∨ ∃ g, A = some ⟨g, 0, none⟩) (m cap s : Nat) : sliced A 0 m cap s = .slice A m cap := by
  rcases h with rfl | ⟨g, rfl⟩
  · simp [sliced]
  · simp [sliced, Addr.add]
theorem own_addr {w : World} {base : Nat} {e : TypeId} {size n c : Nat} {A : Option Addr} {xs : List Value} (h : w.ownsRow base e size (.slice A n c) n xs) : (A = none ∨ ∃ g, A = some ⟨g, 0, none⟩) ∧ n ≤ c := by
  rcases h.2 with ⟨e1, h0⟩ | ⟨g, cap, cur, e1, _, _, h1, _⟩
  · simp only [Value.slice.injEq] at e1
    exact ⟨.inl e1.1, by omega⟩
  · simp only [Value.slice.injEq] at e1
    obtain ⟨rfl, _, rfl⟩ := e1
    exact ⟨.inr ⟨g, rfl⟩, h1⟩
theorem infoTestS5 : ∃ i, Tryz.prog.info? (Tryz.prog.elem 23) = some i := by
  have h : (Tryz.prog.info? (Tryz.prog.elem 23)).map (·.size) = some 5 := by kernel_rfl
  cases hq : Tryz.prog.info? (Tryz.prog.elem 23) with
  | none => rw [hq] at h; cases h
  | some i => exact ⟨i, rfl⟩
theorem cellsTestS5 : Tryz.prog.cellsOf (Tryz.prog.elem 23) = 5 := by kernel_rfl
theorem underTestS5 : Tryz.prog.underlying 23 = some (.slice (Tryz.prog.elem 23)) := by kernel_rfl
theorem tmod_nat {x : Int} (h : 0 ≤ x) (n : Nat) : x.tmod (n : Int) = ((x.toNat % n : Nat) : Int) := by
  rw [Int.tmod_eq_emod_of_nonneg h]
  obtain ⟨k, rfl⟩ := Int.eq_ofNat_of_zero_le h
  simp

/-- What the law knows of the four answers. -/
structure MoF (gs : List Gd) (vary : Int) (ps : List Pol) (ts T : List Ts) (p : Pol) (k N : Nat) (z1 z2 z3 : Int × Int) (f h i : Int) (X : Int × Int) : Prop where
  g : sGrade gs vary ps ts p.id = ((N : Int), 0)
  a : sStr gs vary ps ts p.id k = (z1, f)
  b : sStr gs vary ps T p.id k = (z2, h)
  c : sStr gs vary ps [] p.id k = (z3, i)
  l : sClash gs vary ps [] = ([], 0)
  n : N ≤ gs.length
theorem moF_cases {gs : List Gd} {vary : Int} {ps : List Pol} {ts : List Ts} (hc : gChk gs vary ps ts = 0) {p : Pol} (hp : p ∈ ps) {k : Nat} (hk : k < 3) (m : Nat) :
    ∃ N z1 z2 z3 f h i X, MoF gs vary ps ts (ts.take m) p k N z1 z2 z3 f h i X ∧
      ((N = 0 ∧ f = 8 ∧ h = 8 ∧ i = 8) ∨ (∃ (M : Nat) (y : Gd) (hM : M < gs.length), N = M + 1 ∧ gs[M] = y ∧ X = st0 y k ∧ i = 0 ∧ z3 = (bears p k X.1, bears p k X.2) ∧ (1 ≤ X.1 ∧ X.1 ≤ 200000) ∧ (1 ≤ X.2 ∧ X.2 ≤ 200000) ∧
        ((h = 52 ∧ f = 52) ∨ (h = 0 ∧ z3.1 ≤ z2.1 ∧ z2.2 ≤ z3.2 ∧ (f = 52 ∨ (f = 0 ∧ z2.1 ≤ z1.1 ∧ z1.2 ≤ z2.2)))))) := by
  have hk0 := grOk_of hc
  have hgr := (gChk_ok hc).1
  have hcT := gChk_take hc m
  have hcN : gChk gs vary ps [] = 0 := by have := gChk_take hc 0; simpa using this
  have har := ar_pos (okPol_secs (hk0.po p hp).2) k
  have hsub : (ts.take m).Sublist ts := List.take_sublist _ _
  have hnil : ([] : List Ts).Sublist (ts.take m) := List.nil_sublist _
  have htn := truth_nil (ps := ps) hgr
  have e1 := sStr_at hc hp hk
  have e2 := sStr_at hcT hp hk
  have e3 := sStr_at hcN hp hk
  rw [htn, if_pos rfl] at e3
  by_cases h0 : gOf gs p = 0
  · rw [if_pos h0] at e1 e2 e3
    exact ⟨gOf gs p, _, _, _, _, _, _, (0, 0), ⟨sGrade_at hc hp, e1, e2, e3, sClash_nil hcN htn, gOf_le gs p⟩, .inl ⟨h0, rfl, rfl, rfl⟩⟩
  · rw [if_neg h0] at e1 e2 e3
    rw [span_nil hk0.v.1] at e3
    have hle := gOf_le gs p
    have hM : gOf gs p - 1 < gs.length := by omega
    have hgA : gAt gs p = gs[gOf gs p - 1] := by unfold gAt; rw [List.getElem?_eq_getElem hM]; rfl
    have hX := hk0.ok _ (List.getElem_mem hM) k hk
    rw [hgA] at e3
    have s1 := span_fewer (gs := gs) (vary := vary) (ps := ps) hnil p k
    rw [span_nil hk0.v.1, hgA] at s1
    have s2 := span_fewer (gs := gs) (vary := vary) (ps := ps) hsub p k
    cases ht2 : truth gs vary ps (ts.take m)
    · have ht1 : truth gs vary ps ts = false := by
        cases hh : truth gs vary ps ts
        · rfl
        · rw [truth_fewer hsub hh] at ht2; cases ht2
      rw [ht1, if_neg (by decide)] at e1
      rw [ht2, if_neg (by decide)] at e2
      exact ⟨gOf gs p, _, _, _, _, _, _, st0 gs[gOf gs p - 1] k, ⟨sGrade_at hc hp, e1, e2, e3, sClash_nil hcN htn, hle⟩, .inr ⟨gOf gs p - 1, _, hM, by omega, rfl, rfl, rfl, rfl, hX.1, hX.2, .inl ⟨rfl, rfl⟩⟩⟩
    · rw [ht2, if_pos rfl] at e2
      have q1 := bears_mono (Int.le_of_lt har.1) s1.1
      have q2 := bears_mono (Int.le_of_lt har.1) s1.2
      have q3 := bears_mono (Int.le_of_lt har.1) s2.1
      have q4 := bears_mono (Int.le_of_lt har.1) s2.2
      cases ht1 : truth gs vary ps ts
      · rw [ht1, if_neg (by decide)] at e1
        exact ⟨gOf gs p, _, _, _, _, _, _, st0 gs[gOf gs p - 1] k, ⟨sGrade_at hc hp, e1, e2, e3, sClash_nil hcN htn, hle⟩, .inr ⟨gOf gs p - 1, _, hM, by omega, rfl, rfl, rfl, rfl, hX.1, hX.2, .inr ⟨rfl, q1, q2, .inl rfl⟩⟩⟩
      · rw [ht1, if_pos rfl] at e1
        exact ⟨gOf gs p, _, _, _, _, _, _, st0 gs[gOf gs p - 1] k, ⟨sGrade_at hc hp, e1, e2, e3, sClash_nil hcN htn, hle⟩, .inr ⟨gOf gs p - 1, _, hM, by omega, rfl, rfl, rfl, rfl, hX.1, hX.2, .inr ⟨rfl, q1, q2, .inr ⟨rfl, q3, q4⟩⟩⟩⟩

end Go.Proofs.YtboffligjgjgjaaGreat
