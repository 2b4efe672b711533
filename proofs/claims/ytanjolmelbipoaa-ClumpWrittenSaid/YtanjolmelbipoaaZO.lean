/-
  The plan that is told is the greatest, and the first of these: plain lists.
-/
import Derived.Test.YtanjolmelbipoaaZL
namespace Go.Proofs.Ytanjolmelbipoaa

theorem year_less {l : List Int} {s n n' M : Int} (_hl : 1 ≤ l.length) (hb : Bnd 0 M l) (h0 : 0 ≤ s) (hM : s ≤ M) (hn : 0 ≤ n') (hnn : n' ≤ n) : LeL (yearL l s n) (yearL l s n') := by
  have b1 := nowL_bnd hb h0 hM
  have e1 := nowL_len l s
  refine ⟨by rw [yearL_len, yearL_len], fun k hk => ?_⟩
  rw [yearL_len] at hk
  have p := (cutTo_at b1 (show 0 ≤ n by omega) (nowL l s).length (Nat.le_refl _) k (by omega) (by omega)).1
  have q := (cutTo_at b1 hn (nowL l s).length (Nat.le_refl _) k (by omega) (by omega)).1
  unfold yearL
  rw [e1] at p q
  rw [p, q]
  unfold leftOf
  omega

theorem okY_down {r : Nat} {keep : Int} {l : List Int} {s n n' M : Int} (hl : 1 ≤ l.length) (hb : Bnd 0 M l) (h0 : 0 ≤ s) (hM : s ≤ M) (hn : 0 ≤ n') (hnn : n' ≤ n) (hok : okY r keep l s n = true) : okY r keep l s n' = true := by
  have h2 := okY_parts hok
  have h3 := (year_less hl hb h0 hM hn hnn).sum
  unfold okY yearOk at *
  simp only [Bool.and_eq_true, decide_eq_true_eq] at *
  omega

/-- Whether all years of a plan are sure. -/
def sureL (h : Hab) (r b : Nat) : List (Int × Int) → List Int → List Int → Bool
  | [], [], _ => true
  | p :: ps, n :: zs, l => okY r h.keep l (shotsL b l h.lo p.1) n && sureL h r b ps zs (yearL l (shotsL b l h.lo p.1) n)
  | _, _, _ => false

theorem ahead_full {h : Hab} {r b : Nat} : ∀ (ps : List (Int × Int)) (zs lo hi : List Int), zs.length = ps.length → ((aheadL h r b lo hi (ps.zip zs)).length = ps.length ↔ sureL h r b ps zs lo = true)
  | [], [], _, _, _ => by simp [aheadL, sureL]
  | [], _ :: _, _, _, hl => by simp at hl
  | _ :: _, [], _, _, hl => by simp at hl
  | (x1, x2) :: ps, n :: zs, lo, hi, hl => by
    rw [List.zip_cons_cons]
    cases hok : okY r h.keep lo (shotsL b lo h.lo x1) n with
    | true =>
      rw [aheadL_yes hok]
      have := ahead_full (h := h) (r := r) (b := b) ps zs (yearL lo (shotsL b lo h.lo x1) n) (yearL hi (shotsL b hi h.hi x2) n) (by simpa using hl)
      simp only [sureL, hok, Bool.true_and, ← this, List.length_append, List.length_cons, List.length_nil]
      omega
    | false =>
      rw [aheadL_no hok]
      simp [sureL, hok]

/-- The first list is the second one, or less at the first place where they part. -/
def lexLe : List Int → List Int → Bool
  | x :: xs, y :: ys => decide (x < y) || (decide (x = y) && lexLe xs ys)
  | _, _ => true
theorem lexLe_lt {x y : Int} {xs ys : List Int} (h : x < y) : lexLe (x :: xs) (y :: ys) = true := by simp [lexLe, h]
theorem lexLe_eq {x : Int} {xs ys : List Int} (h : lexLe xs ys = true) : lexLe (x :: xs) (x :: ys) = true := by simp [lexLe, h]

/-- Whether a list is a plan's. -/
def Pln (m : Nat) (zs : List Int) : Prop := zs.length = m ∧ ∀ z ∈ zs, 0 ≤ z ∧ z ≤ 30

/-- A result is the best of what S allows. -/
structure Top (m : Nat) (S : List Int → Bool) (o : Pl) : Prop where
  ok : ∀ p t, o = some (p, t) → S p = true
  top : ∀ zs, Pln m zs → S zs = true → ∃ p t, o = some (p, t) ∧ zs.sum ≤ t ∧ (zs.sum = t → lexLe p zs = true)

theorem tryL_some {ok : Int → Bool} {f : Int → Pl} : ∀ (k : Nat) (n : Int) (q : List Int) (u : Int), ∃ q' u', tryL ok f k n (some (q, u)) = some (q', u') ∧ u ≤ u' ∧ (u = u' → q' = q)
  | 0, _, q, u => ⟨q, u, rfl, Int.le_refl _, fun _ => rfl⟩
  | k + 1, n, q, u => by
    unfold tryL
    split
    · cases hf : f n with
      | none => exact tryL_some k (n + 1) q u
      | some x =>
        obtain ⟨p, t⟩ := x
        simp only [upd]
        split
        · obtain ⟨q', u', h1, h2, h3⟩ := tryL_some (ok := ok) (f := f) k (n + 1) (n :: p) (n + t)
          exact ⟨q', u', h1, by omega, fun e => by omega⟩
        · exact tryL_some k (n + 1) q u
    · exact ⟨q, u, rfl, Int.le_refl _, fun _ => rfl⟩

theorem tryL_top {ok : Int → Bool} {f : Int → Pl} {m : Nat} {S : Int → List Int → Bool} (hdown : ∀ n n', 0 ≤ n' → n' ≤ n → n ≤ 30 → ok n = true → ok n' = true) (hf : ∀ n, 0 ≤ n → n ≤ 30 → Top m (S n) (f n)) :
    ∀ (k : Nat) (n : Int) (best : Pl), 0 ≤ n → n + k ≤ 31 → (∀ q u, best = some (q, u) → ∃ q0 qs, q = q0 :: qs ∧ q0 < n) →
      (∀ q' u', tryL ok f k n best = some (q', u') → best = some (q', u') ∨ ∃ a p, n ≤ a ∧ a ≤ 30 ∧ ok a = true ∧ q' = a :: p ∧ S a p = true) ∧
      (∀ a zs, n ≤ a → a < n + k → ok a = true → Pln m zs → S a zs = true → ∃ q' u', tryL ok f k n best = some (q', u') ∧ a + zs.sum ≤ u' ∧ (a + zs.sum = u' → lexLe q' (a :: zs) = true))
  | 0, n, best, _, _, _ => ⟨fun q' u' h => .inl h, fun a zs h1 h2 => by omega⟩
  | k + 1, n, best, h0, h31, hbest => by
    have hn30 : n ≤ 30 := by push_cast at h31; omega
    cases hok : ok n with
    | false =>
      rw [tryL_no hok]
      refine ⟨fun q' u' h => .inl h, fun a zs h1 h2 ha => ?_⟩
      have := hdown a n h0 h1 (by push_cast at h2 h31; omega) ha
      rw [hok] at this; cases this
    | true =>
      rw [tryL_yes hok]
      have hF := hf n h0 hn30
      have hb' : ∀ q u, upd n best (f n) = some (q, u) → ∃ q0 qs, q = q0 :: qs ∧ q0 < n + 1 := by
        intro q u e
        have old : best = some (q, u) → ∃ q0 qs, q = q0 :: qs ∧ q0 < n + 1 := fun e => by
          obtain ⟨q0, qs, e1, e2⟩ := hbest q u e
          exact ⟨q0, qs, e1, by omega⟩
        cases hfn : f n with
        | none => rw [hfn] at e; exact old e
        | some x =>
          obtain ⟨p, t⟩ := x
          rw [hfn] at e
          cases hbo : best with
          | none =>
            rw [hbo] at e
            simp only [upd, Option.some.injEq, Prod.mk.injEq] at e
            exact ⟨n, p, e.1.symm, by omega⟩
          | some y =>
            obtain ⟨q2, u2⟩ := y
            rw [hbo] at e
            simp only [upd] at e
            split at e
            · simp only [Option.some.injEq, Prod.mk.injEq] at e
              exact ⟨n, p, e.1.symm, by omega⟩
            · exact old (by rw [hbo]; exact e)
      obtain ⟨ih1, ih2⟩ := tryL_top hdown hf k (n + 1) (upd n best (f n)) (by omega) (by push_cast at h31; omega) hb'
      constructor
      · intro q' u' h
        rcases ih1 q' u' h with h | ⟨a, p, h1, h2, h3, h4, h5⟩
        · cases hfn : f n with
          | none => rw [hfn] at h; exact .inl h
          | some x =>
            obtain ⟨p, t⟩ := x
            have hS := hF.ok p t hfn
            rw [hfn] at h
            cases hbo : best with
            | none =>
              rw [hbo] at h
              simp only [upd, Option.some.injEq, Prod.mk.injEq] at h
              exact .inr ⟨n, p, Int.le_refl _, hn30, hok, h.1.symm, hS⟩
            | some y =>
              obtain ⟨q2, u2⟩ := y
              rw [hbo] at h
              simp only [upd] at h
              split at h
              · simp only [Option.some.injEq, Prod.mk.injEq] at h
                exact .inr ⟨n, p, Int.le_refl _, hn30, hok, h.1.symm, hS⟩
              · exact .inl h
        · exact .inr ⟨a, p, by omega, h2, h3, h4, h5⟩
      · intro a zs h1 h2 ha hp hS
        by_cases e : a = n
        · subst e
          obtain ⟨p, t, hfn, ht, hlex⟩ := hF.top zs hp hS
          have key : ∃ q1 u1, upd a best (f a) = some (q1, u1) ∧ a + zs.sum ≤ u1 ∧ (a + zs.sum = u1 → lexLe q1 (a :: zs) = true) := by
            rw [hfn]
            have mine : ∃ q1 u1, some (a :: p, a + t) = some (q1, u1) ∧ a + zs.sum ≤ u1 ∧ (a + zs.sum = u1 → lexLe q1 (a :: zs) = true) :=
              ⟨a :: p, a + t, rfl, by omega, fun e => lexLe_eq (hlex (by omega))⟩
            cases hbo : best with
            | none => exact mine
            | some y =>
              obtain ⟨q2, u2⟩ := y
              simp only [upd]
              split
              · exact mine
              · obtain ⟨q0, qs, e1, e2⟩ := hbest q2 u2 hbo
                exact ⟨q2, u2, rfl, by omega, fun _ => by rw [e1]; exact lexLe_lt e2⟩
          obtain ⟨q1, u1, e1, e2, e3⟩ := key
          rw [e1]
          obtain ⟨q', u', h4, h5, h6⟩ := tryL_some (ok := ok) (f := f) k (a + 1) q1 u1
          exact ⟨q', u', h4, by omega, fun e => by rw [h6 (by omega)]; exact e3 (by omega)⟩
        · exact ih2 a zs (by omega) (by push_cast at h2; omega) ha hp hS

theorem best_top {h : Hab} {d r b : Nat} (H : HabOk h d r b) : ∀ (ps : List (Int × Int)) (l : List Int) (M : Int), (∀ p ∈ ps, 0 ≤ p.1 ∧ p.1 ≤ p.2 ∧ p.2 ≤ 1500) → 30 ≤ M → l.length = d + 1 → Bnd 0 M l → Top ps.length (fun zs => sureL h r b ps zs l) (bestL h r b ps l)
  | [], l, M, _, _, _, _ => by
    refine ⟨fun p t e => ?_, fun zs hz hS => ?_⟩
    · have e' : some (([] : List Int), (0 : Int)) = some (p, t) := e
      cases e'
      rfl
    · obtain rfl : zs = [] := List.eq_nil_of_length_eq_zero hz.1
      exact ⟨[], 0, rfl, Int.le_refl _, fun _ => rfl⟩
  | (x1, x2) :: ps, l, M, hr, m0, hl, hb => by
    obtain ⟨r0, r1, r2⟩ := hr (x1, x2) (.head _)
    simp only at r0 r1 r2
    have hd6 := H.d6
    have hl0 := H.l0
    have hlh := H.lh
    have hh1 := H.h1
    have hs := shotsL_bnd (b := b) hb (by omega) hl0 (rate := h.lo) (by omega) r0 (rain := x1) (by omega) (by omega)
    have hb11 : Bnd 0 (11 * M) l := fun k hk => by have := hb k hk; omega
    have hdown : ∀ n n', 0 ≤ n' → n' ≤ n → n ≤ 30 → okY r h.keep l (shotsL b l h.lo x1) n = true → okY r h.keep l (shotsL b l h.lo x1) n' = true := fun n n' a1 a2 _ a3 => okY_down (by omega) hb11 hs.1 hs.2 a1 a2 a3
    have hf : ∀ n, 0 ≤ n → n ≤ 30 → Top ps.length (fun zs => sureL h r b ps zs (yearL l (shotsL b l h.lo x1) n)) (bestL h r b ps (yearL l (shotsL b l h.lo x1) n)) := fun n n0 n1 =>
      best_top H ps _ (11 * M) (fun p hp => hr p (.tail _ hp)) (by omega) (by rw [yearL_len, hl]) (yearL_bnd hb11 (by omega) hs.1 hs.2 n0 (by omega))
    obtain ⟨t1, t2⟩ := tryL_top (ok := okY r h.keep l (shotsL b l h.lo x1)) (f := fun n => bestL h r b ps (yearL l (shotsL b l h.lo x1) n)) (S := fun n zs => sureL h r b ps zs (yearL l (shotsL b l h.lo x1) n)) hdown hf 31 0 none (Int.le_refl _) (by decide) (fun _ _ e => by cases e)
    refine ⟨fun p t e => ?_, fun zs hz hS => ?_⟩
    · rcases t1 p t e with h1 | ⟨a, p', _, _, h3, h4, h5⟩
      · cases h1
      · rw [h4]
        simp only [sureL, h3, Bool.true_and]
        exact h5
    · match zs, hz with
      | [], hz => exact absurd hz.1 (by simp)
      | n :: zs, hz =>
        simp only [sureL, Bool.and_eq_true] at hS
        have hn := hz.2 n (.head _)
        obtain ⟨q', u', e1, e2, e3⟩ := t2 n zs hn.1 (by push_cast; omega) hS.1 ⟨by simpa using hz.1, fun z hzz => hz.2 z (.tail _ hzz)⟩ hS.2
        exact ⟨q', u', e1, by simpa using e2, fun e => e3 (by simpa using e)⟩

end Go.Proofs.Ytanjolmelbipoaa

