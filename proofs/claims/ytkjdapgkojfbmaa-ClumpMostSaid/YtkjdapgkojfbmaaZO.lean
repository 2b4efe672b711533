/-
  For every grove, all rains and every other plan that come in, the law ClumpMost returns true, and each argument reads afterwards as it read before.
  Conditions: none beyond the row's own.
-/
import Derived.Test.YtkjdapgkojfbmaaZL
import Derived.Test.YtkjdapgkojfbmaaZF
import Derived.Deep.LoopGhost
import Derived.Test.YtkjdapgkojfbmaaRows
import Derived.ProofKit
namespace Go.Proofs.Ytkjdapgkojfbmaa

theorem year_less {l : List Int} {s n n' M : Int} (_hl : 1 ≤ l.length) (hb : Bnd 0 M l) (h0 : 0 ≤ s) (hM : s ≤ M) (hn : 0 ≤ n') (hnn : n' ≤ n) : LeL (yearL l s n) (yearL l s n') := by
  have b1 := nowL_bnd hb h0 hM
  have e1 := nowL_len l s
  refine ⟨by rw [yearL_len, yearL_len], fun k hk => ?_⟩
  rw [yearL_len] at hk
  have p := (cutTo_at b1 (show 0 ≤ n by omega) (nowL l s).length (Nat.le_refl _) k (by omega) (by omega)).1
  have q := (cutTo_at b1 hn (nowL l s).length (Nat.le_refl _) k (by omega) (by omega)).1
  unfold yearL
  rw [e1] at p q
  rw [p, q]
  unfold leftOf
  omega

theorem okY_down {r : Nat} {keep : Int} {l : List Int} {s n n' M : Int} (hl : 1 ≤ l.length) (hb : Bnd 0 M l) (h0 : 0 ≤ s) (hM : s ≤ M) (hn : 0 ≤ n') (hnn : n' ≤ n) (hok : okY r keep l s n = true) : okY r keep l s n' = true := by
  have h2 := okY_parts hok
  have h3 := (year_less hl hb h0 hM hn hnn).sum
  unfold okY yearOk at *
  simp only [Bool.and_eq_true, decide_eq_true_eq] at *
  omega

/-- Whether all years of a plan are sure. -/
def sureL (h : Hab) (r b : Nat) : List (Int × Int) → List Int → List Int → Bool
  | [], [], _ => true
  | p :: ps, n :: zs, l => okY r h.keep l (shotsL b l h.lo p.1) n && sureL h r b ps zs (yearL l (shotsL b l h.lo p.1) n)
  | _, _, _ => false

theorem ahead_full {h : Hab} {r b : Nat} : ∀ (ps : List (Int × Int)) (zs lo hi : List Int), zs.length = ps.length → ((aheadL h r b lo hi (ps.zip zs)).length = ps.length ↔ sureL h r b ps zs lo = true)
  | [], [], _, _, _ => by simp [aheadL, sureL]
  | [], _ :: _, _, _, hl => by simp at hl
  | _ :: _, [], _, _, hl => by simp at hl
  | (x1, x2) :: ps, n :: zs, lo, hi, hl => by
    rw [List.zip_cons_cons]
    cases hok : okY r h.keep lo (shotsL b lo h.lo x1) n with
    | true =>
      rw [aheadL_yes hok]
      have := ahead_full (h := h) (r := r) (b := b) ps zs (yearL lo (shotsL b lo h.lo x1) n) (yearL hi (shotsL b hi h.hi x2) n) (by simpa using hl)
      simp only [sureL, hok, Bool.true_and, ← this, List.length_append, List.length_cons, List.length_nil]
      omega
    | false =>
      rw [aheadL_no hok]
      simp [sureL, hok]

/-- The first list is the second one, or less at the first place where they part. -/
def lexLe : List Int → List Int → Bool
  | x :: xs, y :: ys => decide (x < y) || (decide (x = y) && lexLe xs ys)
  | _, _ => true
theorem lexLe_lt {x y : Int} {xs ys : List Int} (h : x < y) : lexLe (x :: xs) (y :: ys) = true := by simp [lexLe, h]
theorem lexLe_eq {x : Int} {xs ys : List Int} (h : lexLe xs ys = true) : lexLe (x :: xs) (x :: ys) = true := by simp [lexLe, h]

/-- Whether a list is a plan's. -/
def Pln (m : Nat) (zs : List Int) : Prop := zs.length = m ∧ ∀ z ∈ zs, 0 ≤ z ∧ z ≤ 30

/-- A result is the best of what S allows. -/
structure Top (m : Nat) (S : List Int → Bool) (o : Pl) : Prop where
  ok : ∀ p t, o = some (p, t) → S p = true
  top : ∀ zs, Pln m zs → S zs = true → ∃ p t, o = some (p, t) ∧ zs.sum ≤ t ∧ (zs.sum = t → lexLe p zs = true)

theorem tryL_some {ok : Int → Bool} {f : Int → Pl} : ∀ (k : Nat) (n : Int) (q : List Int) (u : Int), ∃ q' u', tryL ok f k n (some (q, u)) = some (q', u') ∧ u ≤ u' ∧ (u = u' → q' = q)
  | 0, _, q, u => ⟨q, u, rfl, Int.le_refl _, fun _ => rfl⟩
  | k + 1, n, q, u => by
    unfold tryL
    split
    · cases hf : f n with
      | none => exact tryL_some k (n + 1) q u
      | some x =>
        obtain ⟨p, t⟩ := x
        simp only [upd]
        split
        · obtain ⟨q', u', h1, h2, h3⟩ := tryL_some (ok := ok) (f := f) k (n + 1) (n :: p) (n + t)
          exact ⟨q', u', h1, by omega, fun e => by omega⟩
        · exact tryL_some k (n + 1) q u
    · exact ⟨q, u, rfl, Int.le_refl _, fun _ => rfl⟩

theorem tryL_top {ok : Int → Bool} {f : Int → Pl} {m : Nat} {S : Int → List Int → Bool} (hdown : ∀ n n', 0 ≤ n' → n' ≤ n → n ≤ 30 → ok n = true → ok n' = true) (hf : ∀ n, 0 ≤ n → n ≤ 30 → Top m (S n) (f n)) :
    ∀ (k : Nat) (n : Int) (best : Pl), 0 ≤ n → n + k ≤ 31 → (∀ q u, best = some (q, u) → ∃ q0 qs, q = q0 :: qs ∧ q0 < n) →
      (∀ q' u', tryL ok f k n best = some (q', u') → best = some (q', u') ∨ ∃ a p, n ≤ a ∧ a ≤ 30 ∧ ok a = true ∧ q' = a :: p ∧ S a p = true) ∧
      (∀ a zs, n ≤ a → a < n + k → ok a = true → Pln m zs → S a zs = true → ∃ q' u', tryL ok f k n best = some (q', u') ∧ a + zs.sum ≤ u' ∧ (a + zs.sum = u' → lexLe q' (a :: zs) = true))
  | 0, n, best, _, _, _ => ⟨fun q' u' h => .inl h, fun a zs h1 h2 => by omega⟩
  | k + 1, n, best, h0, h31, hbest => by
    have hn30 : n ≤ 30 := by push_cast at h31; omega
    cases hok : ok n with
    | false =>
      rw [tryL_no hok]
      refine ⟨fun q' u' h => .inl h, fun a zs h1 h2 ha => ?_⟩
      have := hdown a n h0 h1 (by push_cast at h2 h31; omega) ha
      rw [hok] at this; cases this
    | true =>
      rw [tryL_yes hok]
      have hF := hf n h0 hn30
      have hb' : ∀ q u, upd n best (f n) = some (q, u) → ∃ q0 qs, q = q0 :: qs ∧ q0 < n + 1 := by
        intro q u e
        have old : best = some (q, u) → ∃ q0 qs, q = q0 :: qs ∧ q0 < n + 1 := fun e => by
          obtain ⟨q0, qs, e1, e2⟩ := hbest q u e
          exact ⟨q0, qs, e1, by omega⟩
        cases hfn : f n with
        | none => rw [hfn] at e; exact old e
        | some x =>
          obtain ⟨p, t⟩ := x
          rw [hfn] at e
          cases hbo : best with
          | none =>
            rw [hbo] at e
            simp only [upd, Option.some.injEq, Prod.mk.injEq] at e
            exact ⟨n, p, e.1.symm, by omega⟩
          | some y =>
            obtain ⟨q2, u2⟩ := y
            rw [hbo] at e
            simp only [upd] at e
            split at e
            · simp only [Option.some.injEq, Prod.mk.injEq] at e
              exact ⟨n, p, e.1.symm, by omega⟩
            · exact old (by rw [hbo]; exact e)
      obtain ⟨ih1, ih2⟩ := tryL_top hdown hf k (n + 1) (upd n best (f n)) (by omega) (by push_cast at h31; omega) hb'
      constructor
      · intro q' u' h
        rcases ih1 q' u' h with h | ⟨a, p, h1, h2, h3, h4, h5⟩
        · cases hfn : f n with
          | none => rw [hfn] at h; exact .inl h
          | some x =>
            obtain ⟨p, t⟩ := x
            have hS := hF.ok p t hfn
            rw [hfn] at h
            cases hbo : best with
            | none =>
              rw [hbo] at h
              simp only [upd, Option.some.injEq, Prod.mk.injEq] at h
              exact .inr ⟨n, p, Int.le_refl _, hn30, hok, h.1.symm, hS⟩
            | some y =>
              obtain ⟨q2, u2⟩ := y
              rw [hbo] at h
              simp only [upd] at h
              split at h
              · simp only [Option.some.injEq, Prod.mk.injEq] at h
                exact .inr ⟨n, p, Int.le_refl _, hn30, hok, h.1.symm, hS⟩
              · exact .inl h
        · exact .inr ⟨a, p, by omega, h2, h3, h4, h5⟩
      · intro a zs h1 h2 ha hp hS
        by_cases e : a = n
        · subst e
          obtain ⟨p, t, hfn, ht, hlex⟩ := hF.top zs hp hS
          have key : ∃ q1 u1, upd a best (f a) = some (q1, u1) ∧ a + zs.sum ≤ u1 ∧ (a + zs.sum = u1 → lexLe q1 (a :: zs) = true) := by
            rw [hfn]
            have mine : ∃ q1 u1, some (a :: p, a + t) = some (q1, u1) ∧ a + zs.sum ≤ u1 ∧ (a + zs.sum = u1 → lexLe q1 (a :: zs) = true) :=
              ⟨a :: p, a + t, rfl, by omega, fun e => lexLe_eq (hlex (by omega))⟩
            cases hbo : best with
            | none => exact mine
            | some y =>
              obtain ⟨q2, u2⟩ := y
              simp only [upd]
              split
              · exact mine
              · obtain ⟨q0, qs, e1, e2⟩ := hbest q2 u2 hbo
                exact ⟨q2, u2, rfl, by omega, fun _ => by rw [e1]; exact lexLe_lt e2⟩
          obtain ⟨q1, u1, e1, e2, e3⟩ := key
          rw [e1]
          obtain ⟨q', u', h4, h5, h6⟩ := tryL_some (ok := ok) (f := f) k (a + 1) q1 u1
          exact ⟨q', u', h4, by omega, fun e => by rw [h6 (by omega)]; exact e3 (by omega)⟩
        · exact ih2 a zs (by omega) (by push_cast at h2; omega) ha hp hS

theorem best_top {h : Hab} {d r b : Nat} (H : HabOk h d r b) : ∀ (ps : List (Int × Int)) (l : List Int) (M : Int), (∀ p ∈ ps, 0 ≤ p.1 ∧ p.1 ≤ p.2 ∧ p.2 ≤ 1500) → 30 ≤ M → l.length = d + 1 → Bnd 0 M l → Top ps.length (fun zs => sureL h r b ps zs l) (bestL h r b ps l)
  | [], l, M, _, _, _, _ => by
    refine ⟨fun p t e => ?_, fun zs hz hS => ?_⟩
    · have e' : some (([] : List Int), (0 : Int)) = some (p, t) := e
      cases e'
      rfl
    · obtain rfl : zs = [] := List.eq_nil_of_length_eq_zero hz.1
      exact ⟨[], 0, rfl, Int.le_refl _, fun _ => rfl⟩
  | (x1, x2) :: ps, l, M, hr, m0, hl, hb => by
    obtain ⟨r0, r1, r2⟩ := hr (x1, x2) (.head _)
    simp only at r0 r1 r2
    have hd6 := H.d6
    have hl0 := H.l0
    have hlh := H.lh
    have hh1 := H.h1
    have hs := shotsL_bnd (b := b) hb (by omega) hl0 (rate := h.lo) (by omega) r0 (rain := x1) (by omega) (by omega)
    have hb11 : Bnd 0 (11 * M) l := fun k hk => by have := hb k hk; omega
    have hdown : ∀ n n', 0 ≤ n' → n' ≤ n → n ≤ 30 → okY r h.keep l (shotsL b l h.lo x1) n = true → okY r h.keep l (shotsL b l h.lo x1) n' = true := fun n n' a1 a2 _ a3 => okY_down (by omega) hb11 hs.1 hs.2 a1 a2 a3
    have hf : ∀ n, 0 ≤ n → n ≤ 30 → Top ps.length (fun zs => sureL h r b ps zs (yearL l (shotsL b l h.lo x1) n)) (bestL h r b ps (yearL l (shotsL b l h.lo x1) n)) := fun n n0 n1 =>
      best_top H ps _ (11 * M) (fun p hp => hr p (.tail _ hp)) (by omega) (by rw [yearL_len, hl]) (yearL_bnd hb11 (by omega) hs.1 hs.2 n0 (by omega))
    obtain ⟨t1, t2⟩ := tryL_top (ok := okY r h.keep l (shotsL b l h.lo x1)) (f := fun n => bestL h r b ps (yearL l (shotsL b l h.lo x1) n)) (S := fun n zs => sureL h r b ps zs (yearL l (shotsL b l h.lo x1) n)) hdown hf 31 0 none (Int.le_refl _) (by decide) (fun _ _ e => by cases e)
    refine ⟨fun p t e => ?_, fun zs hz hS => ?_⟩
    · rcases t1 p t e with h1 | ⟨a, p', _, _, h3, h4, h5⟩
      · cases h1
      · rw [h4]
        simp only [sureL, h3, Bool.true_and]
        exact h5
    · match zs, hz with
      | [], hz => exact absurd hz.1 (by simp)
      | n :: zs, hz =>
        simp only [sureL, Bool.and_eq_true] at hS
        have hn := hz.2 n (.head _)
        obtain ⟨q', u', e1, e2, e3⟩ := t2 n zs hn.1 (by push_cast; omega) hS.1 ⟨by simpa using hz.1, fun z hzz => hz.2 z (.tail _ hzz)⟩ hS.2
        exact ⟨q', u', e1, by simpa using e2, fun e => e3 (by simpa using e)⟩

end Go.Proofs.Ytkjdapgkojfbmaa

namespace Go.Proofs.Ytkjdapgkojfbmaa
open Go.RowKit Go.Shelf

attribute [local go_sem] gives

/-- What the walk of ClumpMost knows of the grove and the rains. -/
structure MxC (w : World) (g : Gr) (ps : List (Int × Int)) (zs : List Int) (A1 : Option Addr) (c1 : Nat) (A2 : Option Addr) (c2 : Nat) (P1 : Option Addr) (k1 : Nat) (P2 : Option Addr) (k2 : Nat) : Prop where
  al : ∀ W, Calls Try.prog 28 #[] W fun e w' => e = .returned (.bool true) ∧ Below W.heap.size W w'
  rd : ∀ W, Below w.heap.size w W → Calls Try.prog 29 #[grv g A1 c1 A2 c2, .slice P1 ps.length k1] W fun e w' => e = .returned (.bool (readyB g ps)) ∧ Below W.heap.size W w'
  mo : ∀ W, Below w.heap.size w W → Calls Try.prog 26 #[grv g A1 c1 A2 c2, .slice P1 ps.length k1] W (MostPost W (mostR g ps))
  pl : ∀ W, Below w.heap.size w W → Calls Try.prog 30 #[.slice P1 ps.length k1, .slice P2 zs.length k2] W fun e w' => e = .returned (.bool (planOk zs ps.length)) ∧ W = w'
  lk : ∀ W, Below w.heap.size w W → ∀ (A : Option Addr) (c : Nat) (xs : List Int), Ints W W.heap.size A xs → xs.length ≤ 9223372036854775807 → Calls Try.prog 23 #[grv g A1 c1 A2 c2, .slice P1 ps.length k1, .slice A xs.length c] W (LookPost W (lookVal g ps xs) (lookErr g ps xs))
  z : Ints w w.heap.size P2 zs

theorem mxC (g : Gr) (ps : List (Int × Int)) (zs : List Int) (A1 : Option Addr) (c1 : Nat) (A2 : Option Addr) (c2 : Nat) (P1 : Option Addr) (k1 : Nat) (P2 : Option Addr) (k2 : Nat) (w : World) (hG : GrAt w w.heap.size g A1 c1 A2 c2)
    (hV1 : Vals w w.heap.size P1 (pairs ps)) (hV2 : Ints w w.heap.size P2 zs) (l1 : ps.length ≤ 9223372036854775807) (l2 : zs.length ≤ 9223372036854775807) : MxC w g ps zs A1 c1 A2 c2 P1 k1 P2 k2 where
  al W := alive_any W
  rd W hW := ready_any g A1 c1 A2 c2 P1 k1 ps w.heap.size W hW.size (hG.below hW) (hV1.below hW) l1
  mo W hW := mostP_any g A1 c1 A2 c2 P1 k1 ps w.heap.size W hW.size (hG.below hW) (hV1.below hW) l1
  pl W hW := refPlan_any P1 k1 ps P2 k2 zs w.heap.size W (hV2.below hW) l2 l1
  lk W hW A c xs hI hl := lookP_any g A1 c1 A2 c2 P1 k1 ps A c xs W.heap.size W (Nat.le_refl _) ((hG.below hW).mono hW.size) ((hV1.below hW).mono hW.size) hI l1 hl
  z := hV2

set_option maxRecDepth 100000 in
set_option maxHeartbeats 4000000 in
theorem clumpMost_0 (g : Gr) (ps : List (Int × Int)) (zs : List Int) (A1 : Option Addr) (c1 : Nat) (A2 : Option Addr) (c2 : Nat) (P1 : Option Addr) (k1 : Nat) (P2 : Option Addr) (k2 : Nat) (w : World) (hC : MxC w g ps zs A1 c1 A2 c2 P1 k1 P2 k2) (hr : readyB g ps = false) :
    Calls Try.prog 8 #[grv g A1 c1 A2 c2, .slice P1 ps.length k1, .slice P2 zs.length k2] w fun e w' => e = .returned (.bool true) ∧ Below w.heap.size w w' := by
  have HR := Lib.hid (And.intro hr trivial)
  clear hr
  have HC := Lib.hid hC
  obtain ⟨w0, hw0⟩ : ∃ w0, w.alloc (.cells (gcs g A1 c1 A2 c2) 29) = w0 := ⟨_, rfl⟩
  have hb0 : Below w.heap.size w w0 := by rw [← hw0]; exact (Below.refl _ _).alloc (Nat.le_refl _) _
  have hs0 : w0.heap.size = w.heap.size + 1 := by rw [← hw0]; simp
  have hm0 : w0.heap[w.heap.size]? = some (.cells (gcs g A1 c1 A2 c2) 29 (0, 0)) := by rw [← hw0]; exact alloc_at0 w _
  have B0 := Lib.hid (And.intro hb0 (And.intro hm0 hs0))
  clear hC hb0 hm0 hs0
  simp only [gcs] at hw0
  unfold grv
  go_enter Try.func8, Try.ntmps8
  go_wp2_with (first
    | (go_at_call 28; refine (HC.out.al w0).mono ?_; rintro e w1 ⟨rfl, hB1⟩
       have hs1 : w.heap.size < w1.heap.size := by have := B0.out.2.2; have := hB1.size; omega
       have hc1' := fun i => cell_of_row w1 w.heap.size i _ _ _ ((hB1.block _ (by have := B0.out.2.2; omega)).trans B0.out.2.1)
       have H1 := Lib.hid (And.intro (B0.out.1.trans (hB1.mono (by have := B0.out.2.2; omega))) ((hB1.block _ (by have := B0.out.2.2; omega)).trans B0.out.2.1))
       clear hB1)
    | (go_at_call 29; refine (HC.out.rd w1 H1.out.1).mono ?_; rintro e w2 ⟨rfl, hB2⟩; rw [HR.out.1]
       have hs2 : w.heap.size < w2.heap.size := by have := hB2.size; omega
       have hc2 := fun i => cell_of_row w2 w.heap.size i _ _ _ ((hB2.block _ hs1).trans H1.out.2)
       have H2 := Lib.hid (And.intro (H1.out.1.trans (hB2.mono H1.out.1.size)) ((hB2.block _ hs1).trans H1.out.2))
       clear hB2 hc1'))
  go_ret
  exact ⟨rfl, H2.out.1⟩

set_option maxRecDepth 100000 in
set_option maxHeartbeats 4000000 in
theorem clumpMost_n0 (g : Gr) (ps : List (Int × Int)) (zs : List Int) (A1 : Option Addr) (c1 : Nat) (A2 : Option Addr) (c2 : Nat) (P1 : Option Addr) (k1 : Nat) (P2 : Option Addr) (k2 : Nat) (w : World) (hC : MxC w g ps zs A1 c1 A2 c2 P1 k1 P2 k2) (hr : readyB g ps = true) (hm : mostR g ps = ([], 0, 6)) (hp : planOk zs ps.length = false) :
    Calls Try.prog 8 #[grv g A1 c1 A2 c2, .slice P1 ps.length k1, .slice P2 zs.length k2] w fun e w' => e = .returned (.bool true) ∧ Below w.heap.size w w' := by
  have HR := Lib.hid (And.intro hr (And.intro hm hp))
  clear hr hm hp
  have HC := Lib.hid hC
  obtain ⟨w0, hw0⟩ : ∃ w0, w.alloc (.cells (gcs g A1 c1 A2 c2) 29) = w0 := ⟨_, rfl⟩
  have hb0 : Below w.heap.size w w0 := by rw [← hw0]; exact (Below.refl _ _).alloc (Nat.le_refl _) _
  have hs0 : w0.heap.size = w.heap.size + 1 := by rw [← hw0]; simp
  have hm0 : w0.heap[w.heap.size]? = some (.cells (gcs g A1 c1 A2 c2) 29 (0, 0)) := by rw [← hw0]; exact alloc_at0 w _
  have B0 := Lib.hid (And.intro hb0 (And.intro hm0 hs0))
  clear hC hb0 hm0 hs0
  simp only [gcs] at hw0
  unfold grv
  go_enter Try.func8, Try.ntmps8
  go_wp2_with (first
    | (go_at_call 28; refine (HC.out.al w0).mono ?_; rintro e w1 ⟨rfl, hB1⟩
       have hs1 : w.heap.size < w1.heap.size := by have := B0.out.2.2; have := hB1.size; omega
       have hc1' := fun i => cell_of_row w1 w.heap.size i _ _ _ ((hB1.block _ (by have := B0.out.2.2; omega)).trans B0.out.2.1)
       have H1 := Lib.hid (And.intro (B0.out.1.trans (hB1.mono (by have := B0.out.2.2; omega))) ((hB1.block _ (by have := B0.out.2.2; omega)).trans B0.out.2.1))
       clear hB1)
    | (go_at_call 29; refine (HC.out.rd w1 H1.out.1).mono ?_; rintro e w2 ⟨rfl, hB2⟩; rw [HR.out.1]
       have hs2 : w.heap.size < w2.heap.size := by have := hB2.size; omega
       have hc2 := fun i => cell_of_row w2 w.heap.size i _ _ _ ((hB2.block _ hs1).trans H1.out.2)
       have H2 := Lib.hid (And.intro (H1.out.1.trans (hB2.mono H1.out.1.size)) ((hB2.block _ hs1).trans H1.out.2))
       clear hB2 hc1')
    | (go_at_call 26; refine (HC.out.mo w2 H2.out.1).mono ?_; rw [HR.out.2.1]; rintro e w3 ⟨D, q, rfl, hq, hD, hB3⟩
       have hs3 : w.heap.size < w3.heap.size := by have := hB3.size; omega
       have hc3 := fun i => cell_of_row w3 w.heap.size i _ _ _ ((hB3.block _ hs2).trans H2.out.2)
       have H3 := Lib.hid (And.intro (H2.out.1.trans (hB3.mono H2.out.1.size)) ((hB3.block _ hs2).trans H2.out.2))
       have HD := Lib.hid (And.intro hq hD)
       clear hq hD
       clear hB3 hc2)
    | (go_at_call 30; refine (HC.out.pl w3 H3.out.1).mono ?_; rintro e w6 ⟨rfl, rfl⟩; rw [HR.out.2.2]))
  go_ret
  exact ⟨rfl, H3.out.1⟩

set_option maxRecDepth 100000 in
set_option maxHeartbeats 4000000 in
theorem clumpMost_n1 (g : Gr) (ps : List (Int × Int)) (zs : List Int) (A1 : Option Addr) (c1 : Nat) (A2 : Option Addr) (c2 : Nat) (P1 : Option Addr) (k1 : Nat) (P2 : Option Addr) (k2 : Nat) (w : World) (hC : MxC w g ps zs A1 c1 A2 c2 P1 k1 P2 k2) (hr : readyB g ps = true) (hm : mostR g ps = ([], 0, 6)) (hp : planOk zs ps.length = true) (hze : lookErr g ps zs = 0) (hzb : Bnd 0 30 zs) (hzl : zs.length ≤ 4) (hlt : ((lookVal g ps zs).length : Int) < ps.length) :
    Calls Try.prog 8 #[grv g A1 c1 A2 c2, .slice P1 ps.length k1, .slice P2 zs.length k2] w fun e w' => e = .returned (.bool true) ∧ Below w.heap.size w w' := by
  have HR := Lib.hid (And.intro hr (And.intro hm hp))
  clear hr hm hp
  have HZ := Lib.hid (And.intro hze hzb)
  generalize hv2 : lookVal g ps zs = v2 at hlt
  clear hze hzb
  have HC := Lib.hid hC
  obtain ⟨w0, hw0⟩ : ∃ w0, w.alloc (.cells (gcs g A1 c1 A2 c2) 29) = w0 := ⟨_, rfl⟩
  have hb0 : Below w.heap.size w w0 := by rw [← hw0]; exact (Below.refl _ _).alloc (Nat.le_refl _) _
  have hs0 : w0.heap.size = w.heap.size + 1 := by rw [← hw0]; simp
  have hm0 : w0.heap[w.heap.size]? = some (.cells (gcs g A1 c1 A2 c2) 29 (0, 0)) := by rw [← hw0]; exact alloc_at0 w _
  have B0 := Lib.hid (And.intro hb0 (And.intro hm0 hs0))
  clear hC hb0 hm0 hs0
  simp only [gcs] at hw0
  unfold grv
  go_enter Try.func8, Try.ntmps8
  go_wp2_with (first
    | (go_at_call 28; refine (HC.out.al w0).mono ?_; rintro e w1 ⟨rfl, hB1⟩
       have hs1 : w.heap.size < w1.heap.size := by have := B0.out.2.2; have := hB1.size; omega
       have hc1' := fun i => cell_of_row w1 w.heap.size i _ _ _ ((hB1.block _ (by have := B0.out.2.2; omega)).trans B0.out.2.1)
       have H1 := Lib.hid (And.intro (B0.out.1.trans (hB1.mono (by have := B0.out.2.2; omega))) ((hB1.block _ (by have := B0.out.2.2; omega)).trans B0.out.2.1))
       clear hB1)
    | (go_at_call 29; refine (HC.out.rd w1 H1.out.1).mono ?_; rintro e w2 ⟨rfl, hB2⟩; rw [HR.out.1]
       have hs2 : w.heap.size < w2.heap.size := by have := hB2.size; omega
       have hc2 := fun i => cell_of_row w2 w.heap.size i _ _ _ ((hB2.block _ hs1).trans H1.out.2)
       have H2 := Lib.hid (And.intro (H1.out.1.trans (hB2.mono H1.out.1.size)) ((hB2.block _ hs1).trans H1.out.2))
       clear hB2 hc1')
    | (go_at_call 26; refine (HC.out.mo w2 H2.out.1).mono ?_; rw [HR.out.2.1]; rintro e w3 ⟨D, q, rfl, hq, hD, hB3⟩
       have hs3 : w.heap.size < w3.heap.size := by have := hB3.size; omega
       have hc3 := fun i => cell_of_row w3 w.heap.size i _ _ _ ((hB3.block _ hs2).trans H2.out.2)
       have H3 := Lib.hid (And.intro (H2.out.1.trans (hB3.mono H2.out.1.size)) ((hB3.block _ hs2).trans H2.out.2))
       have HD := Lib.hid (And.intro hq hD)
       clear hq hD
       clear hB3 hc2)
    | (go_at_call 30; refine (HC.out.pl w3 H3.out.1).mono ?_; rintro e w6 ⟨rfl, rfl⟩; rw [HR.out.2.2])
    | (go_at_call 23; refine (HC.out.lk w3 H3.out.1 P2 k2 zs ((HC.out.z.below H3.out.1).mono H3.out.1.size) (by omega)).mono ?_; rw [HZ.out.1, hv2]; rintro e w7 ⟨D7, q7, rfl, -, -, hB7⟩
       have hs7 : w.heap.size < w7.heap.size := by have := hB7.size; omega
       have hc7 := fun i => cell_of_row w7 w.heap.size i _ _ _ ((hB7.block _ hs3).trans H3.out.2)
       have H7 := Lib.hid (And.intro (H3.out.1.trans (hB7.mono H3.out.1.size)) ((hB7.block _ hs3).trans H3.out.2))
       clear hB7 hc3))
  go_ret
  exact ⟨rfl, H7.out.1⟩

set_option maxRecDepth 100000 in
set_option maxHeartbeats 4000000 in
theorem clumpMost_s0 (g : Gr) (ps : List (Int × Int)) (zs : List Int) (A1 : Option Addr) (c1 : Nat) (A2 : Option Addr) (c2 : Nat) (P1 : Option Addr) (k1 : Nat) (P2 : Option Addr) (k2 : Nat) (w : World) (hC : MxC w g ps zs A1 c1 A2 c2 P1 k1 P2 k2) (p : List Int) (t : Int) (hr : readyB g ps = true) (hm : mostR g ps = (p, t, 0)) (he : lookErr g ps p = 0) (hv : (lookVal g ps p).length = ps.length) (hpl : p.length = ps.length) (hps : p.sum = t) (hpb : Bnd 0 30 p) (h4 : ps.length ≤ 4) (hp : planOk zs ps.length = false) :
    Calls Try.prog 8 #[grv g A1 c1 A2 c2, .slice P1 ps.length k1, .slice P2 zs.length k2] w fun e w' => e = .returned (.bool true) ∧ Below w.heap.size w w' := by
  have HR := Lib.hid (And.intro hr (And.intro hm hp))
  have HV := Lib.hid (And.intro he (And.intro hps hpb))
  generalize hv1 : lookVal g ps p = v1 at hv
  have hv1z : (v1.length : Int) = ps.length := by omega
  have hplz : (p.length : Int) = ps.length := by omega
  have HPL := Lib.hid hpl
  clear hr hm hp he hps hpb hv hpl
  have HC := Lib.hid hC
  obtain ⟨w0, hw0⟩ : ∃ w0, w.alloc (.cells (gcs g A1 c1 A2 c2) 29) = w0 := ⟨_, rfl⟩
  have hb0 : Below w.heap.size w w0 := by rw [← hw0]; exact (Below.refl _ _).alloc (Nat.le_refl _) _
  have hs0 : w0.heap.size = w.heap.size + 1 := by rw [← hw0]; simp
  have hm0 : w0.heap[w.heap.size]? = some (.cells (gcs g A1 c1 A2 c2) 29 (0, 0)) := by rw [← hw0]; exact alloc_at0 w _
  have B0 := Lib.hid (And.intro hb0 (And.intro hm0 hs0))
  clear hC hb0 hm0 hs0
  simp only [gcs] at hw0
  unfold grv
  go_enter Try.func8, Try.ntmps8
  go_wp2_with (first
    | (go_at_call 28; refine (HC.out.al w0).mono ?_; rintro e w1 ⟨rfl, hB1⟩
       have hs1 : w.heap.size < w1.heap.size := by have := B0.out.2.2; have := hB1.size; omega
       have hc1' := fun i => cell_of_row w1 w.heap.size i _ _ _ ((hB1.block _ (by have := B0.out.2.2; omega)).trans B0.out.2.1)
       have H1 := Lib.hid (And.intro (B0.out.1.trans (hB1.mono (by have := B0.out.2.2; omega))) ((hB1.block _ (by have := B0.out.2.2; omega)).trans B0.out.2.1))
       clear hB1)
    | (go_at_call 29; refine (HC.out.rd w1 H1.out.1).mono ?_; rintro e w2 ⟨rfl, hB2⟩; rw [HR.out.1]
       have hs2 : w.heap.size < w2.heap.size := by have := hB2.size; omega
       have hc2 := fun i => cell_of_row w2 w.heap.size i _ _ _ ((hB2.block _ hs1).trans H1.out.2)
       have H2 := Lib.hid (And.intro (H1.out.1.trans (hB2.mono H1.out.1.size)) ((hB2.block _ hs1).trans H1.out.2))
       clear hB2 hc1')
    | (go_at_call 26; refine (HC.out.mo w2 H2.out.1).mono ?_; rw [HR.out.2.1]; rintro e w3 ⟨D, q, rfl, hq, hD, hB3⟩
       have hs3 : w.heap.size < w3.heap.size := by have := hB3.size; omega
       have hc3 := fun i => cell_of_row w3 w.heap.size i _ _ _ ((hB3.block _ hs2).trans H2.out.2)
       have H3 := Lib.hid (And.intro (H2.out.1.trans (hB3.mono H2.out.1.size)) ((hB3.block _ hs2).trans H2.out.2))
       have HD := Lib.hid (And.intro hq hD)
       clear hq hD
       clear hB3 hc2)
    | (go_at_call 23; refine (HC.out.lk w3 H3.out.1 D q p HD.out.2 (by omega)).mono ?_; rw [HV.out.1, hv1]; rintro e w4 ⟨D4, q4, rfl, -, -, hB4⟩
       have hs4 : w.heap.size < w4.heap.size := by have := hB4.size; omega
       have hc4 := fun i => cell_of_row w4 w.heap.size i _ _ _ ((hB4.block _ hs3).trans H3.out.2)
       have H4 := Lib.hid (And.intro (H3.out.1.trans (hB4.mono H3.out.1.size)) ((hB4.block _ hs3).trans H3.out.2))
       have HD4 := Lib.hid ((HD.out.2.below hB4).mono hB4.size)
       clear hB4 hc3)
    | (go_at_call 35; refine (refSum_any D q p w4.heap.size w4 HD4.out (by omega) (fun k hk => by have := HV.out.2.2 k hk; omega)).mono ?_; rintro e w5 ⟨rfl, rfl⟩; rw [HV.out.2.1])
    | (go_at_call 30; refine (HC.out.pl w4 H4.out.1).mono ?_; rintro e w6 ⟨rfl, rfl⟩; rw [HR.out.2.2]))
  go_ret
  exact ⟨rfl, H4.out.1⟩

set_option maxRecDepth 100000 in
set_option maxHeartbeats 4000000 in
theorem clumpMost_s1 (g : Gr) (ps : List (Int × Int)) (zs : List Int) (A1 : Option Addr) (c1 : Nat) (A2 : Option Addr) (c2 : Nat) (P1 : Option Addr) (k1 : Nat) (P2 : Option Addr) (k2 : Nat) (w : World) (hC : MxC w g ps zs A1 c1 A2 c2 P1 k1 P2 k2) (p : List Int) (t : Int) (hr : readyB g ps = true) (hm : mostR g ps = (p, t, 0)) (he : lookErr g ps p = 0) (hv : (lookVal g ps p).length = ps.length) (hpl : p.length = ps.length) (hps : p.sum = t) (hpb : Bnd 0 30 p) (h4 : ps.length ≤ 4) (hp : planOk zs ps.length = true) (hze : lookErr g ps zs = 0) (hzb : Bnd 0 30 zs) (hzl : zs.length ≤ 4) (hlt : ((lookVal g ps zs).length : Int) < ps.length) :
    Calls Try.prog 8 #[grv g A1 c1 A2 c2, .slice P1 ps.length k1, .slice P2 zs.length k2] w fun e w' => e = .returned (.bool true) ∧ Below w.heap.size w w' := by
  have HR := Lib.hid (And.intro hr (And.intro hm hp))
  have HV := Lib.hid (And.intro he (And.intro hps hpb))
  generalize hv1 : lookVal g ps p = v1 at hv
  have hv1z : (v1.length : Int) = ps.length := by omega
  have hplz : (p.length : Int) = ps.length := by omega
  have HPL := Lib.hid hpl
  clear hr hm hp he hps hpb hv hpl
  have HZ := Lib.hid (And.intro hze hzb)
  generalize hv2 : lookVal g ps zs = v2 at hlt
  clear hze hzb
  have HC := Lib.hid hC
  obtain ⟨w0, hw0⟩ : ∃ w0, w.alloc (.cells (gcs g A1 c1 A2 c2) 29) = w0 := ⟨_, rfl⟩
  have hb0 : Below w.heap.size w w0 := by rw [← hw0]; exact (Below.refl _ _).alloc (Nat.le_refl _) _
  have hs0 : w0.heap.size = w.heap.size + 1 := by rw [← hw0]; simp
  have hm0 : w0.heap[w.heap.size]? = some (.cells (gcs g A1 c1 A2 c2) 29 (0, 0)) := by rw [← hw0]; exact alloc_at0 w _
  have B0 := Lib.hid (And.intro hb0 (And.intro hm0 hs0))
  clear hC hb0 hm0 hs0
  simp only [gcs] at hw0
  unfold grv
  go_enter Try.func8, Try.ntmps8
  go_wp2_with (first
    | (go_at_call 28; refine (HC.out.al w0).mono ?_; rintro e w1 ⟨rfl, hB1⟩
       have hs1 : w.heap.size < w1.heap.size := by have := B0.out.2.2; have := hB1.size; omega
       have hc1' := fun i => cell_of_row w1 w.heap.size i _ _ _ ((hB1.block _ (by have := B0.out.2.2; omega)).trans B0.out.2.1)
       have H1 := Lib.hid (And.intro (B0.out.1.trans (hB1.mono (by have := B0.out.2.2; omega))) ((hB1.block _ (by have := B0.out.2.2; omega)).trans B0.out.2.1))
       clear hB1)
    | (go_at_call 29; refine (HC.out.rd w1 H1.out.1).mono ?_; rintro e w2 ⟨rfl, hB2⟩; rw [HR.out.1]
       have hs2 : w.heap.size < w2.heap.size := by have := hB2.size; omega
       have hc2 := fun i => cell_of_row w2 w.heap.size i _ _ _ ((hB2.block _ hs1).trans H1.out.2)
       have H2 := Lib.hid (And.intro (H1.out.1.trans (hB2.mono H1.out.1.size)) ((hB2.block _ hs1).trans H1.out.2))
       clear hB2 hc1')
    | (go_at_call 26; refine (HC.out.mo w2 H2.out.1).mono ?_; rw [HR.out.2.1]; rintro e w3 ⟨D, q, rfl, hq, hD, hB3⟩
       have hs3 : w.heap.size < w3.heap.size := by have := hB3.size; omega
       have hc3 := fun i => cell_of_row w3 w.heap.size i _ _ _ ((hB3.block _ hs2).trans H2.out.2)
       have H3 := Lib.hid (And.intro (H2.out.1.trans (hB3.mono H2.out.1.size)) ((hB3.block _ hs2).trans H2.out.2))
       have HD := Lib.hid (And.intro hq hD)
       clear hq hD
       clear hB3 hc2)
    | (go_at_call 23; refine (HC.out.lk w4 H4.out.1 P2 k2 zs ((HC.out.z.below H4.out.1).mono H4.out.1.size) (by omega)).mono ?_; rw [HZ.out.1, hv2]; rintro e w7 ⟨D7, q7, rfl, -, -, hB7⟩
       have hs7 : w.heap.size < w7.heap.size := by have := hB7.size; omega
       have hc7 := fun i => cell_of_row w7 w.heap.size i _ _ _ ((hB7.block _ hs4).trans H4.out.2)
       have H7 := Lib.hid (And.intro (H4.out.1.trans (hB7.mono H4.out.1.size)) ((hB7.block _ hs4).trans H4.out.2))
       have HD7 := Lib.hid ((HD4.out.below hB7).mono hB7.size)
       clear hB7 hc4)
    | (go_at_call 23; refine (HC.out.lk w3 H3.out.1 D q p HD.out.2 (by omega)).mono ?_; rw [HV.out.1, hv1]; rintro e w4 ⟨D4, q4, rfl, -, -, hB4⟩
       have hs4 : w.heap.size < w4.heap.size := by have := hB4.size; omega
       have hc4 := fun i => cell_of_row w4 w.heap.size i _ _ _ ((hB4.block _ hs3).trans H3.out.2)
       have H4 := Lib.hid (And.intro (H3.out.1.trans (hB4.mono H3.out.1.size)) ((hB4.block _ hs3).trans H3.out.2))
       have HD4 := Lib.hid ((HD.out.2.below hB4).mono hB4.size)
       clear hB4 hc3)
    | (go_at_call 35; refine (refSum_any D q p w4.heap.size w4 HD4.out (by omega) (fun k hk => by have := HV.out.2.2 k hk; omega)).mono ?_; rintro e w5 ⟨rfl, rfl⟩; rw [HV.out.2.1])
    | (go_at_call 30; refine (HC.out.pl w4 H4.out.1).mono ?_; rintro e w6 ⟨rfl, rfl⟩; rw [HR.out.2.2]))
  go_ret
  exact ⟨rfl, H7.out.1⟩

set_option maxRecDepth 100000 in
set_option maxHeartbeats 4000000 in
theorem clumpMost_s2 (g : Gr) (ps : List (Int × Int)) (zs : List Int) (A1 : Option Addr) (c1 : Nat) (A2 : Option Addr) (c2 : Nat) (P1 : Option Addr) (k1 : Nat) (P2 : Option Addr) (k2 : Nat) (w : World) (hC : MxC w g ps zs A1 c1 A2 c2 P1 k1 P2 k2) (p : List Int) (t : Int) (hr : readyB g ps = true) (hm : mostR g ps = (p, t, 0)) (he : lookErr g ps p = 0) (hv : (lookVal g ps p).length = ps.length) (hpl : p.length = ps.length) (hps : p.sum = t) (hpb : Bnd 0 30 p) (h4 : ps.length ≤ 4) (hp : planOk zs ps.length = true) (hze : lookErr g ps zs = 0) (hzb : Bnd 0 30 zs) (hzl : zs.length ≤ 4) (hlt : ((lookVal g ps zs).length : Int) = ps.length) (hsm : zs.sum < t) :
    Calls Try.prog 8 #[grv g A1 c1 A2 c2, .slice P1 ps.length k1, .slice P2 zs.length k2] w fun e w' => e = .returned (.bool true) ∧ Below w.heap.size w w' := by
  have HR := Lib.hid (And.intro hr (And.intro hm hp))
  have HV := Lib.hid (And.intro he (And.intro hps hpb))
  generalize hv1 : lookVal g ps p = v1 at hv
  have hv1z : (v1.length : Int) = ps.length := by omega
  have hplz : (p.length : Int) = ps.length := by omega
  have HPL := Lib.hid hpl
  clear hr hm hp he hps hpb hv hpl
  have HZ := Lib.hid (And.intro hze hzb)
  generalize hv2 : lookVal g ps zs = v2 at hlt
  clear hze hzb
  have HC := Lib.hid hC
  obtain ⟨w0, hw0⟩ : ∃ w0, w.alloc (.cells (gcs g A1 c1 A2 c2) 29) = w0 := ⟨_, rfl⟩
  have hb0 : Below w.heap.size w w0 := by rw [← hw0]; exact (Below.refl _ _).alloc (Nat.le_refl _) _
  have hs0 : w0.heap.size = w.heap.size + 1 := by rw [← hw0]; simp
  have hm0 : w0.heap[w.heap.size]? = some (.cells (gcs g A1 c1 A2 c2) 29 (0, 0)) := by rw [← hw0]; exact alloc_at0 w _
  have B0 := Lib.hid (And.intro hb0 (And.intro hm0 hs0))
  clear hC hb0 hm0 hs0
  simp only [gcs] at hw0
  unfold grv
  go_enter Try.func8, Try.ntmps8
  go_wp2_with (first
    | (go_at_call 28; refine (HC.out.al w0).mono ?_; rintro e w1 ⟨rfl, hB1⟩
       have hs1 : w.heap.size < w1.heap.size := by have := B0.out.2.2; have := hB1.size; omega
       have hc1' := fun i => cell_of_row w1 w.heap.size i _ _ _ ((hB1.block _ (by have := B0.out.2.2; omega)).trans B0.out.2.1)
       have H1 := Lib.hid (And.intro (B0.out.1.trans (hB1.mono (by have := B0.out.2.2; omega))) ((hB1.block _ (by have := B0.out.2.2; omega)).trans B0.out.2.1))
       clear hB1)
    | (go_at_call 29; refine (HC.out.rd w1 H1.out.1).mono ?_; rintro e w2 ⟨rfl, hB2⟩; rw [HR.out.1]
       have hs2 : w.heap.size < w2.heap.size := by have := hB2.size; omega
       have hc2 := fun i => cell_of_row w2 w.heap.size i _ _ _ ((hB2.block _ hs1).trans H1.out.2)
       have H2 := Lib.hid (And.intro (H1.out.1.trans (hB2.mono H1.out.1.size)) ((hB2.block _ hs1).trans H1.out.2))
       clear hB2 hc1')
    | (go_at_call 26; refine (HC.out.mo w2 H2.out.1).mono ?_; rw [HR.out.2.1]; rintro e w3 ⟨D, q, rfl, hq, hD, hB3⟩
       have hs3 : w.heap.size < w3.heap.size := by have := hB3.size; omega
       have hc3 := fun i => cell_of_row w3 w.heap.size i _ _ _ ((hB3.block _ hs2).trans H2.out.2)
       have H3 := Lib.hid (And.intro (H2.out.1.trans (hB3.mono H2.out.1.size)) ((hB3.block _ hs2).trans H2.out.2))
       have HD := Lib.hid (And.intro hq hD)
       clear hq hD
       clear hB3 hc2)
    | (go_at_call 23; refine (HC.out.lk w4 H4.out.1 P2 k2 zs ((HC.out.z.below H4.out.1).mono H4.out.1.size) (by omega)).mono ?_; rw [HZ.out.1, hv2]; rintro e w7 ⟨D7, q7, rfl, -, -, hB7⟩
       have hs7 : w.heap.size < w7.heap.size := by have := hB7.size; omega
       have hc7 := fun i => cell_of_row w7 w.heap.size i _ _ _ ((hB7.block _ hs4).trans H4.out.2)
       have H7 := Lib.hid (And.intro (H4.out.1.trans (hB7.mono H4.out.1.size)) ((hB7.block _ hs4).trans H4.out.2))
       have HD7 := Lib.hid ((HD4.out.below hB7).mono hB7.size)
       clear hB7 hc4)
    | (go_at_call 23; refine (HC.out.lk w3 H3.out.1 D q p HD.out.2 (by omega)).mono ?_; rw [HV.out.1, hv1]; rintro e w4 ⟨D4, q4, rfl, -, -, hB4⟩
       have hs4 : w.heap.size < w4.heap.size := by have := hB4.size; omega
       have hc4 := fun i => cell_of_row w4 w.heap.size i _ _ _ ((hB4.block _ hs3).trans H3.out.2)
       have H4 := Lib.hid (And.intro (H3.out.1.trans (hB4.mono H3.out.1.size)) ((hB4.block _ hs3).trans H3.out.2))
       have HD4 := Lib.hid ((HD.out.2.below hB4).mono hB4.size)
       clear hB4 hc3)
    | (go_at_call 35; refine (refSum_any P2 k2 zs w7.heap.size w7 ((HC.out.z.below H7.out.1).mono H7.out.1.size) (by omega) (fun k hk => by have := HZ.out.2 k hk; omega)).mono ?_; rintro e w8 ⟨rfl, rfl⟩)
    | (go_at_call 35; refine (refSum_any D q p w4.heap.size w4 HD4.out (by omega) (fun k hk => by have := HV.out.2.2 k hk; omega)).mono ?_; rintro e w5 ⟨rfl, rfl⟩; rw [HV.out.2.1])
    | (go_at_call 30; refine (HC.out.pl w4 H4.out.1).mono ?_; rintro e w6 ⟨rfl, rfl⟩; rw [HR.out.2.2]))
  go_ret
  exact ⟨rfl, H7.out.1⟩

end Go.Proofs.Ytkjdapgkojfbmaa

namespace Go.Proofs.Ytkjdapgkojfbmaa
open Go.RowKit Go.Shelf

attribute [local go_sem] gives

set_option maxRecDepth 100000 in
set_option maxHeartbeats 8000000 in
theorem clumpMost_s3 (g : Gr) (ps : List (Int × Int)) (zs : List Int) (A1 : Option Addr) (c1 : Nat) (A2 : Option Addr) (c2 : Nat) (P1 : Option Addr) (k1 : Nat) (P2 : Option Addr) (k2 : Nat) (w : World) (hC : MxC w g ps zs A1 c1 A2 c2 P1 k1 P2 k2) (p : List Int) (t : Int) (hr : readyB g ps = true) (hm : mostR g ps = (p, t, 0)) (he : lookErr g ps p = 0) (hv : (lookVal g ps p).length = ps.length) (hpl : p.length = ps.length) (hps : p.sum = t) (hpb : Bnd 0 30 p) (h4 : ps.length ≤ 4) (hp : planOk zs ps.length = true) (hze : lookErr g ps zs = 0) (hzb : Bnd 0 30 zs) (hzl : zs.length ≤ 4) (hzn : zs.length = ps.length) (hlt : ((lookVal g ps zs).length : Int) = ps.length) (hsm : zs.sum = t) (hlex : lexLe p zs = true) :
    Calls Try.prog 8 #[grv g A1 c1 A2 c2, .slice P1 ps.length k1, .slice P2 zs.length k2] w fun e w' => e = .returned (.bool true) ∧ Below w.heap.size w w' := by
  have HR := Lib.hid (And.intro hr (And.intro hm hp))
  have HV := Lib.hid (And.intro he (And.intro hps hpb))
  generalize hv1 : lookVal g ps p = v1 at hv
  have hv1z : (v1.length : Int) = ps.length := by omega
  have hplz : (p.length : Int) = ps.length := by omega
  have HPL := Lib.hid hpl
  clear hr hm hp he hps hpb hv hpl
  have HZ := Lib.hid (And.intro hze hzb)
  generalize hv2 : lookVal g ps zs = v2 at hlt
  clear hze hzb
  have HLX := Lib.hid hlex
  have HZL := Lib.hid hzn
  clear hlex hzn
  have HC := Lib.hid hC
  obtain ⟨w0, hw0⟩ : ∃ w0, w.alloc (.cells (gcs g A1 c1 A2 c2) 29) = w0 := ⟨_, rfl⟩
  have hb0 : Below w.heap.size w w0 := by rw [← hw0]; exact (Below.refl _ _).alloc (Nat.le_refl _) _
  have hs0 : w0.heap.size = w.heap.size + 1 := by rw [← hw0]; simp
  have hm0 : w0.heap[w.heap.size]? = some (.cells (gcs g A1 c1 A2 c2) 29 (0, 0)) := by rw [← hw0]; exact alloc_at0 w _
  have B0 := Lib.hid (And.intro hb0 (And.intro hm0 hs0))
  clear hC hb0 hm0 hs0
  simp only [gcs] at hw0
  unfold grv
  go_enter Try.func8, Try.ntmps8
  go_wp2_with (first
    | (go_at_call 28; refine (HC.out.al w0).mono ?_; rintro e w1 ⟨rfl, hB1⟩
       have hs1 : w.heap.size < w1.heap.size := by have := B0.out.2.2; have := hB1.size; omega
       have hc1' := fun i => cell_of_row w1 w.heap.size i _ _ _ ((hB1.block _ (by have := B0.out.2.2; omega)).trans B0.out.2.1)
       have H1 := Lib.hid (And.intro (B0.out.1.trans (hB1.mono (by have := B0.out.2.2; omega))) ((hB1.block _ (by have := B0.out.2.2; omega)).trans B0.out.2.1))
       clear hB1)
    | (go_at_call 29; refine (HC.out.rd w1 H1.out.1).mono ?_; rintro e w2 ⟨rfl, hB2⟩; rw [HR.out.1]
       have hs2 : w.heap.size < w2.heap.size := by have := hB2.size; omega
       have hc2 := fun i => cell_of_row w2 w.heap.size i _ _ _ ((hB2.block _ hs1).trans H1.out.2)
       have H2 := Lib.hid (And.intro (H1.out.1.trans (hB2.mono H1.out.1.size)) ((hB2.block _ hs1).trans H1.out.2))
       clear hB2 hc1')
    | (go_at_call 26; refine (HC.out.mo w2 H2.out.1).mono ?_; rw [HR.out.2.1]; rintro e w3 ⟨D, q, rfl, hq, hD, hB3⟩
       have hs3 : w.heap.size < w3.heap.size := by have := hB3.size; omega
       have hc3 := fun i => cell_of_row w3 w.heap.size i _ _ _ ((hB3.block _ hs2).trans H2.out.2)
       have H3 := Lib.hid (And.intro (H2.out.1.trans (hB3.mono H2.out.1.size)) ((hB3.block _ hs2).trans H2.out.2))
       have HD := Lib.hid (And.intro hq hD)
       clear hq hD
       clear hB3 hc2)
    | (go_at_call 23; refine (HC.out.lk w4 H4.out.1 P2 k2 zs ((HC.out.z.below H4.out.1).mono H4.out.1.size) (by omega)).mono ?_; rw [HZ.out.1, hv2]; rintro e w7 ⟨D7, q7, rfl, -, -, hB7⟩
       have hs7 : w.heap.size < w7.heap.size := by have := hB7.size; omega
       have hc7 := fun i => cell_of_row w7 w.heap.size i _ _ _ ((hB7.block _ hs4).trans H4.out.2)
       have H7 := Lib.hid (And.intro (H4.out.1.trans (hB7.mono H4.out.1.size)) ((hB7.block _ hs4).trans H4.out.2))
       have HD7 := Lib.hid ((HD4.out.below hB7).mono hB7.size)
       clear hB7 hc4)
    | (go_at_call 23; refine (HC.out.lk w3 H3.out.1 D q p HD.out.2 (by omega)).mono ?_; rw [HV.out.1, hv1]; rintro e w4 ⟨D4, q4, rfl, -, -, hB4⟩
       have hs4 : w.heap.size < w4.heap.size := by have := hB4.size; omega
       have hc4 := fun i => cell_of_row w4 w.heap.size i _ _ _ ((hB4.block _ hs3).trans H3.out.2)
       have H4 := Lib.hid (And.intro (H3.out.1.trans (hB4.mono H3.out.1.size)) ((hB4.block _ hs3).trans H3.out.2))
       have HD4 := Lib.hid ((HD.out.2.below hB4).mono hB4.size)
       clear hB4 hc3)
    | (go_at_call 35; refine (refSum_any P2 k2 zs w7.heap.size w7 ((HC.out.z.below H7.out.1).mono H7.out.1.size) (by omega) (fun k hk => by have := HZ.out.2 k hk; omega)).mono ?_; rintro e w8 ⟨rfl, rfl⟩)
    | (go_at_call 35; refine (refSum_any D q p w4.heap.size w4 HD4.out (by omega) (fun k hk => by have := HV.out.2.2 k hk; omega)).mono ?_; rintro e w5 ⟨rfl, rfl⟩; rw [HV.out.2.1])
    | (go_at_call 30; refine (HC.out.pl w4 H4.out.1).mono ?_; rintro e w6 ⟨rfl, rfl⟩; rw [HR.out.2.2]))
  have hplen : (p.length : Int) = ps.length := hplz
  go_loopg [111] p.length (fun gg s111 wx => ∃ (i : Nat), i + gg = p.length ∧ s111 = .int .i64 i ∧ Hid (lexLe (p.drop i) (zs.drop i) = true ∧ Below w7.heap.size w7 wx))
  case atStart => exact ⟨0, by omega, rfl, HLX.out, Below.refl _ _⟩
  case round =>
    obtain ⟨i, hig, rfl, hI⟩ := hrel
    cases gk with
    | zero =>
      obtain rfl : i = p.length := by omega
      go_wp2
      go_ret
      exact ⟨rfl, H7.out.1.trans (hI.out.2.mono H7.out.1.size)⟩
    | succ gg =>
      have hip : i < p.length := by omega
      have hiz : i < zs.length := by have := HZL.out; omega
      have hipz : (i : Int) < p.length := by omega
      have hipz2 : (i : Int) < ps.length := by omega
      have hizz : (i : Int) < zs.length := by omega
      obtain ⟨bp, op, hA1, hbp, hq1⟩ := HD7.out (by omega)
      subst hA1
      obtain ⟨bz, oz, hA2, hbz, hq2⟩ := HC.out.z (by omega)
      subst hA2
      have hdp : p.drop i = p[i]?.getD 0 :: p.drop (i + 1) := by rw [List.drop_eq_getElem_cons hip]; simp [hip]
      have hdz : zs.drop i = zs[i]?.getD 0 :: zs.drop (i + 1) := by rw [List.drop_eq_getElem_cons hiz]; simp [hiz]
      have hlx := hI.out.1
      rw [hdp, hdz] at hlx
      have hx : ∀ W, Below w7.heap.size w7 W → W.cell? ⟨bp, op + i, none⟩ = _ := fun W hW => (hW.cell (p := ⟨bp, op + i, none⟩) hbp).trans (hq1 i hip)
      have hy : ∀ W, Below w7.heap.size w7 W → W.cell? ⟨bz, oz + i, none⟩ = _ := fun W hW => ((H7.out.1.trans (hW.mono H7.out.1.size)).cell (p := ⟨bz, oz + i, none⟩) hbz).trans (hq2 i hiz)
      generalize p[i]?.getD 0 = x at hx hlx
      generalize zs[i]?.getD 0 = y at hy hlx
      have HXY := Lib.hid (And.intro hx hy)
      clear hx hy hq1 hq2 hdp hdz
      by_cases hxy : x = y
      case pos =>
        subst hxy
        have hlx' : lexLe (p.drop (i + 1)) (zs.drop (i + 1)) = true := by simpa [lexLe] using hlx
        have HL := Lib.hid hlx'
        clear hlx hlx'
        go_wp2
        refine R2.wp_walk (C := Below wr.heap.size wr) (S := fun _ => Grows) 137 (by kernel_rfl) (by kernel_rfl) rfl (fun _ => Grows.refl) (Below.refl _ _).drew ?_
        simp only []
        repeat (first
          | (refine R2.WalkR.un (fun _ => rfl) ?_
             simp only [Act.put, List.setIfInBounds_toArray, List.set_cons_succ, List.set_cons_zero])
          | (refine' R2.WalkR.det (fun _ => rfl) rfl (fun ρ W hW hH hU => ?_) ?_
             rotate_left
             · clear hH hU
               have hx := HXY.out.1 W (hI.out.2.trans (hW.mono hI.out.2.size))
               have hy := HXY.out.2 W (hI.out.2.trans (hW.mono hI.out.2.size))
               have HW := Lib.hid hW
               clear hW
               go_simp
               with_reducible exact ⟨rfl, Grows.refl _, HW.out⟩
             simp only [Act.put, List.setIfInBounds_toArray, List.set_cons_succ, List.set_cons_zero]))
        refine R2.WalkR.nil (fun ρ w8 hW hH hF => ?_)
        clear hH hF
        have H8 := Lib.hid (hI.out.2.trans (hW.mono hI.out.2.size))
        clear hW
        go_wp2
        go_roundg gg
        case measure => omega
        case rel => exact ⟨i + 1, by omega, by go_num, HL.out, H8.out⟩
      case neg =>
        have hlt' : x < y := by simpa [lexLe, hxy] using hlx
        clear hlx
        go_wp2
        refine R2.wp_walk (C := Below wr.heap.size wr) (S := fun _ => Grows) 137 (by kernel_rfl) (by kernel_rfl) rfl (fun _ => Grows.refl) (Below.refl _ _).drew ?_
        simp only []
        repeat (first
          | (refine R2.WalkR.un (fun _ => rfl) ?_
             simp only [Act.put, List.setIfInBounds_toArray, List.set_cons_succ, List.set_cons_zero])
          | (refine' R2.WalkR.det (fun _ => rfl) rfl (fun ρ W hW hH hU => ?_) ?_
             rotate_left
             · clear hH hU
               have hx := HXY.out.1 W (hI.out.2.trans (hW.mono hI.out.2.size))
               have hy := HXY.out.2 W (hI.out.2.trans (hW.mono hI.out.2.size))
               have HW := Lib.hid hW
               clear hW
               go_simp
               with_reducible exact ⟨rfl, Grows.refl _, HW.out⟩
             simp only [Act.put, List.setIfInBounds_toArray, List.set_cons_succ, List.set_cons_zero]))
        refine R2.WalkR.nil (fun ρ w8 hW hH hF => ?_)
        clear hH hF
        have H8 := Lib.hid (hI.out.2.trans (hW.mono hI.out.2.size))
        clear hW
        go_wp2
        refine R2.wp_walk (C := Below w8.heap.size w8) (S := fun _ => Grows) 137 (by kernel_rfl) (by kernel_rfl) rfl (fun _ => Grows.refl) (Below.refl _ _).drew ?_
        simp only []
        repeat (first
          | (refine R2.WalkR.un (fun _ => rfl) ?_
             simp only [Act.put, List.setIfInBounds_toArray, List.set_cons_succ, List.set_cons_zero])
          | (refine' R2.WalkR.det (fun _ => rfl) rfl (fun ρ W hW hH hU => ?_) ?_
             rotate_left
             · clear hH hU
               have hx := HXY.out.1 W (H8.out.trans (hW.mono H8.out.size))
               have hy := HXY.out.2 W (H8.out.trans (hW.mono H8.out.size))
               have HW := Lib.hid hW
               clear hW
               go_simp
               with_reducible exact ⟨rfl, Grows.refl _, HW.out⟩
             simp only [Act.put, List.setIfInBounds_toArray, List.set_cons_succ, List.set_cons_zero]))
        refine R2.WalkR.nil (fun ρ w9 hW hH hF => ?_)
        clear hH hF
        have H9 := Lib.hid (H7.out.1.trans ((H8.out.trans (hW.mono H8.out.size)).mono H7.out.1.size))
        clear hW
        go_wp2
        go_ret
        exact ⟨rfl, H9.out⟩


theorem clumpMost_law (g : Gr) (ps : List (Int × Int)) (zs : List Int) (A1 : Option Addr) (c1 : Nat) (A2 : Option Addr) (c2 : Nat) (P1 : Option Addr) (k1 : Nat) (P2 : Option Addr) (k2 : Nat) (w : World) (hG : GrAt w w.heap.size g A1 c1 A2 c2)
    (hV1 : Vals w w.heap.size P1 (pairs ps)) (hV2 : Ints w w.heap.size P2 zs) (l1 : ps.length ≤ 9223372036854775807) (l2 : zs.length ≤ 9223372036854775807) :
    Calls Try.prog 8 #[grv g A1 c1 A2 c2, .slice P1 ps.length k1, .slice P2 zs.length k2] w fun e w' => e = .returned (.bool true) ∧ Below w.heap.size w w' := by
  have C := mxC g ps zs A1 c1 A2 c2 P1 k1 P2 k2 w hG hV1 hV2 l1 l2
  cases hrd : readyB g ps with
  | false => exact clumpMost_0 g ps zs A1 c1 A2 c2 P1 k1 P2 k2 w C hrd
  | true =>
    have hrd2 := hrd
    simp only [readyB, Bool.and_eq_true, Bool.not_eq_true'] at hrd2
    obtain ⟨⟨-, hok⟩, hr⟩ := hrd2
    obtain ⟨d, r, R⟩ := okGrove_runs hok
    have hab := habOk_of hok R
    have h4 := (rainsOk_len hr).2
    have hrn : ∀ p ∈ ps, 0 ≤ p.1 ∧ p.1 ≤ p.2 ∧ p.2 ≤ 1500 := fun p hp => by
      obtain ⟨k, hk, rfl⟩ := List.mem_iff_getElem.1 hp
      have := rainsOk_at hr hk
      simpa [hk] using this
    have hrip : g.hab.ripe.toNat = r := by rw [R.pre.hr, Int.toNat_natCast]
    have hm : mostR g ps = mostOut (bestL g.hab r g.hab.bears.toNat ps (lastL g)) := by simp [mostR, hok, hr, hrip]
    have T := best_top hab ps (lastL g) 30 hrn (Int.le_refl _) (lastL_len R) (lastL_bnd R)
    have hg := bestL_good g.hab r g.hab.bears.toNat ps (lastL g)
    have look : ∀ xs, planOk xs ps.length = true → lookErr g ps xs = 0 ∧ lookVal g ps xs = aheadL g.hab r g.hab.bears.toNat (lastL g) (lastL g) (ps.zip xs) := fun xs hx => by
      refine ⟨by simp [lookErr, hok, hr, hx], by simp [lookVal, hok, hr, hx, hrip]⟩
    have full : ∀ xs, planOk xs ps.length = true → ((lookVal g ps xs).length = ps.length ↔ sureL g.hab r g.hab.bears.toNat ps xs (lastL g) = true) := fun xs hx => by
      rw [(look xs hx).2]
      exact ahead_full ps xs _ _ (planOk_len hx)
    have bnd : ∀ xs, planOk xs ps.length = true → Bnd 0 30 xs ∧ Pln ps.length xs := fun xs hx => by
      refine ⟨fun k hk => planOk_at hx hk, planOk_len hx, fun z hz => ?_⟩
      obtain ⟨k, hk, rfl⟩ := List.mem_iff_getElem.1 hz
      have := planOk_at hx hk
      simpa [hk] using this
    have short : ∀ xs, planOk xs ps.length = true → (lookVal g ps xs).length ≤ ps.length := fun xs hx => by
      have := lookVal_len g ps xs
      rw [planOk_len hx] at this
      exact this
    cases ho : bestL g.hab r g.hab.bears.toNat ps (lastL g) with
    | none =>
      rw [ho] at hm T
      cases hp : planOk zs ps.length with
      | false => exact clumpMost_n0 g ps zs A1 c1 A2 c2 P1 k1 P2 k2 w C hrd hm hp
      | true =>
        refine clumpMost_n1 g ps zs A1 c1 A2 c2 P1 k1 P2 k2 w C hrd hm hp (look zs hp).1 (bnd zs hp).1 (by rw [planOk_len hp]; exact h4) ?_
        have h1 := short zs hp
        have h2 : (lookVal g ps zs).length ≠ ps.length := fun e => by
          obtain ⟨_, _, e2, _⟩ := T.top zs (bnd zs hp).2 ((full zs hp).1 e)
          cases e2
        omega
    | some x =>
      obtain ⟨p, t⟩ := x
      rw [ho] at hm T
      obtain ⟨g1, g2, g3, _, _⟩ := hg p t ho
      have hpp : planOk p ps.length = true := by
        simp only [planOk, Bool.and_eq_true, decide_eq_true_eq, List.all_eq_true]
        refine ⟨g1, fun z hz => ?_⟩
        rw [inR_iff]
        exact (Bnd.iff_mem.1 g2) z hz
      have hfl : (lookVal g ps p).length = ps.length := (full p hpp).2 (T.ok p t rfl)
      cases hp : planOk zs ps.length with
      | false => exact clumpMost_s0 g ps zs A1 c1 A2 c2 P1 k1 P2 k2 w C p t hrd hm (look p hpp).1 hfl g1 g3.symm g2 h4 hp
      | true =>
        have hzl := planOk_len hp
        by_cases hf : (lookVal g ps zs).length = ps.length
        · obtain ⟨p', t', e2, e3, e4⟩ := T.top zs (bnd zs hp).2 ((full zs hp).1 hf)
          cases e2
          by_cases hs : zs.sum = t
          · exact clumpMost_s3 g ps zs A1 c1 A2 c2 P1 k1 P2 k2 w C p t hrd hm (look p hpp).1 hfl g1 g3.symm g2 h4 hp (look zs hp).1 (bnd zs hp).1 (by omega) hzl (by omega) hs (e4 hs)
          · exact clumpMost_s2 g ps zs A1 c1 A2 c2 P1 k1 P2 k2 w C p t hrd hm (look p hpp).1 hfl g1 g3.symm g2 h4 hp (look zs hp).1 (bnd zs hp).1 (by omega) (by omega) (by omega)
        · have h1 := short zs hp
          exact clumpMost_s1 g ps zs A1 c1 A2 c2 P1 k1 P2 k2 w C p t hrd hm (look p hpp).1 hfl g1 g3.symm g2 h4 hp (look zs hp).1 (bnd zs hp).1 (by omega) (by omega)

end Go.Proofs.Ytkjdapgkojfbmaa

namespace Go.Proofs.Ytkjdapgkojfbmaa
open Go.ChangeShapes Go.WideShapes Go.ChangeAt Go.RowKit

theorem Try.own : ownKnob Try.prog.godebug = none := by kernel_rfl
theorem Try.laidOut : laidOutB Try.prog = true := by kernel_rfl

set_option maxRecDepth 100000 in
set_option maxHeartbeats 4000000 in
theorem clumpMost_lifted (os : Os) (started : os.Started) (H : Type) (enc : TypeId × Value → H) :
    ReturnsInHanded {} Try.checked os 8 .any (Rows.clumpMostSpec.pre6 enc Try.prog Try.f8 Rows.clumpMostRow.domain false) (Rows.clumpMostSpec.post enc Try.prog Try.f8 false true false false) := by
  refine returnsInHanded_of_change (C := Try.checked) Try.own started (by kernel_rfl) Try.func8
    (ChangeSpec.witness6 (enc := enc) (C := Try.checked) false ⟨#[], #[.agg #[.int .i64 0, .int .i64 0, .int .i64 0, .int .i64 0, .int .i64 0, .int .i64 0, .int .i64 0, .int .i64 0, .slice none 0 0, .slice none 0 0], .slice none 0 0, .slice none 0 0], []⟩ 8 (by kernel_rfl) (by kernel_rfl) (by kernel_rfl) (by kernel_rfl)) ?_
  intro W base args ds gs before hval0 hW hcnd _
  have hval : ∀ (j : Nat) t v, Try.f8.params[j]? = some t → args[j]? = some v → Value.okWide Try.prog W .any base t v := hval0
  have hW' := hW
  obtain ⟨p, q, hA0, hV, rfl, hfz, hnd⟩ := hW
  have hA : DataW.TrodAll enc Try.prog W 0 (fun _ => true) true Try.f8.params.toList args.toList ds p := hA0
  rw [Try.params8] at hA hval
  obtain ⟨v0, v1, v2, d0, d1, d2, p0, p1, p2, rfl, rfl, rfl, h0, h1, h2⟩ := trodAll_three hA
  obtain ⟨rfl, rfl⟩ := trodVars_none hV
  obtain ⟨g, A1, c1, A2, c2, rfl, hG⟩ := open_grove (hval 0 29 v0 rfl rfl) h0
  obtain ⟨P1, ps, k1, rfl, l1, hP⟩ := open_spans_arg (hval 1 48 v1 rfl rfl) h1
  obtain ⟨P2, zs, k2, rfl, l2, hZ⟩ := open_ints_arg (hval 2 26 v2 rfl rfl) h2
  clear hA0 hval0
  simp only [List.append_nil] at hW'
  have hlt0 : ∀ x ∈ p0, x.block < W.heap.size := fun x hx => hW'.lt x (by simp [hx])
  have hlt1 : ∀ x ∈ p1, x.block < W.heap.size := fun x hx => hW'.lt x (by simp [hx])
  have hlt2 : ∀ x ∈ p2, x.block < W.heap.size := fun x hx => hW'.lt x (by simp [hx])
  refine (clumpMost_law g ps zs A1 c1 A2 c2 P1 k1 P2 k2 W hG hP hZ (by simp only [maxLen] at l1; omega) (by simp only [maxLen] at l2; omega)).mono fun e W' ⟨he, hB⟩ => ?_
  subst he
  refine ⟨_, rfl, _, _, _, [], p0 ++ (p1 ++ p2), [], hW', ?_, ?_, rfl, hB.frame _, fun h => by cases h⟩
  · exact trodAll_mk1 (shut_bool Try.underlying4 true)
  · exact trodAll_mk3 (Below.trod Try.laidOut (by kernel_rfl) (of_decide_eq_true (by kernel_rfl)) h0 hB hlt0) (Below.trod Try.laidOut (by kernel_rfl) (of_decide_eq_true (by kernel_rfl)) h1 hB hlt1) (Below.trod Try.laidOut (by kernel_rfl) (of_decide_eq_true (by kernel_rfl)) h2 hB hlt2)

theorem clumpMost : Rows.ClumpMostSaid :=
  OpenClaim.holds_of_wide 8 Try.f8 rfl rfl rfl rfl rfl rfl rfl ⟨rfl, rfl, rfl, rfl, rfl⟩ rfl rfl rfl rfl rfl (by kernel_rfl) Try.func8 (by kernel_rfl)
    (of_decide_eq_true (by kernel_rfl)) (by unfold Func.isWrapper; rw [if_neg (by decide +kernel)]; exact ⟨rfl, rfl⟩)
    (fun os started H enc _ => clumpMost_lifted os started H enc)

end Go.Proofs.Ytkjdapgkojfbmaa

