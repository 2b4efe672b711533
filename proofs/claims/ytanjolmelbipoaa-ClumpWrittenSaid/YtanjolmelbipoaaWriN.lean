/-
  A year that comes is written into the book: what is told then lies within what was told. Plain lists.
-/
import Derived.Test.YtanjolmelbipoaaZL
namespace Go.Proofs.Ytanjolmelbipoaa

/-- The grove with one season more. -/
def nextG (g : Gr) (s n : Int) : Gr := { g with seas := g.seas ++ [(s, n)] }

theorem seasOk_snoc (r : Nat) : ∀ (ss : List (Int × Int)) (l : List Int) (p : Int × Int), seasOk r l (ss ++ [p]) = (seasOk r l ss && (inR p.1 0 30 && inR p.2 0 30 && yearOk r (runL l ss) p.1 p.2))
  | [], l, p => by simp [seasOk, runL]
  | q :: ss, l, p => by
    simp only [List.cons_append, seasOk, seasOk_snoc r ss, runL, List.foldl_cons, Bool.and_assoc]

theorem next_last (g : Gr) (s n : Int) : lastL (nextG g s n) = yearL (lastL g) s n := by
  simp [lastL, nextG, runL, List.foldl_append]

theorem next_ok {g : Gr} {s n : Int} (hok : okGrove g = true) (s0 : 0 ≤ s) (n0 : 0 ≤ n) (n1 : n ≤ 30) (hy : yearOk g.hab.ripe.toNat (lastL g) s n = true) :
    okGrove (nextG g s n) = (decide (s ≤ 30) && decide (g.seas.length + 1 ≤ 60) && decide (g.first + ((g.seas.length : Int) + 1) ≤ 3000)) := by
  have hy' : yearOk g.hab.ripe.toNat (runL g.start g.seas) s n = true := hy
  simp only [okGrove, okPre, Bool.and_eq_true, decide_eq_true_eq] at hok
  obtain ⟨⟨⟨⟨⟨⟨⟨a1, a2⟩, a3⟩, a4⟩, a5⟩, a6⟩, a7⟩, a8⟩ := hok
  have a7' : okStart (nextG g s n) = true := a7
  rw [Bool.eq_iff_iff]
  simp only [okGrove, okPre, nextG, seasOk_snoc, hy', a1, a2, a3, a4, a8, decide_true, Bool.true_and, Bool.and_true, Bool.and_eq_true, decide_eq_true_eq, inR_iff, List.length_append, List.length_cons, List.length_nil, Nat.zero_add]
  have a7'' : okStart { g with seas := g.seas ++ [(s, n)] } = true := a7'
  rw [a7'']
  simp only [and_true]
  omega

/-- What is told then lies within what was told. -/
def Within (xs ys : List (Int × Int × Int × Int)) : Prop := ys.length ≤ xs.length ∧ ∀ i, i < ys.length →
  (ys[i]?.getD (0, 0, 0, 0)).1 ≤ (xs[i]?.getD (0, 0, 0, 0)).1 ∧ (xs[i]?.getD (0, 0, 0, 0)).2.1 ≤ (ys[i]?.getD (0, 0, 0, 0)).2.1 ∧
  (ys[i]?.getD (0, 0, 0, 0)).2.2.1 ≤ (xs[i]?.getD (0, 0, 0, 0)).2.2.1 ∧ (xs[i]?.getD (0, 0, 0, 0)).2.2.2 ≤ (ys[i]?.getD (0, 0, 0, 0)).2.2.2
theorem Within.nil (xs : List (Int × Int × Int × Int)) : Within xs [] := ⟨Nat.zero_le _, fun i hi => by simp at hi⟩
theorem Within.cons {x y : Int × Int × Int × Int} {xs ys : List (Int × Int × Int × Int)} (h1 : y.1 ≤ x.1) (h2 : x.2.1 ≤ y.2.1) (h3 : y.2.2.1 ≤ x.2.2.1) (h4 : x.2.2.2 ≤ y.2.2.2) (h : Within xs ys) : Within (x :: xs) (y :: ys) := by
  refine ⟨by have := h.1; simp only [List.length_cons]; omega, fun i hi => ?_⟩
  cases i with
  | zero => simpa using ⟨h1, h2, h3, h4⟩
  | succ i => simpa using h.2 i (by simpa using hi)

theorem ahead_in {h : Hab} {d r b : Nat} (H : HabOk h d r b) : ∀ (rest : List ((Int × Int) × Int)) (lo hi a c : List Int) (M : Int), (∀ q ∈ rest, (0 ≤ q.1.1 ∧ q.1.1 ≤ q.1.2 ∧ q.1.2 ≤ 1500) ∧ 0 ≤ q.2 ∧ q.2 ≤ 30) →
    Yr h d lo hi M → Yr h d a c M → LeL lo a → LeL c hi → Within (aheadL h r b a c rest) (aheadL h r b lo hi rest)
  | [], _, _, _, _, _, _, _, _, _, _ => Within.nil _
  | ((x1, x2), n) :: rest, lo, hi, a, c, M, hq, Y, Z, h1, h2 => by
    obtain ⟨⟨q0, q1, q2⟩, n0, n1⟩ := hq _ (.head _)
    simp only at q0 q1 q2 n0 n1
    obtain ⟨y1, y2, y3, y4, y5, y6⟩ := Y.next (b := b) H (p := (x1, x2)) q0 q1 q2 n0 n1
    obtain ⟨z1, z2, z3, z4, z5, z6⟩ := Z.next (b := b) H (p := (x1, x2)) q0 q1 q2 n0 n1
    simp only at y1 y2 y3 y6 z1 z2 z3 z6
    have hl0 := H.l0
    have hlh := H.lh
    have ll := Y.ll
    have lc := Z.lh
    cases hok : okY r h.keep lo (shotsL b lo h.lo x1) n with
    | false => rw [aheadL_no hok]; exact Within.nil _
    | true =>
      have s1 := shotsL_mono (b := b) h1 Y.bl hl0 (Int.le_refl h.lo) q0 (Int.le_refl x1)
      have s2 := shotsL_mono (b := b) h2 Z.bh (show 0 ≤ h.hi by omega) (Int.le_refl h.hi) (show 0 ≤ x2 by omega) (Int.le_refl x2)
      have t1 := h1.year s1 (by omega) y4 z4 y1 (by omega) n0
      have t2 := h2.year s2 (by omega) z5 y5 (by omega) y3 n0
      have hp := okY_parts hok
      have hok' : okY r h.keep a (shotsL b a h.lo x1) n = true := by
        unfold okY
        have e1 := h1.yearOk s1 (by omega) hp.1
        have e2 := t1.sum
        rw [e1]
        simp only [Bool.true_and, decide_eq_true_eq]
        omega
      rw [aheadL_yes hok, aheadL_yes hok']
      exact Within.cons s1 s2 t1.sum t2.sum (ahead_in H rest _ _ _ _ (11 * M) (fun q hq' => hq q (.tail _ hq')) y6 z6 t1 t2)

theorem zip_mem {ps : List (Int × Int)} {zs : List Int} (hr : ∀ p ∈ ps, 0 ≤ p.1 ∧ p.1 ≤ p.2 ∧ p.2 ≤ 1500) (hz : ∀ z ∈ zs, 0 ≤ z ∧ z ≤ 30) : ∀ q ∈ ps.zip zs, (0 ≤ q.1.1 ∧ q.1.1 ≤ q.1.2 ∧ q.1.2 ≤ 1500) ∧ 0 ≤ q.2 ∧ q.2 ≤ 30 := fun q hq =>
  ⟨hr _ (List.of_mem_zip (a := q.1) (b := q.2) hq).1, hz _ (List.of_mem_zip (a := q.1) (b := q.2) hq).2⟩

/-- All that ClumpWritten compares. -/
theorem written_all {g : Gr} {ps : List (Int × Int)} {zs : List Int} (hok : okGrove g = true) (hr : rainsOk ps = true) (hp : planOk zs ps.length = true) (h2 : 2 ≤ zs.length) (h0 : 0 < (lookVal g ps zs).length) {rate rain : Int}
    (r0 : g.hab.lo ≤ rate) (r1 : rate ≤ g.hab.hi) (f0 : (ps[0]?.getD (0, 0)).1 ≤ rain) (f1 : rain ≤ (ps[0]?.getD (0, 0)).2) :
    (0 ≤ shotsL g.hab.bears.toNat (lastL g) rate rain ∧ shotsL g.hab.bears.toNat (lastL g) rate rain ≤ 330) ∧ ((0 : Int) ≤ zs[0]?.getD 0 ∧ zs[0]?.getD 0 ≤ 30) ∧ yearOk g.hab.ripe.toNat (lastL g) (shotsL g.hab.bears.toNat (lastL g) rate rain) (zs[0]?.getD 0) = true ∧
    (okGrove (nextG g (shotsL g.hab.bears.toNat (lastL g) rate rain) (zs[0]?.getD 0)) = true →
      lookErr (nextG g (shotsL g.hab.bears.toNat (lastL g) rate rain) (zs[0]?.getD 0)) (ps.drop 1) (zs.drop 1) = 0 ∧
      Within (lookVal (nextG g (shotsL g.hab.bears.toNat (lastL g) rate rain) (zs[0]?.getD 0)) (ps.drop 1) (zs.drop 1)) ((lookVal g ps zs).drop 1)) := by
  obtain ⟨d, r, R⟩ := okGrove_runs hok
  have H := habOk_of hok R
  have hrip : g.hab.ripe.toNat = r := by rw [R.pre.hr, Int.toNat_natCast]
  have hrm : ∀ p ∈ ps, 0 ≤ p.1 ∧ p.1 ≤ p.2 ∧ p.2 ≤ 1500 := fun p hp => by
    obtain ⟨k, hk, rfl⟩ := List.mem_iff_getElem.1 hp
    have := rainsOk_at hr hk
    simpa only [List.getElem?_eq_getElem hk, Option.getD_some] using this
  have hzm : ∀ z ∈ zs, 0 ≤ z ∧ z ≤ 30 := fun z hz => by
    obtain ⟨k, hk, rfl⟩ := List.mem_iff_getElem.1 hz
    have := planOk_at hp hk
    simpa only [List.getElem?_eq_getElem hk, Option.getD_some] using this
  have hll := planOk_len hp
  have hlr := rainsOk_len hr
  match ps, zs, h2, hll with
  | (x1, x2) :: ps, n :: zs, h2, hll =>
    simp only [List.getElem?_cons_zero, Option.getD_some] at f0 f1 ⊢
    simp only [List.drop_succ_cons, List.drop_zero]
    have hx := hrm _ (.head _)
    have hn := hzm _ (.head _)
    simp only at hx hn
    have hv : lookVal g ((x1, x2) :: ps) (n :: zs) = aheadL g.hab r g.hab.bears.toNat (lastL g) (lastL g) (((x1, x2), n) :: ps.zip zs) := by
      have hp' : planOk (n :: zs) (ps.length + 1) = true := hp
      simp [lookVal, hok, hr, hp', hrip]
    rw [hv] at h0 ⊢
    rw [hrip]
    have hfst : okY r g.hab.keep (lastL g) (shotsL g.hab.bears.toNat (lastL g) g.hab.lo x1) n = true := by
      cases e : okY r g.hab.keep (lastL g) (shotsL g.hab.bears.toNat (lastL g) g.hab.lo x1) n with
      | true => rfl
      | false => rw [aheadL_no e] at h0; simp at h0
    obtain ⟨m1, m2, m3, m4, m5, m6⟩ := (Mid.start (h := g.hab) (lastL_len R) (lastL_bnd R)).next (b := g.hab.bears.toNat) H (x1 := x1) (x2 := x2) hx.1 hx.2.1 hx.2.2 hn.1 hn.2 r0 r1 f0 f1
    have hY : yearOk r (lastL g) (shotsL g.hab.bears.toNat (lastL g) rate rain) n = true := (LeL.refl _).yearOk m1 (by rw [lastL_len R]; omega) (okY_parts hfst).1
    refine ⟨⟨m3, by omega⟩, hn, hY, fun hnx => ?_⟩
    obtain ⟨d', r', R'⟩ := okGrove_runs hnx
    have e1 := R'.pre.hd
    have e2 := R'.pre.hr
    have e3 := R.pre.hd
    have e4 := R.pre.hr
    simp only [nextG] at e1 e2
    obtain rfl : d' = d := by omega
    obtain rfl : r' = r := by omega
    have hr' : rainsOk ps = true := by
      simp only [rainsOk, Bool.and_eq_true, inR_iff, List.all_eq_true]
      simp only [List.length_cons] at hll h2 hlr
      refine ⟨by omega, fun p hp' => ?_⟩
      have := hrm p (.tail _ hp')
      omega
    have hp' : planOk zs ps.length = true := by
      simp only [planOk, Bool.and_eq_true, decide_eq_true_eq, List.all_eq_true]
      refine ⟨by simpa using hll, fun z hz => ?_⟩
      rw [inR_iff]
      exact hzm z (.tail _ hz)
    refine ⟨by simp [lookErr, hnx, hr', hp'], ?_⟩
    have hv' : lookVal (nextG g (shotsL g.hab.bears.toNat (lastL g) rate rain) n) ps zs = aheadL g.hab r' g.hab.bears.toNat (yearL (lastL g) (shotsL g.hab.bears.toNat (lastL g) rate rain) n) (yearL (lastL g) (shotsL g.hab.bears.toNat (lastL g) rate rain) n) (ps.zip zs) := by
      have e : (nextG g (shotsL g.hab.bears.toNat (lastL g) rate rain) n).hab = g.hab := rfl
      simp only [lookVal, hnx, hr', hp', and_self, if_true, next_last, e, hrip]
    rw [hv', aheadL_yes hfst]
    refine ahead_in H _ _ _ _ _ (11 * 30) (zip_mem (fun p hp' => hrm p (.tail _ hp')) (fun z hz => hzm z (.tail _ hz))) m6.yr ?_ m6.l1 m6.l2
    exact ⟨m6.ln, m6.ln, LeL.refl _, m6.bn, m6.bn, by omega⟩

end Go.Proofs.Ytanjolmelbipoaa
