/-
  More rain at the least, less to keep, or more culms: no less can be cut. Plain lists.
-/
import Derived.Test.YtanjolmelbipoaaZO
namespace Go.Proofs.Ytanjolmelbipoaa

/-- The least rains of one list are no more than those of another one. -/
def LeR : List (Int × Int) → List (Int × Int) → Prop
  | [], [] => True
  | p :: ps, q :: qs => p.1 ≤ q.1 ∧ LeR ps qs
  | _, _ => False
theorem LeR.refl : ∀ (ps : List (Int × Int)), LeR ps ps
  | [] => trivial
  | _ :: ps => ⟨Int.le_refl _, LeR.refl ps⟩
theorem LeR.len : ∀ {ps qs : List (Int × Int)}, LeR ps qs → ps.length = qs.length
  | [], [], _ => rfl
  | _ :: _, _ :: _, h => by simp [LeR.len h.2]
  | [], _ :: _, h => h.elim
  | _ :: _, [], h => h.elim

theorem sureL_mono {h h' : Hab} {d r b : Nat} (H : HabOk h d r b) (H' : HabOk h' d r b) (hlo : h.lo ≤ h'.lo) (hk : h'.keep ≤ h.keep) : ∀ (ps qs : List (Int × Int)) (zs l l' : List Int) (M : Int), (∀ p ∈ ps, 0 ≤ p.1 ∧ p.1 ≤ p.2 ∧ p.2 ≤ 1500) → (∀ p ∈ qs, 0 ≤ p.1 ∧ p.1 ≤ p.2 ∧ p.2 ≤ 1500) →
    LeR ps qs → (∀ z ∈ zs, 0 ≤ z ∧ z ≤ 30) → 30 ≤ M → l.length = d + 1 → LeL l l' → Bnd 0 M l → Bnd 0 M l' → sureL h r b ps zs l = true → sureL h' r b qs zs l' = true
  | [], [], [], _, _, _, _, _, _, _, _, _, _, _, _, _ => rfl
  | [], [], _ :: _, _, _, _, _, _, _, _, _, _, _, _, _, hs => by simp [sureL] at hs
  | [], _ :: _, _, _, _, _, _, _, hr, _, _, _, _, _, _, _ => hr.elim
  | _ :: _, [], _, _, _, _, _, _, hr, _, _, _, _, _, _, _ => hr.elim
  | _ :: _, _ :: _, [], _, _, _, _, _, _, _, _, _, _, _, _, hs => by simp [sureL] at hs
  | (x1, x2) :: ps, (y1, y2) :: qs, n :: zs, l, l', M, hp, hq, hr, hz, m0, hl, hle, hb, hb', hs => by
    simp only [sureL, Bool.and_eq_true] at hs ⊢
    obtain ⟨p0, p1, p2⟩ := hp (x1, x2) (.head _)
    obtain ⟨q0, q1, q2⟩ := hq (y1, y2) (.head _)
    obtain ⟨n0, n1⟩ := hz n (.head _)
    have hr1 := hr.1
    simp only at p0 p1 p2 q0 q1 q2 hr1
    have hd6 := H.d6
    have hl0 := H.l0
    have hlh := H.lh
    have hh1 := H.h1
    have hlh' := H'.lh
    have hh1' := H'.h1
    have hll := hle.1
    have s1 := shotsL_bnd (b := b) hb (by omega) hl0 (rate := h.lo) (by omega) p0 (rain := x1) (by omega) (by omega)
    have s2 := shotsL_bnd (b := b) hb' (by omega) (rate := h'.lo) (by omega) (by omega) q0 (rain := y1) (by omega) (by omega)
    have s3 := shotsL_mono (b := b) hle hb hl0 hlo p0 hr1
    have b1 : Bnd 0 (11 * M) l := fun k hk => by have := hb k hk; omega
    have b2 : Bnd 0 (11 * M) l' := fun k hk => by have := hb' k hk; omega
    have hy := hle.year s3 (by omega) b1 b2 s1.1 s2.2 n0
    have hok := okY_parts hs.1
    refine ⟨?_, sureL_mono H H' hlo hk ps qs zs _ _ (11 * M) (fun p hp' => hp p (.tail _ hp')) (fun p hp' => hq p (.tail _ hp')) hr.2 (fun z hz' => hz z (.tail _ hz')) (by omega) (by rw [yearL_len, hl]) hy (yearL_bnd b1 (by omega) s1.1 s1.2 n0 (by omega)) (yearL_bnd b2 (by omega) s2.1 s2.2 n0 (by omega)) hs.2⟩
    have h1 := hle.yearOk s3 (by omega) hok.1
    have h2 := hy.sum
    unfold okY
    rw [h1]
    simp only [Bool.true_and, decide_eq_true_eq]
    omega

/-- What can be cut with the less can be cut with the more. -/
theorem best_mono {h h' : Hab} {d r b : Nat} (H : HabOk h d r b) (H' : HabOk h' d r b) (hlo : h.lo ≤ h'.lo) (hk : h'.keep ≤ h.keep) (ps qs : List (Int × Int)) (l l' : List Int) (M : Int) (hp : ∀ p ∈ ps, 0 ≤ p.1 ∧ p.1 ≤ p.2 ∧ p.2 ≤ 1500) (hq : ∀ p ∈ qs, 0 ≤ p.1 ∧ p.1 ≤ p.2 ∧ p.2 ≤ 1500)
    (hr : LeR ps qs) (m0 : 30 ≤ M) (hl : l.length = d + 1) (hle : LeL l l') (hb : Bnd 0 M l) (hb' : Bnd 0 M l') {p : List Int} {t : Int} (e : bestL h r b ps l = some (p, t)) : ∃ p' t', bestL h' r b qs l' = some (p', t') ∧ t ≤ t' := by
  have T := best_top H ps l M hp m0 hl hb
  have T' := best_top H' qs l' M hq m0 (by rw [← hle.1, hl]) hb'
  obtain ⟨g1, g2, g3, _, _⟩ := bestL_good h r b ps l p t e
  have hz := Bnd.iff_mem.1 g2
  obtain ⟨p', t', e', ht, _⟩ := T'.top p ⟨by rw [g1, hr.len], hz⟩ (sureL_mono H H' hlo hk ps qs p l l' M hp hq hr hz m0 hl hle hb hb' (T.ok p t e))
  exact ⟨p', t', e', by omega⟩

end Go.Proofs.Ytanjolmelbipoaa
