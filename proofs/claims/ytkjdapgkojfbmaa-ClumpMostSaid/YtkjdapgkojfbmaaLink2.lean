/-
  A grove is valid for the program where it is for the reference; what stood and what was cut are the same.
-/
import Derived.Test.YtkjdapgkojfbmaaLink
namespace Go.Proofs.Ytkjdapgkojfbmaa

def cutsAll (d r : Nat) : List Int → List (Int × Int) → Bool
  | _, [] => true
  | c, p :: ss => decide (p.2 ≤ ripeP d r c p) && cutsAll d r (stepP d r c p) ss

theorem cutsAll_iff {d r : Nat} : ∀ {ss : List (Int × Int)} {c : List Int}, cutsAll d r c ss = true ↔ ∀ k, k < ss.length → (ss[k]?.getD (0, 0)).2 ≤ ripeP d r (stateP d r c ss k) (ss[k]?.getD (0, 0)) := by
  intro ss
  induction ss with
  | nil => intro c; simp [cutsAll]
  | cons p ss ih =>
    intro c
    simp only [cutsAll, Bool.and_eq_true, decide_eq_true_eq, ih]
    constructor
    · rintro ⟨h0, h1⟩ k hk
      cases k with
      | zero => simpa [stateP] using h0
      | succ k => have := h1 k (by simpa using hk); simpa [stateP] using this
    · intro h
      refine ⟨by have := h 0 (by simp); simpa [stateP] using this, fun k hk => ?_⟩
      have := h (k + 1) (by simpa using hk)
      simpa [stateP] using this

theorem cutsP_eq (g : Gr) (d r : Nat) : cutsP g d r = cutsAll d r (start7 g) g.seas := by
  rw [Bool.eq_iff_iff, cutsAll_iff]
  unfold cutsP
  simp only [cutK, ripeK]
  exact decide_eq_true_iff

theorem seasOk_link {d r : Nat} (d6 : d ≤ 6) (r1 : 1 ≤ r) (rd : r ≤ d) : ∀ (ss : List (Int × Int)) (l : List Int), l.length = d + 1 → Bnd 0 30 l → seasOk r l ss = (seasR ss && cutsAll d r (pad7 l) ss) := by
  intro ss
  induction ss with
  | nil => intro l _ _; rfl
  | cons p ss ih =>
    intro l hl hb
    have eR : seasR (p :: ss) = (inR p.1 0 30 && inR p.2 0 30 && seasR ss) := by simp [seasR]
    rw [eR]
    simp only [seasOk, cutsAll]
    rcases Bool.eq_false_or_eq_true (inR p.1 0 30) with h1 | h1
    · rcases Bool.eq_false_or_eq_true (inR p.2 0 30) with h2 | h2
      · have hf : YearFine d r l p := ⟨hl, d6, r1, rd, hb, inR_iff.1 h1, inR_iff.1 h2⟩
        have er := ripeP_pad hf
        rw [h1, h2]
        rcases Bool.eq_false_or_eq_true (yearOk r l p.1 p.2) with hy | hy
        · have hst := stepP_pad hf hy
          rw [ih (yearL l p.1 p.2) (by rw [yearL_len, hl]) (yearL_bnd hb (by omega) hf.s.1 hf.s.2 hf.n.1 hf.n.2), hst.1, hy]
          have : decide (p.2 ≤ ripeP d r (pad7 l) p) = true := by rw [er]; exact hy
          rw [this]
          simp
        · have : decide (p.2 ≤ ripeP d r (pad7 l) p) = false := by rw [er]; exact hy
          rw [hy, this]
          simp
      · rw [h2]; simp
    · rw [h1]; simp

/-- A grove within its bounds. -/
theorem fine_of {g : Gr} (h : (okPre g && okStart g && seasR g.seas) = true) : ∃ d r, Fine g d r ∧ g.hab.ripe.toNat = r := by
  simp only [Bool.and_eq_true] at h
  obtain ⟨⟨h1, h2⟩, h3⟩ := h
  obtain ⟨d, r, P⟩ := okPre_pre h1
  exact ⟨d, r, ⟨P.hd, P.hr, P.r1, P.rd, P.d6, P.ls, okStart_at h2, h3, P.l60, P.f0, P.f1⟩, by rw [P.hr, Int.toNat_natCast]⟩

theorem start_bnd30 {l : List Int} (h : Bnd 0 9 l) : Bnd 0 30 l := fun k hk => by have := h k hk; omega

theorem okGrove_link {g : Gr} {d r : Nat} (hf : Fine g d r) (h : (okPre g && okStart g && seasR g.seas) = true) : okGrove g = cutsP g d r := by
  rw [cutsP_eq, start7_pad]
  have hl := seasOk_link hf.d6 hf.r1 hf.rd g.seas g.start hf.st (start_bnd30 hf.sb)
  simp only [Bool.and_eq_true] at h
  unfold okGrove
  rw [hf.hr, Int.toNat_natCast, hl, h.1.1, h.1.2, h.2]
  simp

theorem okGrove_not {g : Gr} (h : (okPre g && okStart g && seasR g.seas) = false) : okGrove g = false := by
  cases h1 : okPre g with
  | false => simp [okGrove, h1]
  | true =>
    cases h2 : okStart g with
    | false => simp [okGrove, h2]
    | true =>
      obtain ⟨d, r, P⟩ := okPre_pre h1
      have h3 : seasR g.seas = false := by rw [h1, h2] at h; simpa using h
      have hl := seasOk_link P.d6 P.r1 P.rd g.seas g.start P.ls (start_bnd30 (okStart_at h2))
      unfold okGrove
      rw [P.hr, Int.toNat_natCast, hl, h3]
      simp

theorem Runs.fine {g : Gr} {d r : Nat} (R : Runs g d r) : Fine g d r := by
  refine ⟨R.pre.hd, R.pre.hr, R.pre.r1, R.pre.rd, R.pre.d6, R.pre.ls, R.b9, seasR_all fun k hk => ?_, R.pre.l60, R.pre.f0, R.pre.f1⟩
  have := R.yr k hk
  simp [allIn, inR]
  omega

theorem state_link {g : Gr} {d r : Nat} (R : Runs g d r) : ∀ k, k ≤ g.seas.length → stateP d r (start7 g) g.seas k = pad7 (runL g.start (g.seas.take k)) ∧ goneK g d r k = pad7 (goneAt g k) := by
  have year : ∀ k, k < g.seas.length → YearFine d r (runL g.start (g.seas.take k)) (g.seas[k]?.getD (0, 0)) := fun k hk => by
    have := R.yr k hk
    exact ⟨by rw [runL_len, R.pre.ls], R.pre.d6, R.pre.r1, R.pre.rd, R.bnd k (by omega), this.1, this.2.1⟩
  have st : ∀ k, k ≤ g.seas.length → stateP d r (start7 g) g.seas k = pad7 (runL g.start (g.seas.take k)) := by
    intro k
    induction k with
    | zero => intro _; simp [stateP, runL, start7_pad]
    | succ k ih =>
      intro hk
      rw [stateP_succ (by omega), ih (by omega), runL_succ _ _ _ (by omega)]
      exact (stepP_pad (year k (by omega)) (R.yr k (by omega)).2.2).1
  intro k hk
  refine ⟨st k hk, ?_⟩
  cases k with
  | zero =>
    have h1 := R.pre.ls
    have h2 := R.pre.d6
    simp only [goneK, goneAt, pad7, List.length_replicate, List.replicate_append_replicate]
    rw [show g.start.length + (7 - g.start.length) = 7 by omega]
    rfl
  | succ k =>
    simp only [goneK, goneAt]
    rw [st k (by omega)]
    exact (stepP_pad (year k (by omega)) (R.yr k (by omega)).2.2).2

end Go.Proofs.Ytkjdapgkojfbmaa
