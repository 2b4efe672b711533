/-
  Wider rains, more to keep, one culm more: what Most tells then. Plain lists.
-/
import Derived.Test.YtanjolmelbipoaaWidM
import Derived.Test.YtanjolmelbipoaaZI
namespace Go.Proofs.Ytanjolmelbipoaa

/-- What is told first is no more than what is told then. -/
def NoMore (x y : List Int × Int × Int) : Prop := x.2.2 = 0 → y.2.2 = 0 ∧ x.2.1 ≤ y.2.1

theorem runL_mono {M : Int} : ∀ (ss : List (Int × Int)) (l l' : List Int), (∀ p ∈ ss, (0 ≤ p.1 ∧ p.1 ≤ M) ∧ (0 ≤ p.2 ∧ p.2 ≤ M)) → LeL l l' → 1 ≤ l.length → Bnd 0 M l → Bnd 0 M l' → LeL (runL l ss) (runL l' ss)
  | [], _, _, _, h, _, _, _ => h
  | p :: ss, l, l', hp, h, hl, hb, hb' => by
    obtain ⟨⟨a0, a1⟩, b0, b1⟩ := hp p (.head _)
    have hll := h.1
    have hy := h.year (Int.le_refl p.1) hl hb hb' a0 a1 b0
    exact runL_mono ss _ _ (fun q hq => hp q (.tail _ hq)) hy (by rw [yearL_len]; exact hl) (yearL_bnd hb hl a0 a1 b0 b1) (yearL_bnd hb' (by omega) a0 a1 b0 b1)

theorem seas_in {g : Gr} {d r : Nat} (R : Runs g d r) : ∀ p ∈ g.seas, (0 ≤ p.1 ∧ p.1 ≤ 30) ∧ (0 ≤ p.2 ∧ p.2 ≤ 30) := fun p hp => by
  obtain ⟨k, hk, rfl⟩ := List.mem_iff_getElem.1 hp
  have := R.yr k hk
  simp only [List.getElem?_eq_getElem hk, Option.getD_some] at this
  exact ⟨this.1, this.2.1⟩

theorem lastL_mono {g g' : Gr} {d r d' r' : Nat} (R : Runs g d r) (R' : Runs g' d' r') (hs : g'.seas = g.seas) (h : LeL g.start g'.start) : LeL (lastL g) (lastL g') := by
  unfold lastL
  rw [hs]
  have b := R.b9
  have b' := R'.b9
  have hl := R.pre.ls
  exact runL_mono (M := 30) g.seas _ _ (seas_in R) h (by omega) (fun k hk => by have := b k hk; omega) (fun k hk => by have := b' k hk; omega)

theorem rains_mem {ps : List (Int × Int)} (h : rainsOk ps = true) : ∀ p ∈ ps, 0 ≤ p.1 ∧ p.1 ≤ p.2 ∧ p.2 ≤ 1500 := fun p hp => by
  obtain ⟨k, hk, rfl⟩ := List.mem_iff_getElem.1 hp
  have := rainsOk_at h hk
  simpa only [List.getElem?_eq_getElem hk, Option.getD_some] using this

theorem most_mono {g g' : Gr} {ps qs : List (Int × Int)} (hok : okGrove g = true) (hok' : okGrove g' = true) (hr : rainsOk ps = true) (hr' : rainsOk qs = true) (hd : g'.hab.dies = g.hab.dies) (hri : g'.hab.ripe = g.hab.ripe) (hbe : g'.hab.bears = g.hab.bears)
    (hlo : g.hab.lo ≤ g'.hab.lo) (hk : g'.hab.keep ≤ g.hab.keep) (hR : LeR ps qs) (hL : LeL (lastL g) (lastL g')) : NoMore (mostR g ps) (mostR g' qs) := by
  obtain ⟨d, r, R⟩ := okGrove_runs hok
  obtain ⟨d', r', R'⟩ := okGrove_runs hok'
  have H := habOk_of hok R
  have H' := habOk_of hok' R'
  have e1 := R.pre.hd
  have e2 := R'.pre.hd
  have e3 := R.pre.hr
  have e4 := R'.pre.hr
  obtain rfl : d' = d := by omega
  obtain rfl : r' = r := by omega
  rw [hbe] at H'
  have t1 : g.hab.ripe.toNat = r' := by omega
  have t2 : g'.hab.ripe.toNat = r' := by omega
  intro h0
  simp only [mostR, hok, hok', hr, hr', if_true, t1, t2, hbe] at h0 ⊢
  cases e : bestL g.hab r' g.hab.bears.toNat ps (lastL g) with
  | none => rw [e] at h0; simp [mostOut] at h0
  | some x =>
    obtain ⟨p, t⟩ := x
    obtain ⟨p', t', e', ht⟩ := best_mono H H' hlo hk ps qs (lastL g) (lastL g') 30 (rains_mem hr) (rains_mem hr') hR (by omega) (lastL_len R) hL (lastL_bnd R) (lastL_bnd R') e
    rw [e']
    exact ⟨rfl, ht⟩

theorem most_err {g : Gr} {ps : List (Int × Int)} (hok : okGrove g = true) (hr : rainsOk ps = true) : (mostR g ps).2.2 = 0 ∨ (mostR g ps).2.2 = 6 := by
  simp only [mostR, hok, hr, if_true]
  cases bestL g.hab g.hab.ripe.toNat g.hab.bears.toNat ps (lastL g) with
  | none => exact .inr rfl
  | some x => exact .inl rfl

theorem wid_key {e1 e2 e3 t1 t2 t3 : Int} (q1 : e1 = 0 ∨ e1 = 6) (q2 : e2 = 0 ∨ e2 = 6) (q3 : e3 = 0 ∨ e3 = 6) (n2 : e2 = 0 → e1 = 0 ∧ t2 ≤ t1) (n3 : e3 = 0 → e1 = 0 ∧ t3 ≤ t1) :
    (e1 = 0 ∧ e2 = 0 ∧ e3 = 0 ∧ t2 ≤ t1 ∧ t3 ≤ t1) ∨ (e1 = 0 ∧ e2 = 0 ∧ e3 = 6 ∧ t2 ≤ t1) ∨ (e1 = 0 ∧ e2 = 6 ∧ e3 = 0 ∧ t3 ≤ t1) ∨ (e1 = 0 ∧ e2 = 6 ∧ e3 = 6) ∨ (e1 = 6 ∧ e2 = 6 ∧ e3 = 6) := by
  rcases q1 with rfl | rfl <;> rcases q2 with rfl | rfl <;> rcases q3 with rfl | rfl <;> simp at n2 n3 ⊢ <;> omega
theorem wid_key2 {e1 e4 e5 t1 t4 : Int} (q1 : e1 = 0 ∨ e1 = 6) (q5 : e5 = 0 ∨ e5 = 10) (n4 : e5 = 0 → e1 = 0 → e4 = 0 ∧ t1 ≤ t4) : e5 = 10 ∨ (e5 = 0 ∧ e1 = 0 ∧ e4 = 0 ∧ t1 ≤ t4) ∨ (e5 = 0 ∧ e1 = 6) := by
  rcases q1 with rfl | rfl <;> rcases q5 with rfl | rfl <;> simp at n4 ⊢ <;> omega

/-- A rain made wider by two numbers. -/
def wideP (a b : Int) (p : Int × Int) : Int × Int := (p.1 - Int.tmod a (p.1 + 1), p.2 + Int.tmod b (1500 - p.2 + 1))
theorem wideP_in {a b : Int} {p : Int × Int} (ha : 0 ≤ a) (hb : 0 ≤ b) (h : 0 ≤ p.1 ∧ p.1 ≤ p.2 ∧ p.2 ≤ 1500) : (0 ≤ (wideP a b p).1 ∧ (wideP a b p).1 ≤ (wideP a b p).2 ∧ (wideP a b p).2 ≤ 1500) ∧ (wideP a b p).1 ≤ p.1 := by
  simp only [wideP]
  rw [Int.tmod_eq_emod_of_nonneg ha, Int.tmod_eq_emod_of_nonneg hb]
  have h1 := Int.emod_nonneg a (b := p.1 + 1) (by omega)
  have h2 := Int.emod_lt_of_pos a (b := p.1 + 1) (by omega)
  have h3 := Int.emod_nonneg b (b := 1500 - p.2 + 1) (by omega)
  have h4 := Int.emod_lt_of_pos b (b := 1500 - p.2 + 1) (by omega)
  omega

/-- Rains made wider, the first by the numbers f i and f (i + 1). -/
def wideL (f : Nat → Int) : Nat → List (Int × Int) → List (Int × Int)
  | _, [] => []
  | i, p :: ps => wideP (f i) (f (i + 1)) p :: wideL f (i + 1) ps
theorem wideL_len (f : Nat → Int) : ∀ (i : Nat) (ps : List (Int × Int)), (wideL f i ps).length = ps.length
  | _, [] => rfl
  | i, _ :: ps => by simp [wideL, wideL_len f (i + 1) ps]
theorem wideL_le {f : Nat → Int} (hf : ∀ i, 0 ≤ f i) : ∀ (i : Nat) (ps : List (Int × Int)), (∀ p ∈ ps, 0 ≤ p.1 ∧ p.1 ≤ p.2 ∧ p.2 ≤ 1500) → LeR (wideL f i ps) ps ∧ ∀ p ∈ wideL f i ps, 0 ≤ p.1 ∧ p.1 ≤ p.2 ∧ p.2 ≤ 1500
  | _, [], _ => ⟨trivial, fun p hp => by simp [wideL] at hp⟩
  | i, p :: ps, h => by
    have h1 := wideP_in (hf i) (hf (i + 1)) (h p (.head _))
    have h2 := wideL_le hf (i + 1) ps (fun q hq => h q (.tail _ hq))
    refine ⟨⟨h1.2, h2.1⟩, fun q hq => ?_⟩
    simp only [wideL, List.mem_cons] at hq
    rcases hq with rfl | hq
    · exact h1.1
    · exact h2.2 q hq
theorem wideL_ok {f : Nat → Int} (hf : ∀ i, 0 ≤ f i) {ps : List (Int × Int)} (h : rainsOk ps = true) (i : Nat) : rainsOk (wideL f i ps) = true ∧ LeR (wideL f i ps) ps := by
  have h1 := wideL_le hf i ps (rains_mem h)
  have hl := rainsOk_len h
  refine ⟨?_, h1.1⟩
  simp only [rainsOk, Bool.and_eq_true, inR_iff, wideL_len, List.all_eq_true]
  refine ⟨by omega, fun p hp => ?_⟩
  have := h1.2 p hp
  omega

/-- The grove that is to keep more. -/
def strictG (g : Gr) (k : Int) : Gr := { g with hab := { g.hab with keep := k } }
theorem strict_ok {g : Gr} (hok : okGrove g = true) {k : Int} (k0 : 0 ≤ k) (k1 : k ≤ 200) : okGrove (strictG g k) = true := by
  simp only [okGrove, okPre, Bool.and_eq_true, okHab_iff, strictG, okStart, inR_iff, decide_eq_true_eq] at hok ⊢
  refine ⟨⟨?_, hok.1.2⟩, hok.2⟩
  have := hok.1.1
  refine ⟨⟨⟨⟨⟨this.1.1.1.1.1, ?_⟩, this.1.1.1.2⟩, decide_eq_true this.1.1.2⟩, decide_eq_true this.1.2⟩, decide_eq_true this.2⟩
  omega

/-- The grove with one culm more of one age. -/
def moreG (g : Gr) (k : Nat) : Gr := { g with start := g.start.set k (g.start[k]?.getD 0 + 1) }
theorem more_le (l : List Int) (k : Nat) : LeL l (l.set k (l[k]?.getD 0 + 1)) := by
  refine ⟨by simp, fun i hi => ?_⟩
  by_cases e : k = i
  · subst e
    rw [List.getElem?_set_self hi]
    simp only [Option.getD_some]
    omega
  · rw [List.getElem?_set_ne e]
    exact Int.le_refl _

/-- All that ClumpWider compares. -/
theorem wider_all {g : Gr} {ps : List (Int × Int)} (hok : okGrove g = true) (hr : rainsOk ps = true) {f : Nat → Int} (hf : ∀ i, 0 ≤ f i) (i : Nat) {k : Int} (k0 : g.hab.keep ≤ k) (k1 : k ≤ 200) (j : Nat) :
    NoMore (mostR g (wideL f i ps)) (mostR g ps) ∧ NoMore (mostR (strictG g k) ps) (mostR g ps) ∧ (okGrove (moreG g j) = true → NoMore (mostR g ps) (mostR (moreG g j) ps)) := by
  have hw := wideL_ok hf hr i
  have h0 : 0 ≤ g.hab.keep := by
    have := hok
    simp only [okGrove, okPre, Bool.and_eq_true, okHab_iff] at this
    omega
  refine ⟨most_mono hok hok hw.1 hr rfl rfl rfl (Int.le_refl _) (Int.le_refl _) hw.2 (LeL.refl _), ?_, fun hm => ?_⟩
  · exact most_mono (strict_ok hok (by omega) k1) hok hr hr rfl rfl rfl (Int.le_refl _) k0 (LeR.refl _) (LeL.refl _)
  · obtain ⟨d, r, R⟩ := okGrove_runs hok
    obtain ⟨d', r', R'⟩ := okGrove_runs hm
    exact most_mono hok hm hr hr rfl rfl rfl (Int.le_refl _) (Int.le_refl _) (LeR.refl _) (lastL_mono R R' rfl (more_le g.start j))

end Go.Proofs.Ytanjolmelbipoaa
