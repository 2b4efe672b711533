/-
  Plain facts on the years of a plan; rains and plans; the grove at the end of its book; what look is made of.
-/
import Derived.Test.YtanjolmelbipoaaDoorYI
import Derived.Test.YtanjolmelbipoaaDoorZA
import Derived.Test.YtanjolmelbipoaaDoorYF
import Derived.Test.YtanjolmelbipoaaDoorYG
import Derived.Test.YtanjolmelbipoaaDoorYC
import Derived.Test.YtanjolmelbipoaaDoorYK
import Derived.Deep.DeepCutAuto
namespace Go.Proofs.YtanjolmelbipoaaDoor

/-- At least as many of each age. -/
def LeL (xs ys : List Int) : Prop := xs.length = ys.length ∧ ∀ k, k < xs.length → xs[k]?.getD 0 ≤ ys[k]?.getD 0

theorem LeL.refl (xs : List Int) : LeL xs xs := ⟨rfl, fun _ _ => Int.le_refl _⟩
theorem LeL.trans {xs ys zs : List Int} (h : LeL xs ys) (k : LeL ys zs) : LeL xs zs := ⟨h.1.trans k.1, fun i hi => Int.le_trans (h.2 i hi) (k.2 i (by rw [← h.1]; exact hi))⟩

theorem LeL.drop {xs ys : List Int} (h : LeL xs ys) (r : Nat) : LeL (xs.drop r) (ys.drop r) := by
  refine ⟨by simp [h.1], fun k hk => ?_⟩
  simp only [List.length_drop] at hk
  simp only [List.getElem?_drop]
  exact h.2 (r + k) (by omega)
theorem LeL.take {xs ys : List Int} (h : LeL xs ys) (r : Nat) : LeL (xs.take r) (ys.take r) := by
  refine ⟨by simp [h.1], fun k hk => ?_⟩
  simp only [List.length_take] at hk
  simp only [List.getElem?_take]
  rw [if_pos (by omega), if_pos (by omega)]
  exact h.2 k (by omega)
theorem LeL.sum : ∀ {xs ys : List Int}, LeL xs ys → xs.sum ≤ ys.sum
  | [], [], _ => Int.le_refl _
  | [], _ :: _, h => by have := h.1; simp at this
  | _ :: _, [], h => by have := h.1; simp at this
  | x :: xs, y :: ys, h => by
    have h1 := h.2 0 (by simp)
    have h2 : LeL xs ys := ⟨by have := h.1; simpa using this, fun k hk => by have := h.2 (k + 1) (by simpa using hk); simpa using this⟩
    have h3 := LeL.sum h2
    simp at h1 ⊢
    omega
theorem LeL.cons {x y : Int} {xs ys : List Int} (h0 : x ≤ y) (h : LeL xs ys) : LeL (x :: xs) (y :: ys) := by
  refine ⟨by simp [h.1], fun k hk => ?_⟩
  cases k with
  | zero => simpa using h0
  | succ k => simpa using h.2 k (by simpa using hk)

theorem nowL_eq (l : List Int) (s : Int) (hl : 1 ≤ l.length) : nowL l s = s :: l.take (l.length - 1) := by
  unfold nowL ageL
  obtain ⟨m, hm⟩ : ∃ m, l.length = m + 1 := ⟨l.length - 1, by omega⟩
  rw [hm]
  simp

theorem LeL.now {l l' : List Int} {s s' : Int} (h : LeL l l') (hs : s ≤ s') (hl : 1 ≤ l.length) : LeL (nowL l s) (nowL l' s') := by
  rw [nowL_eq l s hl, nowL_eq l' s' (by rw [← h.1]; exact hl), ← h.1]
  exact (h.take _).cons hs

/-- What a cut of n leaves of one age, where x are of it and S are older. -/
def leftOf (x S n : Int) : Int := x - min (max 0 (n - S)) x

theorem cutTo_at {c : List Int} {n M : Int} (hb : Bnd 0 M c) (hn : 0 ≤ n) : ∀ k, k ≤ c.length → ∀ i, c.length ≤ i + k → i < c.length →
    (cutTo c n (c.length - 1) k).1[i]?.getD 0 = leftOf (c[i]?.getD 0) ((c.drop (i + 1)).sum) n ∧
    (cutTo c n (c.length - 1) k).2.1[i]?.getD 0 = min (max 0 (n - (c.drop (i + 1)).sum)) (c[i]?.getD 0) := by
  intro k
  induction k with
  | zero => intro _ i h1 h2; omega
  | succ k ih =>
    intro hk i hik hi
    have hl := cutTo_len c n (c.length - 1) k
    have hrest := cutTo_rest hb hn k (by omega)
    have hlow := (cutTo_low (c := c) (n := n) (hi := c.length - 1) k (by omega) (c.length - 1 - k) (by omega)).1
    simp only [cutTo]
    by_cases e : c.length - 1 - k = i
    · subst e
      rw [List.getElem?_set_self (by rw [hl.1]; exact hi), List.getElem?_set_self (by rw [hl.2]; exact hi)]
      rw [hrest, hlow, show c.length - 1 - k + 1 = c.length - k by omega]
      exact ⟨rfl, rfl⟩
    · rw [List.getElem?_set_ne e, List.getElem?_set_ne e]
      exact ih (by omega) i (by omega) hi

theorem leftOf_mono {x y S T n : Int} (h : x ≤ y) (hS : S ≤ T) : leftOf x S n ≤ leftOf y T n := by unfold leftOf; omega

theorem LeL.year {l l' : List Int} {s s' n M : Int} (h : LeL l l') (hs : s ≤ s') (hl : 1 ≤ l.length) (hb : Bnd 0 M l) (hb' : Bnd 0 M l') (h0 : 0 ≤ s) (hM : s' ≤ M) (hn : 0 ≤ n) : LeL (yearL l s n) (yearL l' s' n) := by
  have hN := h.now hs hl
  have b1 := nowL_bnd hb h0 (by omega)
  have b2 := nowL_bnd hb' (s := s') (by omega) hM
  have e1 := nowL_len l s
  have e2 := nowL_len l' s'
  refine ⟨by rw [yearL_len, yearL_len, h.1], fun k hk => ?_⟩
  rw [yearL_len] at hk
  have p := (cutTo_at b1 hn (nowL l s).length (Nat.le_refl _) k (by omega) (by omega)).1
  have q := (cutTo_at b2 hn (nowL l' s').length (Nat.le_refl _) k (by omega) (by have := h.1; omega)).1
  unfold yearL
  rw [e1] at p
  rw [e2] at q
  rw [p, q]
  exact leftOf_mono (hN.2 k (by omega)) (hN.drop (k + 1)).sum

theorem LeL.yearOk {r : Nat} {l l' : List Int} {s s' n : Int} (h : LeL l l') (hs : s ≤ s') (hl : 1 ≤ l.length) (hok : yearOk r l s n = true) : yearOk r l' s' n = true := by
  unfold Go.Proofs.YtanjolmelbipoaaDoor.yearOk at *
  have := ((h.now hs hl).drop r).sum
  simp only [decide_eq_true_eq] at *
  omega

/-- The shoots of a year. -/
def shotsL (b : Nat) (l : List Int) (rate rain : Int) : Int := (l.take (b + 1)).sum * rate * rain / 1000000

theorem sum_nonneg {M : Int} : ∀ {l : List Int}, Bnd 0 M l → 0 ≤ l.sum
  | [], _ => by simp
  | x :: l, h => by
    have h1 := h 0 (by simp)
    have h2 : Bnd 0 M l := fun k hk => by have := h (k + 1) (by simpa using hk); simpa using this
    have := sum_nonneg h2
    simp at h1 ⊢
    omega
theorem sum_le {M : Int} : ∀ {l : List Int}, Bnd 0 M l → l.sum ≤ M * l.length
  | [], _ => by simp
  | x :: l, h => by
    have h1 := h 0 (by simp)
    have h2 : Bnd 0 M l := fun k hk => by have := h (k + 1) (by simpa using hk); simpa using this
    have := sum_le h2
    simp at h1 ⊢
    rw [Int.mul_add]
    omega

theorem mul3_mono {a a' b b' c c' : Int} (ha : 0 ≤ a) (hb : 0 ≤ b) (hc : 0 ≤ c) (h1 : a ≤ a') (h2 : b ≤ b') (h3 : c ≤ c') : a * b * c ≤ a' * b' * c' :=
  Int.mul_le_mul (Int.mul_le_mul h1 h2 hb (by omega)) h3 hc (Int.mul_nonneg (by omega) (by omega))

theorem shotsL_mono {b : Nat} {l l' : List Int} {rate rate' rain rain' M : Int} (h : LeL l l') (hb : Bnd 0 M l) (h1 : 0 ≤ rate) (h2 : rate ≤ rate') (h3 : 0 ≤ rain) (h4 : rain ≤ rain') : shotsL b l rate rain ≤ shotsL b l' rate' rain' := by
  unfold shotsL
  exact Int.ediv_le_ediv (by omega) (mul3_mono (sum_nonneg (fun k hk => hb.take _ k hk)) h1 h3 (h.take _).sum h2 h4)

theorem shotsL_bnd {b : Nat} {l : List Int} {rate rain M : Int} (hb : Bnd 0 M l) (hl : l.length ≤ 7) (h1 : 0 ≤ rate) (h2 : rate ≤ 1000) (h3 : 0 ≤ rain) (h4 : rain ≤ 1500) (hM : 0 ≤ M) :
    0 ≤ shotsL b l rate rain ∧ shotsL b l rate rain ≤ 11 * M := by
  have hs0 := sum_nonneg (hb.take (b + 1))
  have hs1 := sum_le (hb.take (b + 1))
  have hlen : ((l.take (b + 1)).length : Int) ≤ 7 := by simp; omega
  have hs2 : (l.take (b + 1)).sum ≤ 7 * M := by
    refine Int.le_trans hs1 ?_
    rw [Int.mul_comm]
    exact Int.mul_le_mul_of_nonneg_right hlen hM
  unfold shotsL
  refine ⟨Int.ediv_nonneg (Int.mul_nonneg (Int.mul_nonneg hs0 h1) h3) (by omega), ?_⟩
  have := mul3_mono hs0 h1 h3 hs2 h2 h4
  omega

end Go.Proofs.YtanjolmelbipoaaDoor

namespace Go.Proofs.YtanjolmelbipoaaDoor

theorem pad7_take {l : List Int} {b : Nat} (hb : b + 1 ≤ l.length) : (pad7 l).take (b + 1) = l.take (b + 1) := by
  unfold pad7
  rw [List.take_append_of_le_length hb]
theorem pad7_sum (l : List Int) : (pad7 l).sum = l.sum := by unfold pad7; rw [List.sum_append]; simp
theorem pad7_bnd {M : Int} {l : List Int} (h : Bnd 0 M l) (hM : 0 ≤ M) : Bnd 0 M (pad7 l) := by
  rw [Bnd.iff_mem] at h ⊢
  intro x hx
  simp only [pad7, List.mem_append, List.mem_replicate] at hx
  rcases hx with hx | ⟨_, rfl⟩
  · exact h x hx
  · omega

/-- A habit that is valid. -/
structure HabOk (h : Hab) (d r b : Nat) : Prop where
  hd : h.dies = d
  hr : h.ripe = r
  hb : h.bears = b
  r1 : 1 ≤ r
  rd : r ≤ d
  d6 : d ≤ 6
  bd : b ≤ d
  l0 : 0 ≤ h.lo
  lh : h.lo ≤ h.hi
  h1 : h.hi ≤ 1000
  k0 : 0 ≤ h.keep

theorem laterP_pad' {d : Nat} {l : List Int} (hl : l.length = d + 1) (hd : d ≤ 6) (s : Int) : laterP d (pad7 l) s = pad7 (nowL l s) := by
  rw [nowL_eq l s (by omega), hl]
  simp only [laterP, pad7, List.length_cons, List.length_take, List.cons_append]
  rw [List.take_append_of_le_length (by omega)]
  congr 3
  omega

/-- Whether a year's cut keeps the grove. -/
def okY (r : Nat) (keep : Int) (l : List Int) (s n : Int) : Bool := yearOk r l s n && decide (keep ≤ (yearL l s n).sum)

theorem okCut_pad {h : Hab} {d r b : Nat} (H : HabOk h d r b) {l : List Int} {s n M : Int} (hl : l.length = d + 1) (hb : Bnd 0 M l) (hs : 0 ≤ s) (hsM : s ≤ M) (hn : 0 ≤ n) (hnM : n ≤ M) (hM : M ≤ 1000000) :
    okCut r h.keep n (pad7 (nowL l s)) (cutTo (pad7 (nowL l s)) n d (d - r + 1)).1 = okY r h.keep l s n ∧
    (okY r h.keep l s n = true → (cutTo (pad7 (nowL l s)) n d (d - r + 1)).1 = pad7 (yearL l s n)) := by
  have hlen := nowL_len l s
  have hbn := nowL_bnd hb hs hsM
  have hc := (pad7_cut (m := nowL l s) (n := n) (hi := d) (by omega) (by have := H.d6; omega) (d - r + 1) (by omega)).1
  have hr := pad7_drop (l := nowL l s) (r := r) (by have := H.rd; omega)
  have key : yearOk r l s n = true → (cutTo (pad7 (nowL l s)) n d (d - r + 1)).1 = pad7 (yearL l s n) := fun hok => by
    simp only [yearOk, decide_eq_true_eq] at hok
    have hsame := cutTo_same hbn (by omega) hn hnM (r := r) (by have := H.rd; omega) hok r (Nat.le_refl _)
    have := H.rd
    rw [hlen, hl, show d + 1 - r + r = d + 1 by omega, show d + 1 - r = d - r + 1 by omega, show d + 1 - 1 = d by omega] at hsame
    rw [hc, ← hsame]
    unfold yearL
    rw [hl, show d + 1 - 1 = d by omega]
  unfold okCut okY
  rw [hr]
  cases hy : yearOk r l s n with
  | false =>
    have : decide (n ≤ ((nowL l s).drop r).sum) = false := hy
    rw [this]
    simp
  | true =>
    have : decide (n ≤ ((nowL l s).drop r).sum) = true := hy
    rw [this, key hy, pad7_sum]
    simp

/-- What the years bring, from some culms on, with the least and the greatest shoots. -/
def aheadL (h : Hab) (r b : Nat) : List Int → List Int → List ((Int × Int) × Int) → List (Int × Int × Int × Int)
  | _, _, [] => []
  | lo, hi, (p, n) :: rest =>
    if okY r h.keep lo (shotsL b lo h.lo p.1) n = true then
      (shotsL b lo h.lo p.1, shotsL b hi h.hi p.2, (yearL lo (shotsL b lo h.lo p.1) n).sum, (yearL hi (shotsL b hi h.hi p.2) n).sum) :: aheadL h r b (yearL lo (shotsL b lo h.lo p.1) n) (yearL hi (shotsL b hi h.hi p.2) n) rest
    else []

/-- Where the years stand. -/
structure Yr (h : Hab) (d : Nat) (lo hi : List Int) (M : Int) : Prop where
  ll : lo.length = d + 1
  lh : hi.length = d + 1
  le : LeL lo hi
  bl : Bnd 0 M lo
  bh : Bnd 0 M hi
  m0 : 30 ≤ M

/-- One year on. -/
theorem Yr.next {h : Hab} {d r b : Nat} (H : HabOk h d r b) {lo hi : List Int} {M : Int} (Y : Yr h d lo hi M) {p : Int × Int} (p0 : 0 ≤ p.1) (p1 : p.1 ≤ p.2) (p2 : p.2 ≤ 1500) {n : Int} (n0 : 0 ≤ n) (n1 : n ≤ 30) :
    0 ≤ shotsL b lo h.lo p.1 ∧ shotsL b lo h.lo p.1 ≤ shotsL b hi h.hi p.2 ∧ shotsL b hi h.hi p.2 ≤ 11 * M ∧
    Bnd 0 (11 * M) lo ∧ Bnd 0 (11 * M) hi ∧ Yr h d (yearL lo (shotsL b lo h.lo p.1) n) (yearL hi (shotsL b hi h.hi p.2) n) (11 * M) := by
  have m0 := Y.m0
  have hd := H.d6
  have hl0 := H.l0
  have hlh := H.lh
  have hh1 := H.h1
  have ll := Y.ll
  have lh := Y.lh
  have bl : Bnd 0 (11 * M) lo := fun k hk => by have := Y.bl k hk; omega
  have bh : Bnd 0 (11 * M) hi := fun k hk => by have := Y.bh k hk; omega
  have s1 := shotsL_bnd (b := b) Y.bl (by omega) H.l0 (rate := h.lo) (by omega) p0 (rain := p.1) (by omega) (by omega)
  have s2 := shotsL_bnd (b := b) Y.bh (by omega) (rate := h.hi) (by omega) H.h1 (rain := p.2) (by omega) p2 (by omega)
  have s3 := shotsL_mono (b := b) Y.le Y.bl H.l0 H.lh p0 p1
  refine ⟨s1.1, s3, s2.2, bl, bh, ⟨by rw [yearL_len, ll], by rw [yearL_len, lh], Y.le.year s3 (by omega) bl bh s1.1 s2.2 n0, ?_, ?_, by omega⟩⟩
  · exact yearL_bnd bl (by omega) s1.1 (by omega) n0 (by omega)
  · exact yearL_bnd bh (by omega) s2.1 s2.2 n0 (by omega)

/-- The greatest ones may be cut where the least ones may. -/
theorem okY_up {h : Hab} {d r b : Nat} (H : HabOk h d r b) {lo hi : List Int} {M : Int} (Y : Yr h d lo hi M) {p : Int × Int} (p0 : 0 ≤ p.1) (p1 : p.1 ≤ p.2) (p2 : p.2 ≤ 1500) {n : Int} (n0 : 0 ≤ n) (n1 : n ≤ 30)
    (hok : okY r h.keep lo (shotsL b lo h.lo p.1) n = true) : okY r h.keep hi (shotsL b hi h.hi p.2) n = true := by
  obtain ⟨h1, h2, h3, _, _, Y'⟩ := Y.next H p0 p1 p2 n0 n1
  have ll := Y.ll
  unfold okY at *
  simp only [Bool.and_eq_true, decide_eq_true_eq] at *
  exact ⟨Y.le.yearOk h2 (by omega) hok.1, Int.le_trans hok.2 Y'.le.sum⟩

/-- Rows of four numbers. -/
def quads (l : List (Int × Int × Int × Int)) : List Value := l.flatMap fun q => [.int .i64 q.1, .int .i64 q.2.1, .int .i64 q.2.2.1, .int .i64 q.2.2.2]
theorem quads_len (l : List (Int × Int × Int × Int)) : (quads l).length = l.length * 4 := by
  induction l with
  | nil => rfl
  | cons q l ih => simp only [quads, List.flatMap_cons, List.length_append, List.length_cons, List.length_nil] at *; omega
theorem quads_app (a b : List (Int × Int × Int × Int)) : quads (a ++ b) = quads a ++ quads b := by simp [quads]
theorem quads_one (l : List (Int × Int × Int × Int)) : ∀ v ∈ quads l, v.oneCell' = true := by
  intro v hv
  simp only [quads, List.mem_flatMap, List.mem_cons, List.not_mem_nil, or_false] at hv
  obtain ⟨q, _, hv⟩ := hv
  rcases hv with rfl | rfl | rfl | rfl <;> rfl

end Go.Proofs.YtanjolmelbipoaaDoor

namespace Go.Proofs.YtanjolmelbipoaaDoor
open Go.RowKit

attribute [local go_sem] gives

def rainsOk (ps : List (Int × Int)) : Bool := inR ps.length 1 4 && ps.all fun p => inR p.1 0 1500 && inR p.2 p.1 1500
def planOk (zs : List Int) (n : Nat) : Bool := decide (zs.length = n) && zs.all fun x => inR x 0 30

theorem okSpan_eq (lo hi m : Int) : okSpan lo hi m = (inR lo 0 m && inR hi lo m) := by
  simp only [okSpan, allIn, inR, List.all_cons, List.all_nil, Bool.and_true]
  rw [Bool.eq_iff_iff]
  simp only [Bool.and_eq_true, decide_eq_true_eq]
  omega
theorem rainsOk_no {ps : List (Int × Int)} {k : Nat} (hk : k < ps.length) (h : okSpan (ps[k]?.getD (0, 0)).1 (ps[k]?.getD (0, 0)).2 1500 = false) : rainsOk ps = false := by
  unfold rainsOk
  rw [Bool.and_eq_false_iff]
  right
  rw [List.all_eq_false]
  refine ⟨ps[k], List.getElem_mem hk, ?_⟩
  rw [okSpan_eq] at h
  simp only [hk, List.getElem?_eq_getElem, Option.getD_some] at h
  simp [h]
theorem rainsOk_yes {ps : List (Int × Int)} (h : ∀ k, k < ps.length → okSpan (ps[k]?.getD (0, 0)).1 (ps[k]?.getD (0, 0)).2 1500 = true) : rainsOk ps = allIn 1 4 [(ps.length : Int)] := by
  unfold rainsOk
  rw [allIn_one]
  have : (ps.all fun p => inR p.1 0 1500 && inR p.2 p.1 1500) = true := by
    rw [List.all_eq_true]
    intro x hx
    obtain ⟨k, hk, rfl⟩ := List.mem_iff_getElem.1 hx
    have := h k hk
    rw [okSpan_eq] at this
    simpa [hk] using this
  rw [this, Bool.and_true]

set_option maxHeartbeats 2000000 in
theorem validRains_any (A : Option Addr) (cap : Nat) (ps : List (Int × Int)) (B : Nat) (w : World) (hB : B ≤ w.heap.size) (hV : Vals w B A (pairs ps)) (hl : ps.length ≤ 9223372036854775807) :
    Calls Tryd.prog 20 #[.slice A ps.length cap] w fun e w' => e = .returned (.bool (rainsOk ps)) ∧ Below w.heap.size w w' := by
  have HV := Lib.hid hV
  clear hV
  go_enter Tryd.func20, Tryd.ntmps20
  go_wp2
  go_loopw [7] (fun i wr => ∃ k : Nat, k ≤ ps.length ∧ i = .int .i64 k ∧ Hid (∀ j, j < k → okSpan (ps[j]?.getD (0, 0)).1 (ps[j]?.getD (0, 0)).2 1500 = true) ∧ Hid (Below w.heap.size w wr)) (fun i _ => ps.length - (intOf i).toNat)
  case atStart => exact ⟨0, Nat.zero_le _, rfl, fun j hj => absurd hj (by omega), Below.refl _ _⟩
  case round =>
    obtain ⟨k, hk, rfl, hall, hBr⟩ := hrel
    by_cases hlt : k < ps.length
    · obtain ⟨b, off, hA, hbB, hc⟩ := HV.out (by rw [pairs_len]; omega)
      subst hA
      have hpa := pairs_at ps k hlt
      have hc0 : wr.cell? ⟨b, off + k * 2, none⟩ = _ := (hBr.out.cell (p := ⟨b, off + k * 2, none⟩) (by simp; omega)).trans (hc _ _ hpa.1)
      have hc1 : wr.cell? ⟨b, off + k * 2 + 1, none⟩ = _ := (hBr.out.cell (p := ⟨b, off + k * 2 + 1, none⟩) (by simp; omega)).trans (hc _ _ hpa.2)
      have hno := fun h => rainsOk_no (ps := ps) hlt h
      have hws := hBr.out.size
      generalize hx : ps[k]?.getD (0, 0) = x at hc0 hc1 hno
      obtain ⟨lo, hi⟩ := x
      simp only at hc0 hc1 hno
      have Hx := Lib.hid hx
      have Hno := Lib.hid hno
      clear hx hno hpa hc
      rcases Bool.eq_false_or_eq_true (okSpan lo hi 1500) with hs | hs
      · have Hs := Lib.hid hs
        go_wp2_with (go_at_call 30; refine (validSpan_any _ _ _ _).mono ?_; rintro e w1 ⟨rfl, hB1⟩; rw [Hs.out]; have H1 := Lib.hid hB1; clear hB1)
        go_roundw
        case rel => exact ⟨k + 1, by omega, by go_num, fun j hj => by
          rcases Nat.lt_or_ge j k with h | h
          · exact hall.out j h
          · obtain rfl : j = k := by omega
            rw [Hx.out]; exact Hs.out, (hBr.out.alloc hws _).trans (H1.out.mono (by simp; omega))⟩
        case measure => simp [intOf] <;> omega
      · have Hs := Lib.hid hs
        clear hs
        go_wp2_with (go_at_call 30; refine (validSpan_any _ _ _ _).mono ?_; rintro e w1 ⟨rfl, hB1⟩; rw [Hs.out]; have H1 := Lib.hid hB1; clear hB1)
        go_ret
        exact ⟨by rw [Hno.out Hs.out]; rfl, (hBr.out.alloc hws _).trans (H1.out.mono (by simp; omega))⟩
    · obtain rfl : k = ps.length := by omega
      have Hf := Lib.hid (rainsOk_yes hall.out)
      have hws := hBr.out.size
      clear hall hlt
      go_wp2_with (go_at_call 31; refine (within_any _ _ _ 1 [(ps.length : Int)] _ _ (Nat.le_refl _) (ints_lit _ (alloc_at0 _ _) rfl) (by simp)).mono ?_; rintro e w1 ⟨rfl, hB1⟩; have H1 := Lib.hid hB1; clear hB1)
      go_ret
      exact ⟨by rw [Hf.out]; rfl, (hBr.out.alloc hws _).trans (H1.out.mono (by simp; omega))⟩

theorem planOk_no {zs : List Int} {n : Nat} (h : zs.length ≠ n) : planOk zs n = false := by simp [planOk, h]
theorem planOk_yes {zs : List Int} {n : Nat} (h : zs.length = n) : planOk zs n = allIn 0 30 zs := by simp [planOk, h, allIn]

set_option maxHeartbeats 2000000 in
theorem validPlan_any (A : Option Addr) (cap : Nat) (zs : List Int) (n : Nat) (B : Nat) (w : World) (hB : B ≤ w.heap.size) (hV : Ints w B A zs) (hl : zs.length ≤ 9223372036854775807) :
    Calls Tryd.prog 21 #[.slice A zs.length cap, .int .i64 n] w fun e w' => e = .returned (.bool (planOk zs n)) ∧ Below w.heap.size w w' := by
  have HV := Lib.hid hV
  clear hV
  by_cases hn : zs.length = n
  · subst hn
    rw [planOk_yes rfl]
    go_enter Tryd.func21, Tryd.ntmps21
    go_wp2_with (first
      | (go_at_call 32; refine (upTo_any _ _).mono ?_; rintro e w1 ⟨rfl, hB1⟩; have H1 := Lib.hid hB1; clear hB1)
      | (go_at_call 31; refine (within_any _ _ A cap zs B _ (Nat.le_trans hB H1.out.size) (HV.out.below (H1.out.mono hB)) hl).mono ?_; rintro e w2 ⟨rfl, hB2⟩; have H2 := Lib.hid hB2; clear hB2))
    go_ret
    exact ⟨rfl, H1.out.trans (H2.out.mono H1.out.size)⟩
  · rw [planOk_no hn]
    have hd : ((zs.length : Int) == (n : Int)) = false := by rw [beq_eq_false_iff_ne]; omega
    clear hn
    go_enter Tryd.func21, Tryd.ntmps21
    go_wp2
    go_ret
    exact ⟨rfl, Below.refl _ _⟩

end Go.Proofs.YtanjolmelbipoaaDoor

namespace Go.Proofs.YtanjolmelbipoaaDoor
open Go.RowKit Go.Shelf

attribute [local go_sem] Oper.semAt_some

section
variable {F : Fence} {n : Nat} {P : Program} {ops : Array Oper} {rest : List Oper} {op : Oper} {a : Act} {w : World} {Q : Exit → Act → World → Prop}
theorem wpListIn_store_mid (ty : TypeId) (x y : Operand) (hgd : op.guard = none) (ho : op.op = .store ty x y) (hd : op.dst = none) {b o : Nat} (hx : a.eval x = .pointer (some ⟨b, o, none⟩)) {cs L : List Value} (hy : a.eval y = .agg cs.toArray)
    {t : TypeId} (hb : w.heap[b]? = some (.cells L.toArray t (0, 0))) (hfit : o + cs.length ≤ L.length) (h1 : ∀ v ∈ cs, v.oneCell' = true) (hty : RowTy P ty cs.length)
    (h : ∀ w', Put w w' b → w'.heap[b]? = some (.cells (splice L o cs).toArray t (0, 0)) → wpListIn F n P ops Q rest a w') : wpListIn F n P ops Q (op :: rest) a w := by
  refine wpListIn_plain hgd fun K hK => ?_
  unfold Oper.wpIn
  refine ⟨by simp [Oper.about, ho], ?_⟩
  rw [Oper.semAt_plain F _ _ (by rw [ho]; intro c hc'; cases hc')]
  unfold execOp
  simp only [ho, hx, hy, Sem.run_bind, Sem.run_pure, run_store_mid hb hfit h1 hty, Result.andThen_ok]
  refine hK _ _ ?_
  rw [show a.put op.dst undef = a from by rw [hd]; rfl]
  exact h _ (put_setCells b cs o w) (setCells_block b cs o w L hb hfit)
end

/-- What stands when k records have been gone through. -/
def atS (g : Gr) (d r : Nat) : Nat → List Int
  | 0 => zero7
  | k + 1 => stateP d r (start7 g) g.seas k
theorem atS_len {g : Gr} {d r : Nat} (hf : Fine g d r) : ∀ k, k ≤ g.seas.length + 1 → (atS g d r k).length = 7
  | 0, _ => rfl
  | k + 1, h => state_len hf (by omega)

theorem splice_culms (h : Hab) {c c' : List Int} (hc : c.length = 7) (hc' : c'.length = 7) : splice (gl h c) 6 (ints c') = gl h c' := by
  simp [splice, gl, hcells, ints, hc, hc']

/-- The blocks of atWork. -/
structure Two (A : World) (S : Nat) (h : Hab) (c : List Int) : Prop where
  res : A.heap[S + 1]? = some (.cells (List.replicate 13 (Value.int .i64 0)).toArray 71 (0, 0))
  cur : A.heap[S + 1 + 1]? = some (.cells (gl h c).toArray 71 (0, 0))
theorem Two.below {A B : World} {S : Nat} {h : Hab} {c : List Int} {n : Nat} (h2 : Two A S h c) (hb : Below n A B) (hn : S + 2 < n) : Two B S h c :=
  ⟨(hb.block _ (by omega)).trans h2.res, (hb.block _ (by omega)).trans h2.cur⟩

set_option maxRecDepth 100000 in
set_option maxHeartbeats 8000000 in
theorem atWork_any (g : Gr) (A1 : Option Addr) (c1 : Nat) (A2 : Option Addr) (c2 : Nat) (d r : Nat) (hf : Fine g d r) (B : Nat) (w : World) (hB : B ≤ w.heap.size) (hG : GrAt w B g A1 c1 A2 c2) :
    Calls Tryd.prog 23 #[grv g A1 c1 A2 c2] w fun e w' => e = .returned (gv g.hab (stateP d r (start7 g) g.seas g.seas.length)) ∧ Below w.heap.size w w' := by
  have HG := Lib.hid hG
  have HF := Lib.hid hf
  clear hG hf
  unfold grv
  refine (callsIn_wide (n := 4)).1 ?_
  refine callsIn_of_wp_marks Tryd.func23 rfl trivial ?_ rfl
  simp only [Tryd.ntmps23, List.size_toArray, List.length_cons, List.length_nil, Nat.reduceAdd, Nat.reduceSub, Array.replicate_succ, Array.replicate_zero, List.push_toArray, List.append_toArray, List.nil_append, List.cons_append]
  gi_wp2_with
    (refine ⟨trivial, ?_⟩
     gi_at_call 28
     refine (callsIn_wide.2 (records_any g A1 c1 A2 c2 _)).mono ?_
     rintro e w1 ⟨rfl, hw1⟩
     have H1 := Lib.hid hw1
     clear hw1)
  have hs1 : w1.heap.size = w.heap.size + 4 := by rw [H1.out]; simp
  have hb1 : Below w.heap.size w w1 := by
    rw [H1.out]
    exact ((((Below.refl _ w).alloc (Nat.le_refl _) _).alloc (by simp) _).alloc (by simp <;> omega) _).alloc (by simp <;> omega) _
  have hbox : w1.heap[w.heap.size + 1 + 1 + 1]? = some (.cells (gcs g A1 c1 A2 c2) 34 (0, 0)) := by
    rw [H1.out]
    have := alloc_at0 (((w.alloc (.cells (gcs g A1 c1 A2 c2) 34)).alloc (.cells (List.replicate 13 (Value.int .i64 0)).toArray 71)).alloc (.cells (gl g.hab zero7).toArray 71)) (.cells (gcs g A1 c1 A2 c2) 34)
    simp only [World.size_alloc] at this
    exact this
  have hT1 : Two w1 w.heap.size g.hab zero7 := by
    rw [H1.out]
    exact ⟨(Below.heap_alloc _ _ _ (by simp <;> omega)).trans (alloc3_at1 w _ _ _), (Below.heap_alloc _ _ _ (by simp <;> omega)).trans (alloc3_at2 w _ _ _)⟩
  have hG1 : GrAt w1 w.heap.size g A1 c1 A2 c2 := (HG.out.mono hB).below hb1
  refine wpIn_rangeX rfl (by omega) (gf := 44) (lb := #[.pointer (some ⟨w.heap.size + 1 + 1 + 1, 0, none⟩)]) rfl trivial (enters_of Tryd.func44 (by kernel_rfl) rfl)
    (records1 g A1 c1 A2 c2 d r HF.out (4 - 1) w.heap.size (w.heap.size + 1 + 1 + 1) (by omega) w1 (by omega) (by omega) hG1 hbox) (Below.refl _ _) (by omega) (by omega)
    (fun r' hr' => by
      obtain ⟨k, hk, rfl⟩ := List.mem_map.1 hr'
      rfl)
    (fun k => k = w.heap.size + 1 + 1) (fun k hk => by omega)
    (fun k A => Two A w.heap.size g.hab (atS g d r k) ∧ Below w.heap.size w A)
    (fun _ _ _ => False)
    (fun k A B hi hb => ⟨⟨(hb.block _ (by omega)).trans hi.1.res, (hb.block _ (by omega)).trans hi.1.cur⟩, hi.2.trans (hb.mono (by omega))⟩)
    (fun c k A B hi hb => hi)
    ⟨hT1, hb1⟩
    (fun k b a' A => ∃ b', b ≤ b' ∧ A.heap[b']? = some (.cells (recA g d r k).toArray 60 (0, 0)) ∧
      ∃ t11 t12, a' = { tmps := #[.agg (gcs g A1 c1 A2 c2), .pointer (some ⟨w.heap.size, 0, none⟩), .pointer (some ⟨w.heap.size + 1, 0, none⟩), .pointer (some ⟨w.heap.size + 1 + 1, 0, none⟩), undef, .pointer (some ⟨b', 0, none⟩),
        .pointer (some ⟨w.heap.size, 1, none⟩), .agg (hcells g.hab).toArray, .agg (gl g.hab zero7).toArray, .agg (gcs g A1 c1 A2 c2), .func (.func 44) #[] #[.pointer (some ⟨w.heap.size + 1 + 1 + 1, 0, none⟩)],
        t11, t12, undef, undef, undef, undef], defers := [] })
    (fun k b a' A B hx hj => by
      obtain ⟨b', hb, hc, ha⟩ := hx
      exact ⟨b', hb, (hj b' hb).trans hc, ha⟩) ?assign ?body ?done ?stop
  case assign =>
    rintro l k r' W1 K hr' ⟨_, _⟩ hK
    have hk : k < (rowsP g d r).length := (List.getElem?_eq_some_iff.1 hr').1
    rw [rowsP_len] at hk
    rw [rowsP_at (by omega)] at hr'
    obtain rfl : rowP g d r k = r' := Option.some.inj hr'
    have hlen := recA_len HF.out (show k ≤ g.seas.length by omega)
    rw [show rowP g d r k = #[.int .i64 (g.first + k), recK g d r k] from rfl, recK_A]
    have hrow : RowTy Tryd.prog 60 (recA g d r k).length := by rw [hlen]; exact rowRecord
    have hone : ∀ v ∈ recA g d r k, v.oneCell' = true := fun v hv => (Array.all_eq_true_iff_forall_mem.1 (recC_one (p := (shotK g k, cutK g k)) (x := ripeK g d r k) (a := goneK g d r k) (b := stateP d r (start7 g) g.seas k))) v (by simpa [recA] using hv)
    have hKK := Lib.hid hK
    have hsp : splice (List.replicate 17 (Value.int .i64 0)) 0 (recA g d r k) = recA g d r k := by simp [splice, hlen]
    have HO := Lib.hid (And.intro hlen (And.intro hrow (And.intro hone hsp)))
    clear hK hr' hlen hrow hone hsp
    gi_wp2_with
      (show wpListIn _ _ _ _ _ (Oper.mk none (Op.store _ (Operand.tmp 5) (Operand.tmp 12)) _ _ _ _ :: _) _ _
       refine wpListIn_store_mid 60 (.tmp 5) (.tmp 12) (L := List.replicate 17 (Value.int .i64 0)) rfl rfl rfl rfl rfl (alloc_at0 W1 _) (by rw [HO.out.1]; simp) HO.out.2.2.1 HO.out.2.1 ?_
       intro w3 hP3 hM3
       rw [HO.out.2.2.2] at hM3
       have H3 := Lib.hid (And.intro hP3 hM3)
       clear hP3 hM3)
    exact hKK.out _ _ (((Below.refl _ W1).alloc (Nat.le_refl _) _).trans (H3.out.1.below (Nat.le_refl _))) ⟨_, Nat.le_refl _, H3.out.2, _, _, rfl⟩
  case body =>
    rintro l k b r' a' W1 hr' hwb hbW' ⟨hT, hbel⟩ ⟨b', hbb, hc, t11, t12, rfl⟩
    have hk : k < (rowsP g d r).length := (List.getElem?_eq_some_iff.1 hr').1
    rw [rowsP_len] at hk
    have hlenA := atS_len HF.out k (by omega)
    have hlenS := state_len HF.out (show k ≤ g.seas.length by omega)
    have hlenR := recA_len HF.out (show k ≤ g.seas.length by omega)
    have hat : ∀ j v, (ints (stateP d r (start7 g) g.seas k))[j]? = some v → (recA g d r k).toArray[10 + j]? = some v := fun j v hj => by
      have hjl : j < (stateP d r (start7 g) g.seas k).length := by have := (List.getElem?_eq_some_iff.1 hj).1; simpa [ints] using this
      rw [List.getElem?_toArray]
      refine ((recC_at (goneK_len HF.out (show k ≤ g.seas.length by omega)) (k := j)).2 hjl).trans ?_
      rw [← hj]; exact (ints_atL _ j hjl).symm
    have hrow : RowTy Tryd.prog 58 (ints (stateP d r (start7 g) g.seas k)).length := by
      rw [show (ints (stateP d r (start7 g) g.seas k)).length = 7 by simp [ints, hlenS]]; exact rowCulms
    have hsp := splice_culms g.hab hlenA hlenS
    have hfit : 6 + (ints (stateP d r (start7 g) g.seas k)).length ≤ (gl g.hab (atS g d r k)).length := by rw [gl_len hlenA]; simp [ints, hlenS]
    have HH := Lib.hid (And.intro hT (And.intro hbel hc))
    have HO := Lib.hid (And.intro hat (And.intro hrow (And.intro hsp hfit)))
    clear hT hbel hc hr' hlenA hlenS hlenR hat hrow hsp hfit
    gi_wp2_with (first
      | (show wpListIn _ _ _ _ _ (Oper.mk (some 14) _ _ _ _ _ :: _) _ _
         refine wpListIn_load_blk 58 (.tmp 13) rfl rfl rfl HH.out.2.2 (ints (stateP d r (start7 g) g.seas k)) HO.out.1 HO.out.2.1 ?_)
      | (show wpListIn _ _ _ _ _ (Oper.mk none (Op.store _ (Operand.tmp 15) (Operand.tmp 14)) _ _ _ _ :: _) _ _
         refine wpListIn_store_mid 58 (.tmp 15) (.tmp 14) rfl rfl rfl rfl rfl HH.out.1.cur HO.out.2.2.2 (oneCells_ints _) HO.out.2.1 ?_
         intro w3 hP3 hM3
         rw [HO.out.2.2.1] at hM3
         have H3 := Lib.hid (And.intro hP3 hM3)
         clear hP3 hM3))
    exact ⟨H3.out.1.keepsX _ (.inl rfl), ⟨(H3.out.1.other _ (by omega)).trans HH.out.1.res, H3.out.2⟩, HH.out.2.1.trans (H3.out.1.below (by omega))⟩
  case done =>
    rintro D W3 rfl ⟨hT, hbel⟩ hD
    rw [hs1] at hD
    rw [rowsP_len] at hT
    have hlenS := state_len HF.out (Nat.le_refl g.seas.length)
    change Two W3 w.heap.size g.hab (stateP d r (start7 g) g.seas g.seas.length) at hT
    generalize hcE : stateP d r (start7 g) g.seas g.seas.length = c at hT hlenS ⊢
    have HE := Lib.hid hcE
    have hrow : RowTy Tryd.prog 71 (gl g.hab c).length := by rw [gl_len hlenS]; exact rowGrove
    have hlg := gl_len (h := g.hab) hlenS
    have hsp : splice (List.replicate 13 (Value.int .i64 0)) 0 (gl g.hab c) = gl g.hab c := by simp [splice, hlg]
    have HH := Lib.hid (And.intro hT (And.intro hbel hD))
    have HO := Lib.hid (And.intro hrow (And.intro hlg (And.intro hsp hlenS)))
    clear hT hbel hD hlenS hrow hlg hsp hcE
    gi_wp2_with (first
      | (show wpListIn _ _ _ _ _ (Oper.mk (some 16) _ _ _ _ _ :: _) _ _
         refine wpListIn_load_blk 71 (.tmp 3) rfl rfl rfl HH.out.1.cur (gl g.hab c) at0 HO.out.1 ?_)
      | (show wpListIn _ _ _ _ _ (Oper.mk none (Op.store _ (Operand.tmp 2) (Operand.tmp 16)) _ _ _ _ :: _) _ _
         refine wpListIn_store_mid 71 (.tmp 2) (.tmp 16) rfl rfl rfl rfl rfl HH.out.1.res (by rw [HO.out.2.1]; simp) (gl_one _ _) HO.out.1 ?_
         intro w4 hP4 hM4
         rw [HO.out.2.2.1] at hM4
         have H4 := Lib.hid (And.intro hP4 hM4)
         clear hP4 hM4))
    have hd2 := (H4.out.1.other (w.heap.size + 4) (by omega)).trans HH.out.2.2
    obtain ⟨l0, l1, l2, l3, l4, l5, l6, rfl⟩ := len7 HO.out.2.2.2
    have hres := fun i => cell_of_row _ (w.heap.size + 1) i _ _ _ ((World.putObj_heap_other (r := w.heap.size + 4) (o := .deferred none) (show w.heap.size + 1 ≠ w.heap.size + 4 by omega)).trans H4.out.2)
    simp only [gl, hcells, ints, List.map_cons, List.map_nil, List.cons_append, List.nil_append] at hres
    rw [hs1]
    refine ⟨by simp, .inl ⟨_, _, rfl, run_takeDeferred hd2, ?_⟩⟩
    refine ⟨gv g.hab [l0, l1, l2, l3, l4, l5, l6], by simp [results, Tryd.results23, go_sem, hres, gv, gcells, hcells, ints], by rw [HE.out], ?_⟩
    exact below_putObj (HH.out.2.1.trans (H4.out.1.below (by omega))) (by omega) _
  case stop =>
    rintro D c k W3 rfl hk hF hD
    exact hF.elim

end Go.Proofs.YtanjolmelbipoaaDoor

namespace Go.Proofs.YtanjolmelbipoaaDoor
open Go.RowKit

attribute [local go_sem] gives

def AheadPost (w : World) (l : List (Int × Int × Int × Int)) (e : Ending) (w' : World) : Prop :=
  ∃ A c, e = .returned (.slice A l.length c) ∧ l.length ≤ c ∧ Vals w' w'.heap.size A (quads l) ∧ Below w.heap.size w w'

theorem Tryd.info47 : (Tryd.prog.info? 47).map (fun i => (i.zero, i.size, i.bytes)) = some (some (.agg #[.int .i64 0, .int .i64 0, .int .i64 0, .int .i64 0]), 4, 32) := by kernel_rfl

theorem rainsOk_len {ps : List (Int × Int)} (h : rainsOk ps = true) : 1 ≤ ps.length ∧ ps.length ≤ 4 := by
  simp only [rainsOk, Bool.and_eq_true, inR_iff] at h
  omega
theorem rainsOk_at {ps : List (Int × Int)} (h : rainsOk ps = true) {k : Nat} (hk : k < ps.length) : 0 ≤ (ps[k]?.getD (0, 0)).1 ∧ (ps[k]?.getD (0, 0)).1 ≤ (ps[k]?.getD (0, 0)).2 ∧ (ps[k]?.getD (0, 0)).2 ≤ 1500 := by
  simp only [rainsOk, Bool.and_eq_true, List.all_eq_true] at h
  have := h.2 ps[k] (List.getElem_mem hk)
  simp only [inR_iff] at this
  simp only [hk, List.getElem?_eq_getElem, Option.getD_some]
  omega
theorem planOk_at {zs : List Int} {n : Nat} (h : planOk zs n = true) {k : Nat} (hk : k < zs.length) : 0 ≤ zs[k]?.getD 0 ∧ zs[k]?.getD 0 ≤ 30 := by
  simp only [planOk, Bool.and_eq_true, List.all_eq_true] at h
  have := h.2 zs[k] (List.getElem_mem hk)
  simp only [inR_iff] at this
  simpa [hk] using this
theorem planOk_len {zs : List Int} {n : Nat} (h : planOk zs n = true) : zs.length = n := by
  simp only [planOk, Bool.and_eq_true, decide_eq_true_eq] at h
  exact h.1

/-- Two groves side by side. -/
def endsL (h : Hab) (c c' : List Int) : List Value := gl h (pad7 c) ++ gl h (pad7 c')

theorem rowEnds : RowTy Tryd.prog 85 26 := ⟨⟨_, Tryd.underlying85, rfl⟩, by kernel_rfl⟩

theorem endsL_len (h : Hab) {c c' : List Int} (hc : c.length ≤ 7) (hc' : c'.length ≤ 7) : (endsL h c c').length = 26 := by
  simp [endsL, gl_len (pad7_len hc), gl_len (pad7_len hc')]
theorem endsL_at0 (h : Hab) {c c' : List Int} (j : Nat) (v : Value) (hj : (gl h (pad7 c))[j]? = some v) : (endsL h c c').toArray[0 + j]? = some v := by
  have := (List.getElem?_eq_some_iff.1 hj).1
  rw [Nat.zero_add, List.getElem?_toArray]
  unfold endsL
  rw [List.getElem?_append_left this]; exact hj
theorem endsL_at1 (h : Hab) {c c' : List Int} (hc : c.length ≤ 7) (j : Nat) (v : Value) (hj : (gl h (pad7 c'))[j]? = some v) : (endsL h c c').toArray[13 + j]? = some v := by
  have hl := gl_len (h := h) (pad7_len hc)
  rw [List.getElem?_toArray]
  unfold endsL
  rw [List.getElem?_append_right (by omega), hl, show 13 + j - 13 = j by omega]; exact hj
theorem endsL_set0 (h : Hab) {c c' d : List Int} (hc : c.length ≤ 7) (hd : d.length ≤ 7) : splice (endsL h c c') 0 (gl h (pad7 d)) = endsL h d c' := by
  have h1 := gl_len (h := h) (pad7_len hc)
  have h2 := gl_len (h := h) (pad7_len hd)
  simp only [splice, endsL, h2]
  rw [List.drop_append_of_le_length (by omega), List.drop_of_length_le (by omega)]
  simp
theorem endsL_set1 (h : Hab) {c c' d : List Int} (hc : c.length ≤ 7) (hc' : c'.length ≤ 7) (hd : d.length ≤ 7) : splice (endsL h c c') 13 (gl h (pad7 d)) = endsL h c d := by
  have h1 := gl_len (h := h) (pad7_len hc)
  have h2 := gl_len (h := h) (pad7_len hd)
  have h3 := gl_len (h := h) (pad7_len hc')
  simp only [splice, endsL, h2]
  rw [List.take_append_of_le_length (by omega), List.take_of_length_le (by omega), List.drop_of_length_le (by simp; omega)]
  simp

theorem ends_built (h : Hab) {p q : List Int} (hp : p.length = 7) (hq : q.length = 7) : Tryd.prog.built 85 [(0, .agg (gl h p).toArray), (1, .agg (gl h q).toArray)] = some (gl h p ++ gl h q).toArray := by
  obtain ⟨a0, a1, a2, a3, a4, a5, a6, rfl⟩ := len7 hp
  obtain ⟨b0, b1, b2, b3, b4, b5, b6, rfl⟩ := len7 hq
  kernel_rfl

theorem wpList_build2 {P : Program} {ops : Array Oper} {rest : List Oper} {op : Oper} {a : Act} {w : World} {Q : Exit → Act → World → Prop} (ty : TypeId) (x y : Operand) (hgd : op.guard = none) (ho : op.op = .build ty #[(0, x), (1, y)]) {u v : Value} (hx : a.eval x = u) (hy : a.eval y = v)
    {cells : Array Value} (hb : P.built ty [(0, u), (1, v)] = some cells) (h : wpList P ops Q rest (a.put op.dst (.agg cells)) w) : wpList P ops Q (op :: rest) a w := by
  refine wpList_plain hgd fun K hK => ?_
  have hrun := run_build (P := P) w ty #[(0, u), (1, v)] cells hb
  unfold Oper.wp execOp
  simp only [ho, List.map_toArray, List.map_cons, List.map_nil, hx, hy, hrun, Sem.run_bind, Sem.run_pure, Result.andThen_ok]
  exact hK _ _ h

/-- Where a round of look's inner loop is: the groves' block is E or E', those of the shoots and of what stands X or X', Y or Y'; S: the first block of the call; the round began at wr. -/
structure LC (w wr : World) (E E' R X X' Y Y' : List Value) (W : World) : Prop where
  hE : W.heap[w.heap.size + 1]? = some (.cells E.toArray 85 (0, 0)) ∨ W.heap[w.heap.size + 1]? = some (.cells E'.toArray 85 (0, 0))
  hR : W.heap[w.heap.size + 1 + 1]? = some (.cells R.toArray 86 (0, 0))
  hX : W.heap[wr.heap.size + 1]? = some (.cells X.toArray 86 (0, 0)) ∨ W.heap[wr.heap.size + 1]? = some (.cells X'.toArray 86 (0, 0))
  hY : W.heap[wr.heap.size + 1 + 1]? = some (.cells Y.toArray 86 (0, 0)) ∨ W.heap[wr.heap.size + 1 + 1]? = some (.cells Y'.toArray 86 (0, 0))
  bel : Below w.heap.size w W
  kx : KeepsX (fun j => j = w.heap.size + 1 ∨ wr.heap.size ≤ j) wr W
  lw : w.heap.size + 3 ≤ wr.heap.size
  lt : wr.heap.size + 3 ≤ W.heap.size

/-- A step of it: what has turned stays turned; of the new blocks one that holds Z may come to hold L. -/
structure LS (w wr : World) (n₀ : Nat) (E' X' Y' : List Value) (Z L : Obj) (W W' : World) : Prop where
  size : W.heap.size ≤ W'.heap.size
  same : ∀ k, k < W.heap.size → k ≠ w.heap.size + 1 → k ≠ wr.heap.size + 1 → k ≠ wr.heap.size + 1 + 1 → W'.heap[k]? = W.heap[k]? ∨ (n₀ ≤ k ∧ W.heap[k]? = some Z ∧ W'.heap[k]? = some L)
  sE : W.heap[w.heap.size + 1]? = some (.cells E'.toArray 85 (0, 0)) → W'.heap[w.heap.size + 1]? = some (.cells E'.toArray 85 (0, 0))
  sX : W.heap[wr.heap.size + 1]? = some (.cells X'.toArray 86 (0, 0)) → W'.heap[wr.heap.size + 1]? = some (.cells X'.toArray 86 (0, 0))
  sY : W.heap[wr.heap.size + 1 + 1]? = some (.cells Y'.toArray 86 (0, 0)) → W'.heap[wr.heap.size + 1 + 1]? = some (.cells Y'.toArray 86 (0, 0))

section
variable {w wr : World} {E E' R X X' Y Y' : List Value} {n₀ : Nat} {Z L : Obj} {W W' : World}
theorem LS.refl (W : World) : LS w wr n₀ E' X' Y' Z L W W := ⟨Nat.le_refl _, fun _ _ _ _ _ => .inl rfl, id, id, id⟩
theorem LS.grows (h : Grows W W') : LS w wr n₀ E' X' Y' Z L W W' :=
  ⟨h.size, fun k hk _ _ _ => .inl (h.block k hk), fun e => (h.block _ (lt_of_heap e)).trans e, fun e => (h.block _ (lt_of_heap e)).trans e, fun e => (h.block _ (lt_of_heap e)).trans e⟩
theorem LC.next (h : LC w wr E E' R X X' Y Y' W) (hg : Grows W W') : LC w wr E E' R X X' Y Y' W' :=
  ⟨h.hE.imp (fun e => (hg.block _ (lt_of_heap e)).trans e) (fun e => (hg.block _ (lt_of_heap e)).trans e), (hg.block _ (lt_of_heap h.hR)).trans h.hR,
    h.hX.imp (fun e => (hg.block _ (lt_of_heap e)).trans e) (fun e => (hg.block _ (lt_of_heap e)).trans e), h.hY.imp (fun e => (hg.block _ (lt_of_heap e)).trans e) (fun e => (hg.block _ (lt_of_heap e)).trans e),
    h.bel.trans (hg.mono (by have := h.lw; have := h.lt; omega)), h.kx.trans ⟨hg.size, fun k hk _ => hg.block k hk⟩, h.lw, Nat.le_trans h.lt hg.size⟩
/-- One of the three blocks is stored into. -/
theorem LC.putE (h : LC w wr E E' R X X' Y Y' W) (hp : Put W W' (w.heap.size + 1)) (hn : W'.heap[w.heap.size + 1]? = some (.cells E'.toArray 85 (0, 0))) : LC w wr E E' R X X' Y Y' W' ∧ LS w wr n₀ E' X' Y' Z L W W' := by
  have hlw := h.lw
  refine ⟨⟨.inr hn, (hp.other _ (by omega)).trans h.hR, ?_, ?_, h.bel.trans (hp.below (by omega)), h.kx.trans (hp.keepsX _ (.inl rfl)), h.lw, by rw [hp.size]; exact h.lt⟩, ⟨Nat.le_of_eq hp.size.symm, fun k _ h1 _ _ => .inl (hp.other k h1), fun _ => hn, fun e => (hp.other _ (by omega)).trans e, fun e => (hp.other _ (by omega)).trans e⟩⟩
  · rw [hp.other _ (by omega)]; exact h.hX
  · rw [hp.other _ (by omega)]; exact h.hY
theorem LC.putX (h : LC w wr E E' R X X' Y Y' W) (hp : Put W W' (wr.heap.size + 1)) (hn : W'.heap[wr.heap.size + 1]? = some (.cells X'.toArray 86 (0, 0))) : LC w wr E E' R X X' Y Y' W' ∧ LS w wr n₀ E' X' Y' Z L W W' := by
  have hlw := h.lw
  refine ⟨⟨?_, (hp.other _ (by omega)).trans h.hR, .inr hn, ?_, h.bel.trans (hp.below (by omega)), h.kx.trans (hp.keepsX _ (.inr (by omega))), h.lw, by rw [hp.size]; exact h.lt⟩, ⟨Nat.le_of_eq hp.size.symm, fun k _ _ h1 _ => .inl (hp.other k h1), fun e => (hp.other _ (by omega)).trans e, fun _ => hn, fun e => (hp.other _ (by omega)).trans e⟩⟩
  · rw [hp.other _ (by omega)]; exact h.hE
  · rw [hp.other _ (by omega)]; exact h.hY
theorem LC.putY (h : LC w wr E E' R X X' Y Y' W) (hp : Put W W' (wr.heap.size + 1 + 1)) (hn : W'.heap[wr.heap.size + 1 + 1]? = some (.cells Y'.toArray 86 (0, 0))) : LC w wr E E' R X X' Y Y' W' ∧ LS w wr n₀ E' X' Y' Z L W W' := by
  have hlw := h.lw
  refine ⟨⟨?_, (hp.other _ (by omega)).trans h.hR, ?_, .inr hn, h.bel.trans (hp.below (by omega)), h.kx.trans (hp.keepsX _ (.inr (by omega))), h.lw, by rw [hp.size]; exact h.lt⟩, ⟨Nat.le_of_eq hp.size.symm, fun k _ _ _ h1 => .inl (hp.other k h1), fun e => (hp.other _ (by omega)).trans e, fun e => (hp.other _ (by omega)).trans e, fun _ => hn⟩⟩
  · rw [hp.other _ (by omega)]; exact h.hE
  · rw [hp.other _ (by omega)]; exact h.hX
/-- A new block comes to hold L. -/
theorem LC.putG (h : LC w wr E E' R X X' Y Y' W) {g : Nat} (hp : Put W W' g) (hg : wr.heap.size + 3 ≤ g) (h0 : n₀ ≤ g) (hz : W.heap[g]? = some Z ∨ W.heap[g]? = some L) (hn : W'.heap[g]? = some L) : LC w wr E E' R X X' Y Y' W' ∧ LS w wr n₀ E' X' Y' Z L W W' := by
  have hlw := h.lw
  refine ⟨⟨?_, (hp.other _ (by omega)).trans h.hR, ?_, ?_, h.bel.trans (hp.below (by omega)), h.kx.trans (hp.keepsX _ (.inr (by omega))), h.lw, by rw [hp.size]; exact h.lt⟩, ⟨Nat.le_of_eq hp.size.symm, fun k _ _ _ _ => ?_, fun e => (hp.other _ (by omega)).trans e, fun e => (hp.other _ (by omega)).trans e, fun e => (hp.other _ (by omega)).trans e⟩⟩
  · rw [hp.other _ (by omega)]; exact h.hE
  · rw [hp.other _ (by omega)]; exact h.hX
  · rw [hp.other _ (by omega)]; exact h.hY
  · by_cases e : k = g
    · subst e
      rcases hz with hz | hz
      · exact .inr ⟨h0, hz, hn⟩
      · exact .inl (by rw [hz, hn])
    · exact .inl (hp.other k e)

/-- The new grove's block. -/
def NewG (m n₀ : Nat) (Z L : Obj) : Fact := fun v W => ∃ g, v = .pointer (some ⟨g, 0, none⟩) ∧ m ≤ g ∧ n₀ ≤ g ∧ (W.heap[g]? = some Z ∨ W.heap[g]? = some L)
def OldG (m n₀ : Nat) (L : Obj) : Fact := fun v W => ∃ g, v = .pointer (some ⟨g, 0, none⟩) ∧ m ≤ g ∧ n₀ ≤ g ∧ W.heap[g]? = some L
theorem keepL (hs : LS w wr n₀ E' X' Y' Z L W W') {g : Nat} (hlw : w.heap.size + 3 ≤ wr.heap.size) (hm : wr.heap.size + 3 ≤ g) (h : W.heap[g]? = some L) : W'.heap[g]? = some L := by
  rcases hs.same g (lt_of_heap h) (by omega) (by omega) (by omega) with e | ⟨_, _, e⟩
  · exact e.trans h
  · exact e
theorem keepZ (hs : LS w wr n₀ E' X' Y' Z L W W') {g : Nat} (hlw : w.heap.size + 3 ≤ wr.heap.size) (hm : wr.heap.size + 3 ≤ g) (h : W.heap[g]? = some Z ∨ W.heap[g]? = some L) : W'.heap[g]? = some Z ∨ W'.heap[g]? = some L := by
  rcases h with h | h
  · rcases hs.same g (lt_of_heap h) (by omega) (by omega) (by omega) with e | ⟨_, _, e⟩
    · exact .inl (e.trans h)
    · exact .inr e
  · exact .inr (keepL hs hlw hm h)
end

/-- What has been told so far. -/
structure OutAt (w : World) (h : Hab) (d r b : Nat) (c0 : List Int) (ps : List (Int × Int)) (zs : List Int) (k : Nat) (A : Option Addr) (c : Nat) (out : List (Int × Int × Int × Int)) (lo hi : List Int) (M : Int) (W : World) : Prop where
  own : W.ownsRow (w.heap.size + 3) 47 4 (.slice A out.length c) out.length (quads out)
  split : aheadL h r b c0 c0 (ps.zip zs) = out ++ aheadL h r b lo hi ((ps.zip zs).drop k)
  yr : Yr h d lo hi M
  mb : M ≤ 30 * 11 ^ k
  len : out.length = k
  hE : W.heap[w.heap.size + 1]? = some (.cells (endsL h lo hi).toArray 85 (0, 0))
  hR : W.heap[w.heap.size + 1 + 1]? = some (.cells (ints [h.lo, h.hi]).toArray 86 (0, 0))
  bel : Below w.heap.size w W
  lw : w.heap.size + 3 ≤ W.heap.size

theorem pow11 {k : Nat} (hk : k < 4) : (30 : Int) * 11 ^ k ≤ 39930 := by
  match k, hk with
  | 0, _ => decide
  | 1, _ => decide
  | 2, _ => decide
  | 3, _ => decide

theorem info3s : (Tryd.prog.info? 3).map (·.size) = some 1 := by kernel_rfl

theorem own_cap_any {w : World} {base : Nat} {e : TypeId} {size n cap : Nat} {A : Option Addr} {xs : List Value} (h : w.ownsRow base e size (.slice A n cap) n xs) : n ≤ cap := by
  rcases h.2 with ⟨h0, _⟩ | ⟨g', cap', cur, hv, hb, hh, h3, _⟩
  · simp only [Value.slice.injEq] at h0
    omega
  · simp only [Value.slice.injEq] at hv
    omega

theorem own_keeps {w w' : World} {base : Nat} {e : TypeId} {size n : Nat} {v : Value} {xs : List Value} {X : Nat → Prop} (h : w.ownsRow base e size v n xs) (hk : KeepsX X w w') (hx : ∀ k, base ≤ k → k < w.heap.size → ¬ X k) : w'.ownsRow base e size v n xs := by
  refine ⟨h.1, ?_⟩
  rcases h.2 with h2 | ⟨g, cap, cur, hv, hb, hh, h3⟩
  · exact .inl h2
  · exact .inr ⟨g, cap, cur, hv, hb, (hk.same g (lt_of_heap hh) (hx g hb (lt_of_heap hh))).trans hh, h3⟩

theorem LC.drew {w wr : World} {E E' R X X' Y Y' : List Value} {W : World} (h : LC w wr E E' R X X' Y Y' W) : LC w wr E E' R X X' Y Y' W.drew := h.next (Below.refl _ _).drew
theorem LC.one {w wr : World} {E E' R X X' Y Y' : List Value} {W : World} (h : LC w wr E E' R X X' Y Y' W) (hE : W.heap[w.heap.size + 1]? = some (.cells E'.toArray 85 (0, 0))) (hX : W.heap[wr.heap.size + 1]? = some (.cells X'.toArray 86 (0, 0))) (hY : W.heap[wr.heap.size + 1 + 1]? = some (.cells Y'.toArray 86 (0, 0)))
    (E2 X2 Y2 : List Value) : LC w wr E' E2 R X' X2 Y' Y2 W := ⟨.inl hE, h.hR, .inl hX, .inl hY, h.bel, h.kx, h.lw, h.lt⟩

theorem aheadL_yes {h : Hab} {r b : Nat} {lo hi : List Int} {x1 x2 n : Int} {rest : List ((Int × Int) × Int)} (hok : okY r h.keep lo (shotsL b lo h.lo x1) n = true) :
    aheadL h r b lo hi (((x1, x2), n) :: rest) = [(shotsL b lo h.lo x1, shotsL b hi h.hi x2, (yearL lo (shotsL b lo h.lo x1) n).sum, (yearL hi (shotsL b hi h.hi x2) n).sum)] ++ aheadL h r b (yearL lo (shotsL b lo h.lo x1) n) (yearL hi (shotsL b hi h.hi x2) n) rest := by
  simp [aheadL, hok]
theorem aheadL_no {h : Hab} {r b : Nat} {lo hi : List Int} {x1 x2 n : Int} {rest : List ((Int × Int) × Int)} (hok : okY r h.keep lo (shotsL b lo h.lo x1) n = false) : aheadL h r b lo hi (((x1, x2), n) :: rest) = [] := by
  simp [aheadL, hok]

/-- Where look is behind its inner loop. -/
structure L16 (w : World) (T : Nat) (E R X Y : List Value) (W : World) : Prop where
  hE : W.heap[w.heap.size + 1]? = some (.cells E.toArray 85 (0, 0))
  hR : W.heap[w.heap.size + 1 + 1]? = some (.cells R.toArray 86 (0, 0))
  hX : W.heap[T + 1]? = some (.cells X.toArray 86 (0, 0))
  hY : W.heap[T + 1 + 1]? = some (.cells Y.toArray 86 (0, 0))
  bel : Below w.heap.size w W
  lw : w.heap.size + 3 ≤ T
  lt : T + 3 ≤ W.heap.size
theorem L16.next {w : World} {T : Nat} {E R X Y : List Value} {W W' : World} (h : L16 w T E R X Y W) (hg : Grows W W') : L16 w T E R X Y W' :=
  ⟨(hg.block _ (lt_of_heap h.hE)).trans h.hE, (hg.block _ (lt_of_heap h.hR)).trans h.hR, (hg.block _ (lt_of_heap h.hX)).trans h.hX, (hg.block _ (lt_of_heap h.hY)).trans h.hY, h.bel.trans (hg.mono (by have := h.lw; have := h.lt; omega)), h.lw, Nat.le_trans h.lt hg.size⟩
theorem L16.app {w : World} {T : Nat} {E R X Y : List Value} {W W' : World} {ob : Option Nat} (h : L16 w T E R X Y W) (hob : ∀ k, ob = some k → w.heap.size + 3 ≤ k ∧ k < T) (hg : W.grownBy W' ob) : L16 w T E R X Y W' := by
  have ne : ∀ j, (j < w.heap.size + 3 ∨ T ≤ j) → some j ≠ ob := fun j hj e => by have := hob j e.symm; omega
  exact ⟨(hg.block _ (lt_of_heap h.hE) (ne _ (by omega))).trans h.hE, (hg.block _ (lt_of_heap h.hR) (ne _ (by omega))).trans h.hR, (hg.block _ (lt_of_heap h.hX) (ne _ (by omega))).trans h.hX, (hg.block _ (lt_of_heap h.hY) (ne _ (by omega))).trans h.hY,
    h.bel.grown hg (by have := h.lw; have := h.lt; omega) (fun k e => by have := hob k e; omega), h.lw, Nat.le_trans h.lt hg.size⟩

/-- A step of its region: the operation that writes slot x may grow the row ob. -/
def SApp (x : Nat) (ob : Option Nat) (o : Oper) (W W' : World) : Prop := (o.dst ≠ some x → Grows W W') ∧ W.grownBy W' ob
theorem SApp.of {x : Nat} {ob : Option Nat} {o : Oper} {W W' : World} (h : Grows W W') : SApp x ob o W W' := ⟨fun _ => h, ⟨h.os, h.tape, h.output, h.size, fun k hk _ => h.block k hk⟩⟩
theorem SApp.refl (x : Nat) (ob : Option Nat) (o : Oper) (W : World) : SApp x ob o W W := .of (Grows.refl W)
theorem own_grows {W W' : World} {base : Nat} {e : TypeId} {size n : Nat} {v : Value} {xs : List Value} (h : W.ownsRow base e size v n xs) (hg : Grows W W') : W'.ownsRow base e size v n xs :=
  own_keeps (X := fun _ => False) h ⟨hg.size, fun k hk _ => hg.block k hk⟩ (fun _ _ _ h => h)
def RowIs (base : Nat) (e : TypeId) (size n : Nat) (xs : List Value) : Fact := fun v W => ∃ A c, v = .slice A n c ∧ W.ownsRow base e size v n xs

theorem gives_app {P : Program} {a : Act} {w : World} {o : Oper} {R : Value → World → Prop} (s x : Operand) (t : TypeId)
    (ho : o.op = .call { callee := .builtin .append, args := #[s, x], argTypes := #[t, t] })
    (base : Nat) (e : TypeId) (i : TypeInfo) (z : Value) (size bytes : Nat) (ht : P.underlying t = some (.slice e)) (hi : P.info? e = some i) (hz : i.zero = some z)
    (hsize : i.size = size) (hby : i.bytes = bytes) (hzs : z.cells.size = size) (hsz : 0 < size)
    {v : Value} {n : Nat} {xs : List Value} (hs : a.eval s = v) (hown : w.ownsRow base e size v n xs)
    {B : Nat} {A : Option Addr} {m c : Nat} {vs : List Value} (hx : a.eval x = .slice A m c) (hr : Vals w B A vs) (hl : vs.length = m * size) (h1 : ∀ u ∈ vs, u.oneCell' = true)
    (h63 : n + m ≤ maxLen) (hbytes : (n + m) * bytes ≤ 140737488355328) (hbase : base ≤ w.heap.size)
    (h : ∀ v' w', w'.ownsRow base e size v' (n + m) (xs ++ vs) → w.grownBy w' v.ownBlock → R v' w') : gives P o a w R := by
  obtain ⟨v', w', hrun, h2, h3, h4⟩ := run_app (P := P) w base t o.type e i z size bytes ht hi hz hsize hby hzs hsz v n xs hown B A m c vs hr hl h1 h63 hbytes hbase
  unfold gives execOp
  simp only [ho, resolve, invoke, builtin, Sem.run_bind, Sem.run_pure, Result.andThen_ok, List.map_toArray, List.map_cons, List.map_nil, hs, hx, hrun]
  exact h v' w' h2 h3

theorem rowTwo : RowTy Tryd.prog 86 2 := ⟨⟨_, Tryd.underlying86, rfl⟩, by kernel_rfl⟩

theorem own_slice {w : World} {base : Nat} {e : TypeId} {size n : Nat} {v : Value} {xs : List Value} (h : w.ownsRow base e size v n xs) : ∃ A c, v = .slice A n c := by
  have h0 := h.1
  rcases h.2 with ⟨rfl, h2⟩ | ⟨g, cap, cur, hv, _⟩
  · subst h2
    exact ⟨none, 0, by simp at h0; rcases h0 with h0 | h0 <;> simp_all⟩
  · exact ⟨_, _, hv⟩

/-- One way's step of a year: the least one (i = 0), or the greatest one (i = 1). -/
structure In1 (h : Hab) (r : Nat) (i : Nat) (E E' : List Value) (x1 x2 n : Int) (X X' Y Y' : List Value) (p q l p' : List Int) (rate fall s t : Int) (ok : Bool) : Prop where
  at_ : ∀ j v, (gl h p)[j]? = some v → E.toArray[i * 13 + j]? = some v
  set_ : splice E (i * 13) (gl h p') = E'
  len : E.length = 26
  pl : p.length = 7
  p'l : p'.length = 7
  ll : l.length = 7
  rt : (ints [h.lo, h.hi]).toArray[i]? = some (.int .i64 rate)
  ix : ∀ W, (Instr.index 86 (.agg #[.int .i64 x1, .int .i64 x2]) (.int .i64 (i : Int))).run Tryd.prog W = .ok (.int .i64 fall) W
  xs : X.set i (.int .i64 s) = X'
  xl : X.length = 2
  xl' : X'.length = 2
  xa : X'.toArray[i]? = some (.int .i64 s)
  ys : Y.set i (.int .i64 t) = Y'
  yl : Y.length = 2
  yl' : Y'.length = 2
  ys' : Y'.set i (.int .i64 t) = Y'
  xs' : X'.set i (.int .i64 s) = X'
  es' : splice E' (i * 13) (gl h p') = E'
  el' : E'.length = 26
  sh : ∀ W, Calls Tryd.prog 33 #[gv h p, .int .i64 rate, .int .i64 fall] W fun e w' => e = .returned (.int .i64 s) ∧ Below W.heap.size W w'
  la : ∀ W, Calls Tryd.prog 34 #[gv h p, .int .i64 s] W fun e w' => e = .returned (gv h q) ∧ Below W.heap.size W w'
  sp : ∀ W, Calls Tryd.prog 35 #[gv h q, .int .i64 n] W fun e w' => e = .returned (.tuple #[gv h l, .bool ok]) ∧ Below W.heap.size W w'
  st : ∀ W, Calls Tryd.prog 36 #[gv h p'] W fun e w' => e = .returned (.int .i64 t) ∧ Below W.heap.size W w'
  lp : ok = true → l = p'

/-- .. of some culms. -/
theorem in1_of {h : Hab} {d r b : Nat} (H : HabOk h d r b) {c : List Int} (hc : c.length = d + 1) {M : Int} (hb : Bnd 0 M c) (hM : M ≤ 39930) (m0 : 30 ≤ M) {rate fall n : Int} (r0 : 0 ≤ rate) (r1 : rate ≤ 1000) (f0 : 0 ≤ fall) (f1 : fall ≤ 1500) (n0 : 0 ≤ n) (n1 : n ≤ 30) :
    (∀ W, Calls Tryd.prog 33 #[gv h (pad7 c), .int .i64 rate, .int .i64 fall] W fun e w' => e = .returned (.int .i64 (shotsL b c rate fall)) ∧ Below W.heap.size W w') ∧
    (∀ W, Calls Tryd.prog 34 #[gv h (pad7 c), .int .i64 (shotsL b c rate fall)] W fun e w' => e = .returned (gv h (pad7 (nowL c (shotsL b c rate fall)))) ∧ Below W.heap.size W w') ∧
    (∀ W, Calls Tryd.prog 35 #[gv h (pad7 (nowL c (shotsL b c rate fall))), .int .i64 n] W fun e w' => e = .returned (.tuple #[gv h (cutTo (pad7 (nowL c (shotsL b c rate fall))) n d (d - r + 1)).1, .bool (okY r h.keep c (shotsL b c rate fall) n)]) ∧ Below W.heap.size W w') ∧
    (∀ W, Calls Tryd.prog 36 #[gv h (pad7 (yearL c (shotsL b c rate fall) n))] W fun e w' => e = .returned (.int .i64 (yearL c (shotsL b c rate fall) n).sum) ∧ Below W.heap.size W w') ∧
    (okY r h.keep c (shotsL b c rate fall) n = true → (cutTo (pad7 (nowL c (shotsL b c rate fall))) n d (d - r + 1)).1 = pad7 (yearL c (shotsL b c rate fall) n)) ∧
    (cutTo (pad7 (nowL c (shotsL b c rate fall))) n d (d - r + 1)).1.length = 7 ∧ (yearL c (shotsL b c rate fall) n).length = d + 1 := by
  have hd := H.d6
  have hbd := H.bd
  have hs := shotsL_bnd (b := b) hb (by omega) r0 r1 f0 f1 (by omega)
  have hb' : Bnd 0 (11 * M) c := fun k hk => by have := hb k hk; omega
  have h7 := pad7_len (l := c) (by omega)
  have hp7 := pad7_bnd hb (by omega)
  have e1 : shotsL b c rate fall = ((pad7 c).take (b + 1)).sum * rate * fall / 1000000 := by rw [pad7_take (by omega)]; rfl
  have hnl := nowL_len c (shotsL b c rate fall)
  have hn7 := pad7_len (l := nowL c (shotsL b c rate fall)) (by omega)
  have hnb := nowL_bnd hb' hs.1 hs.2
  have hyl := yearL_len c (shotsL b c rate fall) n
  have hyb := yearL_bnd hb' (by omega) hs.1 hs.2 n0 (show n ≤ 11 * M by omega)
  have hcut := okCut_pad H (n := n) hc hb' hs.1 hs.2 n0 (by omega) (by omega)
  refine ⟨fun W => ?_, fun W => ?_, fun W => ?_, fun W => ?_, hcut.2, ?_, by omega⟩
  · have := shoots_any h b H.hb (by omega) (pad7 c) h7 (fun k hk => by have := hp7 k hk; omega) rate fall r0 r1 f0 f1 W
    rwa [← e1] at this
  · have := later_any h d H.hd hd (pad7 c) h7 (shotsL b c rate fall) W
    rwa [laterP_pad' hc hd] at this
  · have := spared_any h d r H.hd H.hr H.r1 H.rd hd (pad7 (nowL c (shotsL b c rate fall))) hn7 (11 * M) (by omega) (pad7_bnd hnb (by omega)) n n0 (by omega) W
    rwa [hcut.1] at this
  · have := standing_any h (pad7 (yearL c (shotsL b c rate fall) n)) (pad7_len (by omega)) (fun k hk => by have := pad7_bnd hyb (by omega) k hk; omega) W
    rwa [pad7_sum] at this
  · rw [(cutTo_len _ _ _ _).1, hn7]

/-- The rows of the three blocks as the inner loop goes. -/
def Ei (h : Hab) (lo hi lo' hi' : List Int) : Nat → List Value
  | 0 => endsL h lo hi
  | 1 => endsL h lo' hi
  | _ => endsL h lo' hi'
def Xi (s1 s2 : Int) : Nat → List Value
  | 0 => ints [0, 0]
  | 1 => ints [s1, 0]
  | _ => ints [s1, s2]

theorem in1_any {h : Hab} {d r b : Nat} (H : HabOk h d r b) {lo hi : List Int} {M : Int} (Y : Yr h d lo hi M) (hM : M ≤ 39930) {x1 x2 n : Int} (p0 : 0 ≤ x1) (p1 : x1 ≤ x2) (p2 : x2 ≤ 1500) (n0 : 0 ≤ n) (n1 : n ≤ 30) {i : Nat} (hi2 : i < 2)
    (hok : 0 < i → okY r h.keep lo (shotsL b lo h.lo x1) n = true) :
    ∃ p q l p' rate fall s t ok, In1 h r i (Ei h lo hi (yearL lo (shotsL b lo h.lo x1) n) (yearL hi (shotsL b hi h.hi x2) n) i) (Ei h lo hi (yearL lo (shotsL b lo h.lo x1) n) (yearL hi (shotsL b hi h.hi x2) n) (i + 1)) x1 x2 n
      (Xi (shotsL b lo h.lo x1) (shotsL b hi h.hi x2) i) (Xi (shotsL b lo h.lo x1) (shotsL b hi h.hi x2) (i + 1)) (Xi (yearL lo (shotsL b lo h.lo x1) n).sum (yearL hi (shotsL b hi h.hi x2) n).sum i) (Xi (yearL lo (shotsL b lo h.lo x1) n).sum (yearL hi (shotsL b hi h.hi x2) n).sum (i + 1)) p q l p' rate fall s t ok ∧
      (ok = true → okY r h.keep lo (shotsL b lo h.lo x1) n = true) ∧ (ok = false → okY r h.keep lo (shotsL b lo h.lo x1) n = false) := by
  have hd := H.d6
  have m0 := Y.m0
  have hl0 := H.l0
  have hlh := H.lh
  have hh1 := H.h1
  have ll := Y.ll
  have lh := Y.lh
  have yl1 := yearL_len lo (shotsL b lo h.lo x1) n
  have yl2 := yearL_len hi (shotsL b hi h.hi x2) n
  rcases (by omega : i = 0 ∨ i = 1) with rfl | rfl
  · obtain ⟨a1, a2, a3, a4, a5, a6, a7⟩ := in1_of H ll Y.bl hM m0 (rate := h.lo) (fall := x1) (n := n) (by omega) (by omega) p0 (by omega) n0 n1
    refine ⟨_, _, _, _, _, _, _, _, _, ⟨?_, ?_, ?_, ?_, ?_, a6, rfl, fun _ => by kernel_rfl, rfl, rfl, rfl, rfl, rfl, rfl, rfl, rfl, rfl, ?_, ?_, a1, a2, a3, a4, a5⟩, id, id⟩
    · exact fun j v hj => endsL_at0 h j v hj
    · exact endsL_set0 h (by omega) (by omega)
    · exact endsL_len h (by omega) (by omega)
    · exact pad7_len (by omega)
    · exact pad7_len (by omega)
    · exact endsL_set0 h (by omega) (by omega)
    · exact endsL_len h (by omega) (by omega)
  · obtain ⟨a1, a2, a3, a4, a5, a6, a7⟩ := in1_of H lh Y.bh hM m0 (rate := h.hi) (fall := x2) (n := n) (by omega) hh1 (by omega) p2 n0 n1
    have hu := okY_up H Y (p := (x1, x2)) p0 p1 p2 n0 n1 (hok (by omega))
    simp only at hu
    refine ⟨_, _, _, _, _, _, _, _, _, ⟨?_, ?_, ?_, ?_, ?_, a6, rfl, fun _ => by kernel_rfl, rfl, rfl, rfl, rfl, rfl, rfl, rfl, rfl, rfl, ?_, ?_, a1, a2, a3, a4, a5⟩, fun _ => hok (by omega), fun e => by rw [hu] at e; cases e⟩
    · exact fun j v hj => endsL_at1 h (by omega) j v hj
    · exact endsL_set1 h (by omega) (by omega) (by omega)
    · exact endsL_len h (by omega) (by omega)
    · exact pad7_len (by omega)
    · exact pad7_len (by omega)
    · exact endsL_set1 h (by omega) (by omega) (by omega)
    · exact endsL_len h (by omega) (by omega)

end Go.Proofs.YtanjolmelbipoaaDoor

