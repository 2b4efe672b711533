/-
  Places as plain numbers: the greatest place of a stretch, the first stretch that has one, places for notes.
-/
import Derived.Test.YthjpgpelbagceaaFuW
set_option linter.all false
namespace Go.Proofs.Ythjpgpelbagceaa
open Go.RowKit Go.Shelf

def grN (so : Int → Bool) (lo : Int) : Nat → Option Int
  | 0 => none
  | k + 1 => if so (lo + k) = true then some (lo + k) else grN so lo k
def grF (so : Int → Bool) (lo hi : Int) : Option Int := grN so lo (hi + 1 - lo).toNat
theorem grN_is (so : Int → Bool) (lo x : Int) (hx : lo - 1 ≤ x) : ∀ k : Nat, (∀ m, x < m → m < lo + k → so m = false) → (lo ≤ x → so x = true ∧ x < lo + k) → grN so lo k = if lo ≤ x then some x else none
  | 0, _, h2 => by
    have hn : ¬ lo ≤ x := fun h => by have := (h2 h).2; omega
    rw [if_neg hn]; rfl
  | k + 1, h1, h2 => by
    unfold grN
    by_cases he : x = lo + k
    · have hle : lo ≤ x := by omega
      rw [← he, if_pos (h2 hle).1, if_pos hle]
    · have hlt : x < lo + k := by
        by_cases hle : lo ≤ x
        · have := (h2 hle).2; omega
        · omega
      have hf := h1 (lo + k) hlt (by omega)
      rw [hf, if_neg (by decide)]
      exact grN_is so lo x hx k (fun m h h' => h1 m h (by omega)) (fun h => ⟨(h2 h).1, hlt⟩)
theorem grF_is {so : Int → Bool} {lo hi x : Int} (h : IsGr so lo hi x) : grF so lo hi = if lo ≤ x then some x else none := by
  obtain ⟨h1, h2, h3, h4⟩ := h
  refine grN_is so lo x h1 _ (fun m h h' => h4 m h (by omega)) (fun hle => ⟨h3 hle, ?_⟩)
  rcases h2 with h | h <;> omega

def soB (b : Bk) (first : Bool) (o : Int × Int) (m : Int) : Bool := decide (o.1 ≤ (tonB b first m).1)
def tryS (b : Bk) (first : Bool) (o : Int × Int) : List (Int × Int) → Option Int
  | [] => none
  | s :: l => match grF (soB b first o) s.1 s.2 with
    | some x => if insB o (tonB b first x) = true then some x else tryS b first o l
    | none => tryS b first o l
def drF (b : Bk) : List (Int × Int) → List Int → Option (List Int)
  | [], ps => some ps
  | o :: l, ps => match tryS b (ps.length == 0) o (roomL b ps.getLast?) with
    | some x => drF b l (ps ++ [x])
    | none => none

theorem ediv_anti {N x y : Int} (hN : 0 ≤ N) (hx : 0 < x) (hxy : x ≤ y) : N / y ≤ N / x := by
  have hy : 0 < y := by omega
  have h0 : 0 ≤ N / y := Int.ediv_nonneg hN (by omega)
  refine (Int.le_ediv_iff_mul_le hx).2 ?_
  exact Int.le_trans (Int.mul_le_mul_of_nonneg_left hxy h0) (Int.ediv_mul_le N (by omega))
theorem soB_mono (b : Bk) (hb : bndB b) (first : Bool) (o : Int × Int) (p q : Int) (hp : 50 ≤ p) (hpq : p ≤ q) (h : soB b first o q = true) : soB b first o p = true := by
  obtain ⟨h1, h2, h3⟩ := hb
  unfold soB tonB tonA airB at h ⊢
  simp only [decide_eq_true_eq] at h ⊢
  refine Int.le_trans h ?_
  cases first
  · exact ediv_anti (by omega) (show 0 < p + b.f1 by omega) (show p + b.f1 ≤ q + b.f1 by omega)
  · exact ediv_anti (by omega) (show 0 < p + b.e1 by omega) (show p + b.e1 ≤ q + b.e1 by omega)

/-- What of a blank the search needs. -/
def bndR (b : Bk) : Prop := (1 ≤ b.gap ∧ b.gap ≤ 20000) ∧ (0 ≤ b.near ∧ b.near ≤ 20000) ∧ b.zs.length ≤ 10 ∧ ∀ k : Nat, 0 ≤ b.zs[k]?.getD 0 ∧ b.zs[k]?.getD 0 ≤ 20000
def smRm (l : List (Int × Int)) : Prop := ∀ s ∈ l, 50 ≤ s.1 ∧ s.1 ≤ 40050 ∧ -40000 ≤ s.2 ∧ s.2 ≤ 20000
theorem stR_bnd (b : Bk) (hb : bndR b) (m : Int) (hm : -20000 ≤ m ∧ m ≤ 20000) (ks : List Nat) : smRm (stR b.near b.zs ks m).1 ∧ -20000 ≤ (stR b.near b.zs ks m).2 ∧ (stR b.near b.zs ks m).2 ≤ 20000 := by
  obtain ⟨_, hn, _, hz⟩ := hb
  have h : ∀ (l : List Nat) (st : List (Int × Int) × Int), smRm st.1 → (-20000 ≤ st.2 ∧ st.2 ≤ 20000) → smRm (l.foldl (fun st k => stepR b.near st (b.zs[k]?.getD 0)) st).1 ∧ -20000 ≤ (l.foldl (fun st k => stepR b.near st (b.zs[k]?.getD 0)) st).2 ∧ (l.foldl (fun st k => stepR b.near st (b.zs[k]?.getD 0)) st).2 ≤ 20000 := by
    intro l
    induction l with
    | nil => intro st h1 h2; exact ⟨h1, h2⟩
    | cons a l ih =>
      intro st h1 h2
      rw [List.foldl_cons]
      have hza := hz a
      refine ih _ ?_ ?_
      · intro s hs
        simp only [stepR, List.mem_append, List.mem_singleton] at hs
        rcases hs with hs | rfl
        · exact h1 s hs
        · dsimp only; omega
      · simp only [stepR]; omega
  exact h ks ([], m) (fun s hs => by simp at hs) hm
theorem roomL_bnd (b : Bk) (hb : bndR b) (hl : 50 ≤ b.len ∧ b.len ≤ 20000) (last : Option Int) (h : ∀ p, last = some p → 50 ≤ p ∧ p ≤ 20000) : smRm (roomL b last) ∧ (roomL b last).length ≤ 11 := by
  cases last with
  | none => exact ⟨fun s hs => by simp only [roomL, List.mem_singleton] at hs; subst hs; dsimp only; omega, by simp [roomL]⟩
  | some p =>
    have hp := h p rfl
    have hg := hb.1
    have h1 := stR_bnd b hb (p - b.gap) (by omega) (List.range b.zs.length).reverse
    refine ⟨fun s hs => ?_, ?_⟩
    · simp only [roomL, List.mem_append, List.mem_singleton] at hs
      rcases hs with hs | rfl
      · exact h1.1 s hs
      · dsimp only; omega
    · have := stR_len b.near b.zs (p - b.gap) (List.range b.zs.length).reverse
      have hzl := hb.2.2.1
      simp only [roomL, List.length_append, this]
      simp; omega
theorem grF_some {so : Int → Bool} {lo hi x : Int} (h : grF so lo hi = some x) : lo ≤ x ∧ x ≤ hi := by
  have : ∀ k : Nat, grN so lo k = some x → lo ≤ x ∧ x < lo + k := by
    intro k
    induction k with
    | zero => intro h; cases h
    | succ k ih =>
      intro h
      unfold grN at h
      split at h
      · have := Option.some.inj h; omega
      · have := ih h; omega
  have := this _ h
  omega

theorem noL_bnd (len : Int) : ∀ (l : List Int) (least : Int), 0 ≤ least → noL len l least = true → ∀ z ∈ l, 0 ≤ z ∧ z ≤ len
  | [], _, _, _ => fun z hz => by simp at hz
  | y :: l, least, h0, h => fun z hz => by
    simp only [noL, Bool.and_eq_true, allB_one, inR_iff] at h
    rcases List.mem_cons.1 hz with rfl | hz
    · omega
    · exact noL_bnd len l (y + 1) (by omega) h.2 z hz
theorem okBk_bnd {b : Bk} (h : okBk b = true) : (50 ≤ b.len ∧ b.len ≤ 20000) ∧ bndB b ∧ bndR b := by
  simp only [okBk, Bool.and_eq_true, allB_one, inR_iff, okS_iff, decide_eq_true_eq] at h
  obtain ⟨⟨⟨⟨⟨⟨⟨h1, h2⟩, h3⟩, h4⟩, h5⟩, h6⟩, h7⟩, h8⟩ := h
  refine ⟨h1, ⟨by omega, by omega, by omega⟩, by omega, by omega, h7, fun k => ?_⟩
  have hz := noL_bnd b.len b.zs 0 (by omega) h8
  rcases Nat.lt_or_ge k b.zs.length with hk | hk
  · have := hz _ (List.getElem_mem hk)
    simp only [List.getElem?_eq_getElem hk, Option.getD_some]
    omega
  · simp [hk]

end Go.Proofs.Ythjpgpelbagceaa
