/-
  The program's years are the reference's, with noughts behind them. Plain lists.
-/
import Derived.Test.YtkjdapgkojfbmaaRefJ
import Derived.Test.YtkjdapgkojfbmaaRecB
namespace Go.Proofs.Ytkjdapgkojfbmaa

def pad7 (l : List Int) : List Int := l ++ List.replicate (7 - l.length) 0

theorem start7_pad (g : Gr) : start7 g = pad7 g.start := rfl
theorem pad7_len {l : List Int} (h : l.length ≤ 7) : (pad7 l).length = 7 := by simp [pad7]; omega
theorem pad7_at {l : List Int} {i : Nat} (hi : i < l.length) : (pad7 l)[i]?.getD 0 = l[i]?.getD 0 := by
  simp [pad7, List.getElem?_append_left hi]
theorem pad7_set {l : List Int} {i : Nat} (hi : i < l.length) (x : Int) : (pad7 l).set i x = pad7 (l.set i x) := by
  simp [pad7, hi]
theorem pad7_drop {l : List Int} {r : Nat} (hr : r ≤ l.length) : ((pad7 l).drop r).sum = (l.drop r).sum := by
  unfold pad7
  rw [List.drop_append_of_le_length hr, List.sum_append]
  simp

theorem pad7_cut {m : List Int} {n : Int} {hi : Nat} (hh : hi < m.length) (h7 : m.length ≤ 7) : ∀ k, k ≤ hi + 1 →
    (cutTo (pad7 m) n hi k).1 = pad7 (cutTo m n hi k).1 ∧ (cutTo (pad7 m) n hi k).2.1 = pad7 (cutTo m n hi k).2.1 ∧ (cutTo (pad7 m) n hi k).2.2 = (cutTo m n hi k).2.2 := by
  intro k
  induction k with
  | zero =>
    intro _
    refine ⟨rfl, ?_, rfl⟩
    simp only [cutTo, pad7_len h7]
    simp only [pad7, List.length_replicate, List.replicate_append_replicate]
    congr 1
    omega
  | succ k ih =>
    intro hk
    obtain ⟨h1, h2, h3⟩ := ih (by omega)
    have hl := cutTo_len m n hi k
    have e : (pad7 (cutTo m n hi k).1)[hi - k]?.getD 0 = (cutTo m n hi k).1[hi - k]?.getD 0 := pad7_at (by rw [hl.1]; omega)
    simp only [cutTo]
    rw [h1, h2, h3, e]
    exact ⟨pad7_set (by rw [hl.1]; omega) _, pad7_set (by rw [hl.2]; omega) _, rfl⟩

theorem cutTo_low {c : List Int} {n : Int} {hi : Nat} : ∀ k, k ≤ hi + 1 → ∀ i, i + k ≤ hi → (cutTo c n hi k).1[i]? = c[i]? ∧ (cutTo c n hi k).2.1[i]? = (List.replicate c.length (0 : Int))[i]? := by
  intro k
  induction k with
  | zero => intro _ i _; exact ⟨rfl, rfl⟩
  | succ k ih =>
    intro hk i hik
    have := ih (by omega) i (by omega)
    simp only [cutTo]
    rw [List.getElem?_set_ne (by omega), List.getElem?_set_ne (by omega)]
    exact this

theorem drop_sum_succ {c : List Int} {i : Nat} (hi : i < c.length) : (c.drop i).sum = c[i]?.getD 0 + (c.drop (i + 1)).sum := by
  rw [List.drop_eq_getElem_cons hi, List.sum_cons]
  simp [hi]

theorem cutTo_rest {c : List Int} {n : Int} {M : Int} (hb : Bnd 0 M c) (hn : 0 ≤ n) : ∀ k, k ≤ c.length → (cutTo c n (c.length - 1) k).2.2 = max 0 (n - (c.drop (c.length - k)).sum) := by
  intro k
  induction k with
  | zero => intro _; simp [cutTo]; omega
  | succ k ih =>
    intro hk
    have h := ih (by omega)
    have hlow := (cutTo_low (c := c) (n := n) (hi := c.length - 1) k (by omega) (c.length - 1 - k) (by omega)).1
    have hx := hb (c.length - 1 - k) (by omega)
    have hs := drop_sum_succ (c := c) (i := c.length - 1 - k) (by omega)
    simp only [cutTo]
    rw [h, hlow, show c.length - (k + 1) = c.length - 1 - k by omega, hs, show c.length - 1 - k + 1 = c.length - k by omega]
    generalize c[c.length - 1 - k]?.getD 0 = x at hx ⊢
    generalize (c.drop (c.length - k)).sum = S
    omega

/-- No more are cut than are ripe: then nothing that isn't ripe is cut. -/
theorem cutTo_same {c : List Int} {n : Int} {M : Int} (hb : Bnd 0 M c) (_ : M ≤ 1000000) (hn : 0 ≤ n) (_ : n ≤ M) {r : Nat} (hr : r < c.length) (hle : n ≤ (c.drop r).sum) : ∀ j, j ≤ r →
    cutTo c n (c.length - 1) (c.length - r + j) = cutTo c n (c.length - 1) (c.length - r) := by
  intro j
  induction j with
  | zero => intro _; rfl
  | succ j ih =>
    intro hj
    have h := ih (by omega)
    have hrest := cutTo_rest hb hn (c.length - r) (by omega)
    rw [show c.length - (c.length - r) = r by omega] at hrest
    have h0 : (cutTo c n (c.length - 1) (c.length - r)).2.2 = 0 := by rw [hrest]; omega
    have hlow := cutTo_low (c := c) (n := n) (hi := c.length - 1) (c.length - r + j) (by omega) (c.length - 1 - (c.length - r + j)) (by omega)
    have hx := hb (c.length - 1 - (c.length - r + j)) (by omega)
    have hi : c.length - 1 - (c.length - r + j) < c.length := by omega
    rw [h] at hlow
    rw [show c.length - r + (j + 1) = (c.length - r + j) + 1 by omega]
    simp only [cutTo]
    rw [h, h0, hlow.1]
    generalize c.length - 1 - (c.length - r + j) = i at hlow hx hi ⊢
    rw [show min 0 (c[i]?.getD 0) = 0 by omega]
    have hl := cutTo_len c n (c.length - 1) (c.length - r)
    generalize cutTo c n (c.length - 1) (c.length - r) = q at hlow h0 hl ⊢
    obtain ⟨a, b, m⟩ := q
    simp only at hlow h0 hl ⊢
    subst h0
    have ea : a.set i (c[i]?.getD 0 - 0) = a := by
      apply List.ext_getElem?
      intro q
      by_cases hq : i = q
      · subst hq
        rw [List.getElem?_set_self (by rw [hl.1]; exact hi), hlow.1]
        simp [hi]
      · rw [List.getElem?_set_ne hq]
    have eb : b.set i 0 = b := by
      apply List.ext_getElem?
      intro q
      by_cases hq : i = q
      · subst hq
        rw [List.getElem?_set_self (by rw [hl.2]; exact hi), hlow.2]
        simp [hi]
      · rw [List.getElem?_set_ne hq]
    rw [ea, eb]
    rfl

/-- What is asked of a year. -/
structure YearFine (d r : Nat) (l : List Int) (p : Int × Int) : Prop where
  len : l.length = d + 1
  d6 : d ≤ 6
  r1 : 1 ≤ r
  rd : r ≤ d
  bnd : Bnd 0 30 l
  s : 0 ≤ p.1 ∧ p.1 ≤ 30
  n : 0 ≤ p.2 ∧ p.2 ≤ 30

theorem laterP_pad {d r : Nat} {l : List Int} {p : Int × Int} (h : YearFine d r l p) : laterP d (pad7 l) p.1 = pad7 (nowL l p.1) := by
  have e : nowL l p.1 = p.1 :: l.take d := by
    unfold nowL ageL
    rw [h.len]
    simp
  rw [e]
  have hl := h.len
  have hd := h.d6
  simp only [laterP, pad7, List.length_cons, List.length_take, List.cons_append]
  rw [List.take_append_of_le_length (by omega)]
  congr 3
  omega

theorem ripeP_pad {d r : Nat} {l : List Int} {p : Int × Int} (h : YearFine d r l p) : ripeP d r (pad7 l) p = ((nowL l p.1).drop r).sum := by
  unfold ripeP
  rw [laterP_pad h, pad7_drop (by rw [nowL_len, h.len]; have := h.rd; omega)]

theorem stepP_pad {d r : Nat} {l : List Int} {p : Int × Int} (h : YearFine d r l p) (hok : yearOk r l p.1 p.2 = true) :
    stepP d r (pad7 l) p = pad7 (yearL l p.1 p.2) ∧ goneP d r (pad7 l) p = pad7 (goneL l p.1 p.2) := by
  have hl := nowL_len l p.1
  have hb := nowL_bnd h.bnd h.s.1 h.s.2
  have h0 := h.len
  have hd := h.d6
  have hrd := h.rd
  have hr1 := h.r1
  simp only [yearOk, decide_eq_true_eq] at hok
  have hc := pad7_cut (m := nowL l p.1) (n := p.2) (hi := d) (by omega) (by omega) (d - r + 1) (by omega)
  have hs := cutTo_same hb (by omega) h.n.1 h.n.2 (r := r) (by omega) hok r (Nat.le_refl _)
  rw [hl, h0, show d + 1 - r + r = d + 1 by omega, show d + 1 - r = d - r + 1 by omega, show d + 1 - 1 = d by omega] at hs
  unfold stepP goneP yearL goneL
  rw [laterP_pad h, h0, show d + 1 - 1 = d by omega, hs]
  exact ⟨hc.1, hc.2.1⟩

end Go.Proofs.Ytkjdapgkojfbmaa
