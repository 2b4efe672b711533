/-
  No culm is lost: what stands is what stood, and shot, less what was cut, and what died. Plain lists.
-/
import Derived.Test.YtanjolmelbipoaaZL
namespace Go.Proofs.Ytanjolmelbipoaa

theorem sum_set : ∀ (l : List Int) (i : Nat) (x : Int), i < l.length → (l.set i x).sum = l.sum - l[i]?.getD 0 + x
  | [], _, _, h => by simp at h
  | a :: l, 0, x, _ => by simp; omega
  | a :: l, i + 1, x, h => by
    have := sum_set l i x (by simpa using h)
    simp only [List.set_cons_succ, List.sum_cons, List.getElem?_cons_succ]
    omega

theorem Bnd.dropB {lo hi : Int} {c : List Int} (h : Bnd lo hi c) (r : Nat) : Bnd lo hi (c.drop r) := by
  rw [Bnd.iff_mem] at h ⊢
  exact fun x hx => h x (List.mem_of_mem_drop hx)

theorem drop_le {M : Int} {c : List Int} (h : Bnd 0 M c) {i j : Nat} (hij : i ≤ j) : (c.drop j).sum ≤ (c.drop i).sum := by
  have e := List.take_append_drop (j - i) (c.drop i)
  rw [List.drop_drop, show i + (j - i) = j by omega] at e
  have h1 := sum_nonneg ((h.dropB i).take (j - i))
  rw [← e, List.sum_append]
  omega

theorem cut_sums {c : List Int} {n : Int} : ∀ k, k ≤ c.length → (cutTo c n (c.length - 1) k).1.sum + (cutTo c n (c.length - 1) k).2.1.sum = c.sum ∧ (cutTo c n (c.length - 1) k).2.1.sum + (cutTo c n (c.length - 1) k).2.2 = n := by
  intro k
  induction k with
  | zero => intro _; simp [cutTo]
  | succ k ih =>
    intro hk
    obtain ⟨h1, h2⟩ := ih (by omega)
    have hl := cutTo_len c n (c.length - 1) k
    have low := (cutTo_low (c := c) (n := n) (hi := c.length - 1) k (by omega) (c.length - 1 - k) (by omega)).2
    rw [List.getElem?_replicate, if_pos (by omega)] at low
    simp only [cutTo]
    rw [sum_set _ _ _ (by rw [hl.1]; omega), sum_set _ _ _ (by rw [hl.2]; omega), low]
    simp only [Option.getD_some]
    omega

theorem gone_at {l : List Int} {s n M : Int} (hb : Bnd 0 M (nowL l s)) (hn : 0 ≤ n) {i : Nat} (hi : i < l.length) : (goneL l s n)[i]?.getD 0 = min (max 0 (n - ((nowL l s).drop (i + 1)).sum)) ((nowL l s)[i]?.getD 0) := by
  have e := nowL_len l s
  have := (cutTo_at hb hn (nowL l s).length (Nat.le_refl _) i (by omega) (by omega)).2
  rw [e] at this
  exact this
theorem year_at {l : List Int} {s n M : Int} (hb : Bnd 0 M (nowL l s)) (hn : 0 ≤ n) {i : Nat} (hi : i < l.length) : (yearL l s n)[i]?.getD 0 = leftOf ((nowL l s)[i]?.getD 0) (((nowL l s).drop (i + 1)).sum) n := by
  have e := nowL_len l s
  have := (cutTo_at hb hn (nowL l s).length (Nat.le_refl _) i (by omega) (by omega)).1
  rw [e] at this
  exact this

theorem sum_zero {l : List Int} (h : ∀ k, k < l.length → l[k]?.getD 0 = 0) : l.sum = 0 := by
  have hb : Bnd 0 0 l := fun k hk => by rw [h k hk]; omega
  have h1 := sum_nonneg hb
  have h2 := sum_le hb
  omega

/-- What a year does, age by age. -/
structure KeptF (r : Nat) (l : List Int) (s n : Int) : Prop where
  a0 : (yearL l s n)[0]?.getD 0 = s
  ai : ∀ i, 0 < i → i < l.length → (yearL l s n)[i]?.getD 0 = l[i - 1]?.getD 0 - (goneL l s n)[i]?.getD 0 ∧ 0 ≤ (yearL l s n)[i]?.getD 0
  old : ∀ i, i < l.length → 0 < (goneL l s n)[i]?.getD 0 → ((yearL l s n).drop (i + 1)).sum = 0
  rip : ∀ i, i < r → (goneL l s n)[i]?.getD 0 = 0
  cut : (goneL l s n).sum = n
  sum : (yearL l s n).sum = l.sum + s - n - l[l.length - 1]?.getD 0

theorem keptF {r : Nat} {l : List Int} {s n M : Int} (hl : 1 ≤ l.length) (hrl : r < l.length) (r1 : 1 ≤ r) (hb : Bnd 0 M l) (s0 : 0 ≤ s) (s1 : s ≤ M) (n0 : 0 ≤ n) (hok : yearOk r l s n = true) : KeptF r l s n := by
  have bn := nowL_bnd hb s0 s1
  have en := nowL_len l s
  have eq := nowL_eq l s hl
  have hok' : n ≤ ((nowL l s).drop r).sum := by simpa [yearOk] using hok
  have hi0 : ∀ i, 0 < i → i < l.length → (nowL l s)[i]?.getD 0 = l[i - 1]?.getD 0 := fun i h0 hi => by
    rw [eq]
    obtain ⟨j, rfl⟩ : ∃ j, i = j + 1 := ⟨i - 1, by omega⟩
    rw [List.getElem?_cons_succ, List.getElem?_take, if_pos (by omega)]
    rfl
  have hz : (nowL l s)[0]?.getD 0 = s := by rw [eq]; rfl
  have hcs := cut_sums (c := nowL l s) (n := n) (nowL l s).length (Nat.le_refl _)
  have hrest := cutTo_rest bn n0 (nowL l s).length (Nat.le_refl _)
  have hd0 := drop_le bn (show 0 ≤ r by omega)
  rw [Nat.sub_self, List.drop_zero] at hrest
  rw [List.drop_zero] at hd0
  rw [hrest, en] at hcs
  have hg : (goneL l s n).sum = n := by
    have := hcs.2
    unfold goneL
    omega
  have hsum : l.sum = (l.take (l.length - 1)).sum + l[l.length - 1]?.getD 0 := by
    have e := List.take_append_drop (l.length - 1) l
    have e2 := drop_sum_succ (c := l) (i := l.length - 1) (by omega)
    rw [show l.length - 1 + 1 = l.length by omega, List.drop_length] at e2
    have : l.sum = (l.take (l.length - 1)).sum + (l.drop (l.length - 1)).sum := by rw [← List.sum_append, e]
    rw [this, e2]
    simp
  refine ⟨?_, fun i h0 hi => ?_, fun i hi hp => ?_, fun i hi => ?_, hg, ?_⟩
  · have h1 := drop_le bn (show 0 + 1 ≤ r by omega)
    have := bn 0 (by omega)
    rw [year_at bn n0 (by omega), hz]
    rw [hz] at this
    unfold leftOf
    omega
  · have h1 := bn i (by omega)
    rw [year_at bn n0 hi, gone_at bn n0 hi]
    rw [hi0 i h0 hi] at h1 ⊢
    unfold leftOf
    omega
  · rw [gone_at bn n0 hi] at hp
    have h1 := bn i (by omega)
    refine sum_zero fun k hk => ?_
    rw [List.length_drop, yearL_len] at hk
    rw [List.getElem?_drop, year_at bn n0 (by omega)]
    have h2 := drop_le bn (show i + 1 ≤ i + 1 + k by omega)
    have h3 := drop_sum_succ (c := nowL l s) (i := i + 1 + k) (by omega)
    have h4 := bn (i + 1 + k) (by omega)
    unfold leftOf
    omega
  · rw [gone_at bn n0 (by omega)]
    have h1 := drop_le bn (show i + 1 ≤ r by omega)
    have := bn i (by omega)
    omega
  · have h1 := hcs.1
    have h2 : (nowL l s).sum = s + (l.take (l.length - 1)).sum := by rw [eq, List.sum_cons]
    unfold yearL
    unfold goneL at hg
    omega

/-- What is laid down of what was cut. -/
def putL (y : Int) (z : List Int) (ts : List (Int × Int)) : List Int := ts.foldl (fun z t => z.set (y - t.1).toNat t.2) z
theorem putL_len (y : Int) : ∀ (ts : List (Int × Int)) (z : List Int), (putL y z ts).length = z.length
  | [], _ => rfl
  | t :: ts, z => by
    have := putL_len y ts (z.set (y - t.1).toNat t.2)
    simp only [putL, List.foldl_cons] at this ⊢
    rw [this, List.length_set]
theorem putL_snoc (y : Int) (z : List Int) (ts : List (Int × Int)) (t : Int × Int) : putL y z (ts ++ [t]) = (putL y z ts).set (y - t.1).toNat t.2 := by
  simp [putL, List.foldl_append]

theorem takes_all {y : Int} {G : List Int} : ∀ k, k ≤ G.length → ∀ e ∈ takesTo y G k, ∃ a : Nat, G.length - k ≤ a ∧ a < G.length ∧ e.1 = y - a ∧ e.2 = G[a]?.getD 0 ∧ 0 < G[a]?.getD 0
  | 0, _, e, he => by simp [takesTo] at he
  | k + 1, hk, e, he => by
    simp only [takesTo, List.mem_append] at he
    rcases he with he | he
    · obtain ⟨a, h1, h2, h3⟩ := takes_all k (by omega) e he
      exact ⟨a, by omega, h2, h3⟩
    · split at he
      · simp only [List.mem_singleton] at he
        subst he
        exact ⟨G.length - 1 - k, by omega, by omega, rfl, rfl, by assumption⟩
      · simp at he

theorem takes_inc {y : Int} {G : List Int} : ∀ k, k ≤ G.length → (takesTo y G k).Pairwise (fun a b => a.1 < b.1)
  | 0, _ => .nil
  | k + 1, hk => by
    simp only [takesTo]
    rw [List.pairwise_append]
    refine ⟨takes_inc k (by omega), ?_, fun a ha b hb => ?_⟩
    · split <;> simp
    · split at hb
      · simp only [List.mem_singleton] at hb
        subst hb
        obtain ⟨c, h1, h2, h3, _⟩ := takes_all k (by omega) a ha
        rw [h3]
        simp only
        omega
      · simp at hb

theorem takes_put {y M : Int} {G : List Int} (hb : Bnd 0 M G) : ∀ k, k ≤ G.length → putL y (List.replicate G.length 0) (takesTo y G k) = List.replicate (G.length - k) 0 ++ G.drop (G.length - k) ∧ ((takesTo y G k).map (·.2)).sum = (G.drop (G.length - k)).sum
  | 0, _ => by simp [takesTo, putL]
  | k + 1, hk => by
    obtain ⟨h1, h2⟩ := takes_put hb k (by omega)
    have hx := hb (G.length - 1 - k) (by omega)
    have hd : G.drop (G.length - 1 - k) = G[G.length - 1 - k]?.getD 0 :: G.drop (G.length - k) := by
      rw [List.drop_eq_getElem_cons (by omega), show G.length - 1 - k + 1 = G.length - k by omega]
      have : G.length - 1 - k < G.length := by omega
      simp [this]
    have hr : List.replicate (G.length - k) (0 : Int) = List.replicate (G.length - 1 - k) 0 ++ [0] := by
      rw [show G.length - k = (G.length - 1 - k) + 1 by omega, List.replicate_succ']
    rw [show G.length - (k + 1) = G.length - 1 - k by omega, hd]
    simp only [takesTo]
    split
    · rw [putL_snoc, h1, hr]
      refine ⟨?_, ?_⟩
      · simp only
        rw [show (y - (y - ((G.length - 1 - k : Nat) : Int))).toNat = G.length - 1 - k by omega, List.append_assoc, List.set_append_right _ _ (by simp)]
        simp
      · rw [List.map_append, List.sum_append, h2]
        simp
        omega
    · have h0 : G[G.length - 1 - k]?.getD 0 = 0 := by omega
      rw [List.append_nil, h1, h2, hr, h0]
      simp

theorem goneL_bnd {l : List Int} {s n M : Int} (hl : 1 ≤ l.length) (hb : Bnd 0 M l) (s0 : 0 ≤ s) (s1 : s ≤ M) (n0 : 0 ≤ n) (n1 : n ≤ M) : Bnd 0 M (goneL l s n) :=
  (cutTo_bnd (nowL_bnd hb s0 s1) n0 n1 (l.length - 1) (by rw [nowL_len]; omega) l.length (by omega)).2.1

end Go.Proofs.Ytanjolmelbipoaa
