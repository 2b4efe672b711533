/-
  Texts laid together: FwC, FvE, FvL, FvM.
-/
import Derived.Test.YtjjipkgconmfcaaB914
import Derived.Test.YtjjipkgconmfcaaB918
import Derived.Test.YtjjipkgconmfcaaB919
set_option linter.all false
namespace Go.Proofs.Ytjjipkgconmfcaa
open Go.RowKit

theorem grN_spec (so : Int → Bool) (lo : Int) : ∀ k : Nat, (grN so lo k = none → ∀ m, lo ≤ m → m < lo + k → so m = false) ∧ ∀ x, grN so lo k = some x → lo ≤ x ∧ x < lo + k ∧ so x = true ∧ ∀ m, x < m → m < lo + k → so m = false
  | 0 => ⟨fun _ m h1 h2 => absurd h2 (by omega), fun x h => by cases h⟩
  | k + 1 => by
    obtain ⟨h1, h2⟩ := grN_spec so lo k
    unfold grN
    cases hs : so (lo + k)
    · rw [if_neg (by decide)]
      refine ⟨fun h m hm1 hm2 => ?_, fun x h => ?_⟩
      · by_cases e : m = lo + k
        · rw [e]; exact hs
        · exact h1 h m hm1 (by omega)
      · obtain ⟨a, b, c, d⟩ := h2 x h
        refine ⟨a, by omega, c, fun m hm1 hm2 => ?_⟩
        by_cases e : m = lo + k
        · rw [e]; exact hs
        · exact d m hm1 (by omega)
    · rw [if_pos rfl]
      refine ⟨fun h => (by cases h), fun x h => ?_⟩
      obtain rfl := Option.some.inj h
      exact ⟨by omega, by omega, hs, fun m hm1 hm2 => absurd hm2 (by omega)⟩
theorem grF_none {so : Int → Bool} {lo hi : Int} (h : grF so lo hi = none) : ∀ m, lo ≤ m → m ≤ hi → so m = false := fun m h1 h2 => (grN_spec so lo _).1 h m h1 (by omega)
theorem grF_at {so : Int → Bool} {lo hi x : Int} (h : grF so lo hi = some x) : lo ≤ x ∧ x ≤ hi ∧ so x = true ∧ ∀ m, x < m → m ≤ hi → so m = false := by
  obtain ⟨a, b, c, d⟩ := (grN_spec so lo _).2 x h
  exact ⟨a, by omega, c, fun m h1 h2 => d m h1 (by omega)⟩
theorem grF_of {so : Int → Bool} {lo hi x : Int} (h1 : lo ≤ x) (h2 : x ≤ hi) (h3 : so x = true) (h4 : ∀ m, x < m → m ≤ hi → so m = false) : grF so lo hi = some x := by
  cases h : grF so lo hi with
  | none => rw [grF_none h x h1 h2] at h3; cases h3
  | some y =>
    obtain ⟨a, b, c, d⟩ := grF_at h
    rcases Int.lt_trichotomy x y with hlt | he | hgt
    · rw [h4 y hlt b] at c; cases c
    · rw [he]
    · rw [d x hgt h2] at h3; cases h3
theorem grF_no {so : Int → Bool} {lo hi : Int} (h : ∀ m, lo ≤ m → m ≤ hi → so m = false) : grF so lo hi = none := by
  cases e : grF so lo hi with
  | none => rfl
  | some y => obtain ⟨a, b, c, _⟩ := grF_at e; rw [h y a b] at c; cases c
theorem grF_less {Q Q' : Int → Bool} {lo m m' : Int} (hm : m' ≤ m) (h1 : ∀ p, lo ≤ p → p ≤ m' → Q p = Q' p) (h2 : ∀ p, lo ≤ p → m' < p → p ≤ m → Q p = false) : grF Q lo m = grF Q' lo m' := by
  cases h : grF Q' lo m' with
  | none =>
    refine grF_no fun p a b => ?_
    by_cases hp : p ≤ m'
    · rw [h1 p a hp]; exact grF_none h p a hp
    · exact h2 p a (by omega) b
  | some x =>
    obtain ⟨a, b, c, d⟩ := grF_at h
    refine grF_of a (by omega) (by rw [h1 x a b]; exact c) fun p hp1 hp2 => ?_
    by_cases hp : p ≤ m'
    · rw [h1 p (by omega) hp]; exact d p hp1 hp
    · exact h2 p (by omega) (by omega) hp2

theorem tonB_anti (b : Bk) (hb : bndB b) (first : Bool) {p q : Int} (hp : 50 ≤ p) (hpq : p ≤ q) : (tonB b first q).1 ≤ (tonB b first p).1 ∧ (tonB b first q).2 ≤ (tonB b first p).2 := by
  obtain ⟨h1, h2, h3⟩ := hb
  unfold tonB tonA airB
  cases first
  · exact ⟨ediv_anti (by omega) (show 0 < p + b.f1 by omega) (show p + b.f1 ≤ q + b.f1 by omega), ediv_anti (by omega) (show 0 < p + b.f0 by omega) (show p + b.f0 ≤ q + b.f0 by omega)⟩
  · exact ⟨ediv_anti (by omega) (show 0 < p + b.e1 by omega) (show p + b.e1 ≤ q + b.e1 by omega), ediv_anti (by omega) (show 0 < p + b.e0 by omega) (show p + b.e0 ≤ q + b.e0 by omega)⟩
def plB (b : Bk) (first : Bool) (o : Int × Int) (p : Int) : Bool := insB o (tonB b first p)
theorem plB_so {b : Bk} {first : Bool} {o : Int × Int} {p : Int} (h : soB b first o p = false) : plB b first o p = false := by
  unfold soB at h
  unfold plB insB
  rw [h, Bool.false_and]
theorem one_stretch (b : Bk) (hb : bndB b) (first : Bool) (o : Int × Int) (lo hi : Int) (hlo : 50 ≤ lo) :
    (match grF (soB b first o) lo hi with | some x => if insB o (tonB b first x) = true then some x else none | none => none) = grF (plB b first o) lo hi := by
  cases h : grF (soB b first o) lo hi with
  | none => exact (grF_no fun m h1 h2 => plB_so (grF_none h m h1 h2)).symm
  | some x =>
    obtain ⟨a, c, d, e⟩ := grF_at h
    dsimp only
    by_cases hi2 : insB o (tonB b first x) = true
    · rw [if_pos hi2]
      exact (grF_of a c hi2 fun m h1 h2 => plB_so (e m h1 h2)).symm
    · rw [if_neg hi2]
      refine (grF_no fun m h1 h2 => ?_).symm
      by_cases hm : x < m
      · exact plB_so (e m hm h2)
      · cases hp : plB b first o m
        · rfl
        · exfalso
          apply hi2
          have ht := tonB_anti b hb first (show 50 ≤ m by omega) (show m ≤ x by omega)
          unfold plB at hp
          unfold soB at d
          unfold insB at hp ⊢
          simp only [Bool.and_eq_true, decide_eq_true_eq] at hp d ⊢
          omega
/-- The first stretch of which something is so, and the greatest place there. -/
def firS (T : Int → Bool) : List (Int × Int) → Option Int
  | [] => none
  | s :: l => match grF T s.1 s.2 with
    | some x => some x
    | none => firS T l
theorem try_fir (b : Bk) (hb : bndB b) (first : Bool) (o : Int × Int) : ∀ l : List (Int × Int), (∀ s ∈ l, 50 ≤ s.1) → tryS b first o l = firS (plB b first o) l
  | [], _ => rfl
  | s :: l, h => by
    have ih := try_fir b hb first o l (fun s hs => h s (List.mem_cons_of_mem _ hs))
    have h1 := one_stretch b hb first o s.1 s.2 (h s List.mem_cons_self)
    unfold tryS firS
    rw [← h1, ih]
    cases grF (soB b first o) s.1 s.2 with
    | none => rfl
    | some x => by_cases hx : insB o (tonB b first x) = true <;> simp [hx]
def farB (near z p : Int) : Bool := !decide (max (p - z) (-(p - z)) < near)
def nearB (b : Bk) (p : Int) : Bool := b.zs.any fun z => decide (max (p - z) (-(p - z)) < b.near)
/-- Stretches below some place, by nodes from the one that is furthest from the mouth on. -/
def strS (near : Int) : List Int → Int → List (Int × Int)
  | [], m => [(50, m)]
  | z :: l, m => (max (z + near) 50, m) :: strS near l (min (z - near) m)
theorem strS_lo (near : Int) : ∀ (l : List Int) (m : Int), ∀ s ∈ strS near l m, 50 ≤ s.1
  | [], m, s, hs => by simp only [strS, List.mem_singleton] at hs; subst hs; exact Int.le_refl 50
  | z :: l, m, s, hs => by
    simp only [strS, List.mem_cons] at hs
    rcases hs with rfl | hs
    · dsimp only; omega
    · exact strS_lo near l _ s hs
theorem fir_strS (T : Int → Bool) (near : Int) (hn : 0 ≤ near) : ∀ (l : List Int) (m : Int), l.Pairwise (· > ·) → firS T (strS near l m) = grF (fun p => T p && l.all fun z => farB near z p) 50 m
  | [], m, _ => by
    simp only [strS, firS, List.all_nil, Bool.and_true]
    cases grF T 50 m <;> rfl
  | z :: l, m, hp => by
    have hz := List.pairwise_cons.1 hp
    have ih := fir_strS T near hn l (min (z - near) m) hz.2
    have hfar : ∀ z' p, farB near z' p = true ↔ near ≤ p - z' ∨ near ≤ z' - p := fun z' p => by
      unfold farB
      simp only [Bool.not_eq_true', decide_eq_false_iff_not]
      omega
    unfold strS firS
    dsimp only
    cases h : grF T (max (z + near) 50) m with
    | some x =>
      obtain ⟨a, b, c, d⟩ := grF_at h
      refine (grF_of (by omega) b ?_ fun p h1 h2 => by rw [d p h1 h2, Bool.false_and]).symm
      rw [c, Bool.true_and, List.all_eq_true]
      intro z' hz'
      rw [hfar]
      rcases List.mem_cons.1 hz' with rfl | hm
      · omega
      · have := hz.1 z' hm; omega
    | none =>
      dsimp only
      rw [ih]
      have hT := grF_none h
      refine (grF_less (by omega) (fun p h1 h2 => ?_) fun p h1 h2 h3 => ?_).symm
      · have : farB near z p = true := (hfar z p).2 (by omega)
        simp only [List.all_cons, this, Bool.true_and]
      · by_cases hge : max (z + near) 50 ≤ p
        · rw [hT p hge h3, Bool.false_and]
        · have : farB near z p = false := by
            cases e : farB near z p
            · rfl
            · have := (hfar z p).1 e; omega
          simp [List.all_cons, this]
theorem strS_fold (near : Int) : ∀ (l : List Int) (acc : List (Int × Int)) (m : Int), (l.foldl (stepR near) (acc, m)).1 ++ [(50, (l.foldl (stepR near) (acc, m)).2)] = acc ++ strS near l m
  | [], acc, m => rfl
  | z :: l, acc, m => by
    rw [List.foldl_cons]
    have h := strS_fold near l (acc ++ [(max (z + near) 50, m)]) (min (z - near) m)
    have e : stepR near (acc, m) z = (acc ++ [(max (z + near) 50, m)], min (z - near) m) := rfl
    rw [e, h]
    simp [strS]
theorem room_strS (b : Bk) (y : Int) : roomL b (some y) = strS b.near b.zs.reverse (y - b.gap) := by
  have h := strS_fold b.near b.zs.reverse [] (y - b.gap)
  have e : b.zs.reverse = (List.range b.zs.length).reverse.map (fun k => b.zs[k]?.getD 0) := by
    rw [List.map_reverse]
    congr 1
    refine List.ext_getElem (by simp) fun i h1 h2 => ?_
    simp [h1]
  rw [List.nil_append] at h
  rw [← h, e, List.foldl_map]
  rfl
theorem noL_pw (len : Int) : ∀ (l : List Int) (least : Int), noL len l least = true → l.Pairwise (· < ·) ∧ ∀ z ∈ l, least ≤ z
  | [], _, _ => ⟨List.Pairwise.nil, fun z hz => by simp at hz⟩
  | y :: l, least, h => by
    simp only [noL, Bool.and_eq_true, allB_one, inR_iff] at h
    obtain ⟨h1, h2⟩ := noL_pw len l (y + 1) h.2
    exact ⟨List.pairwise_cons.2 ⟨fun z hz => by have := h2 z hz; omega, h1⟩, fun z hz => by rcases List.mem_cons.1 hz with rfl | hz; omega; have := h2 z hz; omega⟩
/-- What a place has to be, and up to where. -/
def drP (b : Bk) (o : Int × Int) (last : Option Int) (p : Int) : Bool := plB b last.isNone o p && (last.isNone || !nearB b p)
def hiR (b : Bk) : Option Int → Int
  | none => b.len
  | some y => y - b.gap
theorem far_near (b : Bk) (p : Int) : (b.zs.reverse.all fun z => farB b.near z p) = !nearB b p := by
  unfold nearB farB
  rw [List.all_reverse, List.not_any_eq_all_not]
theorem try_is (b : Bk) (hok : okBk b = true) (o : Int × Int) (last : Option Int) : tryS b last.isNone o (roomL b last) = grF (drP b o last) 50 (hiR b last) := by
  obtain ⟨hl, hb, hr⟩ := okBk_bnd hok
  have hzs : b.zs.Pairwise (· < ·) := by
    simp only [okBk, Bool.and_eq_true] at hok
    exact (noL_pw _ _ _ hok.2).1
  cases last with
  | none =>
    rw [try_fir b hb _ o _ (fun s hs => by simp only [roomL, List.mem_singleton] at hs; subst hs; exact Int.le_refl 50)]
    have e : drP b o none = plB b true o := by funext p; simp [drP]
    rw [e]
    simp only [roomL, firS, hiR, Option.isNone_none]
    cases grF (plB b true o) 50 b.len <;> rfl
  | some y =>
    rw [room_strS, try_fir b hb _ o _ (strS_lo _ _ _), fir_strS _ _ hr.2.1.1 _ _ (List.pairwise_reverse.2 hzs)]
    congr 1
    funext p
    rw [far_near]
    simp [drP]
/-- Places, each the greatest one. -/
def drG (b : Bk) : List (Int × Int) → List Int → Option (List Int)
  | [], ps => some ps
  | o :: l, ps => match grF (drP b o ps.getLast?) 50 (hiR b ps.getLast?) with
    | some x => drG b l (ps ++ [x])
    | none => none
theorem drF_drG (b : Bk) (hok : okBk b = true) : ∀ (os : List (Int × Int)) (ps : List Int), drF b os ps = drG b os ps
  | [], _ => rfl
  | o :: l, ps => by
    have e : (ps.length == 0) = ps.getLast?.isNone := by cases ps <;> simp
    have h := try_is b hok o ps.getLast?
    unfold drF drG
    rw [e, h]
    cases grF (drP b o ps.getLast?) 50 (hiR b ps.getLast?) with
    | none => rfl
    | some x => exact drF_drG b hok l (ps ++ [x])

/-- A blank with more room. -/
structure MoreB (b b' : Bk) : Prop where
  len : b.len ≤ b'.len
  e0 : b'.e0 = b.e0
  e1 : b'.e1 = b.e1
  f0 : b'.f0 = b.f0
  f1 : b'.f1 = b.f1
  s0 : b'.s0 = b.s0
  s1 : b'.s1 = b.s1
  gap : b'.gap ≤ b.gap
  near : b'.near ≤ b.near
  zs : b'.zs = b.zs
def LeL9 : List Int → List Int → Prop
  | [], [] => True
  | x :: l, y :: m => x ≤ y ∧ LeL9 l m
  | _, _ => False
theorem LeL9.len : ∀ {l m : List Int}, LeL9 l m → l.length = m.length
  | [], [], _ => rfl
  | _ :: l, _ :: m, h => by simp [LeL9.len h.2]
  | [], _ :: _, h => h.elim
  | _ :: _, [], h => h.elim
theorem LeL9.snoc : ∀ {l m : List Int} {x y : Int}, LeL9 l m → x ≤ y → LeL9 (l ++ [x]) (m ++ [y])
  | [], [], _, _, _, h => ⟨h, trivial⟩
  | _ :: l, _ :: m, _, _, h, h2 => ⟨h.1, LeL9.snoc h.2 h2⟩
  | [], _ :: _, _, _, h, _ => h.elim
  | _ :: _, [], _, _, h, _ => h.elim
theorem LeL9.get : ∀ {l m : List Int}, LeL9 l m → ∀ i : Nat, l[i]?.getD 0 ≤ m[i]?.getD 0
  | [], [], _, i => by simp
  | x :: l, y :: m, h, 0 => by simpa using h.1
  | x :: l, y :: m, h, i + 1 => by simpa using LeL9.get h.2 i
  | [], _ :: _, h, _ => h.elim
  | _ :: _, [], h, _ => h.elim
theorem LeL9.last : ∀ {l m : List Int}, LeL9 l m → (l.getLast? = none ∧ m.getLast? = none) ∨ ∃ x y, l.getLast? = some x ∧ m.getLast? = some y ∧ x ≤ y
  | [], [], _ => .inl ⟨rfl, rfl⟩
  | [x], [y], h => .inr ⟨x, y, rfl, rfl, h.1⟩
  | _ :: x :: l, _ :: y :: m, h => by
    rcases LeL9.last (l := x :: l) (m := y :: m) h.2 with ⟨h1, _⟩ | ⟨a, c, h1, h2, h3⟩
    · simp at h1
    · exact .inr ⟨a, c, by rw [List.getLast?_cons_cons]; exact h1, by rw [List.getLast?_cons_cons]; exact h2, h3⟩
  | [], _ :: _, h => h.elim
  | _ :: _, [], h => h.elim
  | [_], _ :: _ :: _, h => h.2.elim
  | _ :: _ :: _, [_], h => h.2.elim
/-- Notes that are wider. -/
def WidO : List (Int × Int) → List (Int × Int) → Prop
  | [], [] => True
  | o :: l, o' :: l' => o'.1 ≤ o.1 ∧ o.2 ≤ o'.2 ∧ WidO l l'
  | _, _ => False
theorem nearB_more {b b' : Bk} (h : MoreB b b') {p : Int} (hp : nearB b p = false) : nearB b' p = false := by
  unfold nearB at *
  rw [h.zs]
  rw [List.any_eq_false] at *
  intro z hz
  have := hp z hz
  have hn := h.near
  simp only [decide_eq_true_eq] at *
  omega
theorem tonB_more {b b' : Bk} (h : MoreB b b') (first : Bool) (p : Int) : tonB b' first p = tonB b first p := by
  unfold tonB airB
  rw [h.e0, h.e1, h.f0, h.f1, h.s0, h.s1]
theorem drG_more {b b' : Bk} (h : MoreB b b') : ∀ (os os' : List (Int × Int)) (ps ps' l : List Int), WidO os os' → LeL9 ps ps' → drG b os ps = some l → ∃ l', drG b' os' ps' = some l' ∧ LeL9 l l'
  | [], [], ps, ps', l, _, hp, hd => ⟨ps', rfl, by obtain rfl := Option.some.inj hd; exact hp⟩
  | o :: os, o' :: os', ps, ps', l, hw, hp, hd => by
    unfold drG at hd
    cases hg : grF (drP b o ps.getLast?) 50 (hiR b ps.getLast?) with
    | none => rw [hg] at hd; cases hd
    | some x =>
      rw [hg] at hd
      dsimp only at hd
      obtain ⟨a, c, d, _⟩ := grF_at hg
      have key : drP b' o' ps'.getLast? x = true ∧ x ≤ hiR b' ps'.getLast? := by
        have h1 : ∀ first, plB b first o x = true → plB b' first o' x = true := fun first hpl => by
          unfold plB insB at *
          rw [tonB_more h]
          simp only [Bool.and_eq_true, decide_eq_true_eq] at *
          have := hw.1
          have := hw.2.1
          omega
        rcases LeL9.last hp with ⟨e1, e2⟩ | ⟨u, v, e1, e2, huv⟩
        · rw [e1] at c d
          rw [e2]
          have := h.len
          simp only [drP, Option.isNone_none, Bool.true_or, Bool.and_true, hiR] at c d ⊢
          exact ⟨h1 _ d, by omega⟩
        · rw [e1] at c d
          rw [e2]
          have := h.gap
          simp only [drP, Option.isNone_some, Bool.false_or, hiR, Bool.and_eq_true, Bool.not_eq_true'] at c d ⊢
          exact ⟨⟨h1 _ d.1, nearB_more h d.2⟩, by omega⟩
      cases hg' : grF (drP b' o' ps'.getLast?) 50 (hiR b' ps'.getLast?) with
      | none => rw [grF_none hg' x a key.2] at key; cases key.1
      | some y =>
        obtain ⟨a', c', d', e'⟩ := grF_at hg'
        have hxy : x ≤ y := by
          by_cases hlt : y < x
          · rw [e' x hlt key.2] at key; cases key.1
          · omega
        unfold drG
        rw [hg']
        exact drG_more h os os' (ps ++ [x]) (ps' ++ [y]) l hw.2.2 (hp.snoc hxy) hd
  | [], _ :: _, _, _, _, hw, _, _ => hw.elim
  | _ :: _, [], _, _, _, hw, _, _ => hw.elim
theorem drG_len (b : Bk) : ∀ (os : List (Int × Int)) (ps l : List Int), drG b os ps = some l → l.length = ps.length + os.length
  | [], ps, l, h => by obtain rfl := Option.some.inj h; simp
  | o :: os, ps, l, h => by
    unfold drG at h
    cases hg : grF (drP b o ps.getLast?) 50 (hiR b ps.getLast?) with
    | none => rw [hg] at h; cases h
    | some x =>
      rw [hg] at h
      have := drG_len b os _ l h
      rw [this]; simp; omega

end Go.Proofs.Ytjjipkgconmfcaa

namespace Go.Proofs.Ytjjipkgconmfcaa
open Go.RowKit Go.Maps
open R6 (done done_ne done_me upd_ne upd_me)

attribute [local go_sem] gives

/-- A tone within a note is met. -/
theorem ins_meets (a o s : Int × Int) (ha : 50 ≤ a.1 ∧ a.1 ≤ a.2) (hs : 0 ≤ s.1 ∧ s.1 ≤ s.2) (h : insB o (tonA s.1 s.2 a) = true) : meetF a o s = true := by
  obtain ⟨a0, a1⟩ := a
  obtain ⟨o0, o1⟩ := o
  obtain ⟨s0, s1⟩ := s
  simp only [insB, tonA, Bool.and_eq_true, decide_eq_true_eq] at h ha hs
  have h1 := of_decide_eq_true h.1
  have h2 := of_decide_eq_true h.2
  refine any_upto (p := fun d => metL (o0, o1) (s0, s1) (a0 + d)) (k := 0) (by dsimp only; omega) ?_
  have e0 : a0 + ((0 : Nat) : Int) = a0 := by simp
  show metL (o0, o1) (s0, s1) (a0 + ((0 : Nat) : Int)) = true
  rw [e0]
  have hle : o0 ≤ 500 * s0 / a0 := Int.le_trans h1 (ediv_anti (by omega) (by omega) ha.2)
  have hm : o0 * a0 ≤ 500 * s0 := (Int.le_ediv_iff_mul_le (by omega)).1 hle
  have hmx : max s0 ((o0 * a0 + 499) / 500) = s0 := by
    generalize o0 * a0 = P at hm
    omega
  have h3 : 500 * s0 / a0 ≤ 500 * s1 / a0 := Int.ediv_le_ediv (by omega) (by omega)
  unfold metL
  dsimp only
  rw [hmx, decide_eq_true hs.2, decide_eq_true (Int.le_trans h3 h2)]
  rfl
theorem kno_two (a o s : Int × Int) (ha : 50 ≤ a.1 ∧ a.1 ≤ a.2) (hs : 0 ≤ s.1 ∧ s.1 ≤ s.2) : (insB o (tonA s.1 s.2 a) = true → knoF a o s = 2) ∧ (insB o (tonA s.1 s.2 a) = false → knoF a o s = 0 ∨ knoF a o s = 1) := by
  refine ⟨fun h => ?_, fun h => ?_⟩
  · unfold knoF; rw [h, ins_meets a o s ha hs h]; rfl
  · unfold knoF; rw [h]; cases meetF a o s
    · exact .inl rfl
    · exact .inr rfl
theorem fingZ_split (f : Fu) (o : Int × Int) (n d : Nat) (h : insB o (tonF f n) = true) : ∃ r, fingZ f o (List.range (n + 1 + d)) = fingZ f o (List.range n) ++ (n : Int) :: r := by
  induction d with
  | zero => exact ⟨[], by rw [Nat.add_zero, List.range_succ, fingZ_snoc, if_pos h]⟩
  | succ d ih =>
    obtain ⟨r, hr⟩ := ih
    rw [show n + 1 + (d + 1) = (n + 1 + d) + 1 by omega, List.range_succ, fingZ_snoc, hr]
    exact ⟨r ++ (if insB o (tonF f (n + 1 + d)) = true then [((n + 1 + d : Nat) : Int)] else []), by simp⟩
theorem fingZ_at (f : Fu) (o : Int × Int) {n N : Nat} (hn : n < N) (h : insB o (tonF f n) = true) :
    (fingZ f o (List.range n)).length < (fingZ f o (List.range N)).length ∧ (fingZ f o (List.range N))[(fingZ f o (List.range n)).length]?.getD 0 = (n : Int) ∧ (fingZ f o (List.range (n + 1))).length = (fingZ f o (List.range n)).length + 1 := by
  obtain ⟨d, rfl⟩ : ∃ d, N = n + 1 + d := ⟨N - (n + 1), by omega⟩
  obtain ⟨r, hr⟩ := fingZ_split f o n d h
  rw [hr]
  refine ⟨by simp, by simp, ?_⟩
  rw [List.range_succ, fingZ_snoc, if_pos h]; simp
theorem fingZ_no (f : Fu) (o : Int × Int) {n : Nat} (h : insB o (tonF f n) = false) : (fingZ f o (List.range (n + 1))).length = (fingZ f o (List.range n)).length := by
  rw [List.range_succ, fingZ_snoc, h]; simp

set_option maxRecDepth 100000 in
set_option maxHeartbeats 16000000 in
theorem fluteAll_some (f : Fu) (hl : f.hs.length ≤ 1000000) (o : Int × Int) (B : Nat) (w : World) (hB : B ≤ w.heap.size) (hz : FuAt w B f) :
    Calls Try.prog 7 #[.agg (fuc f).toArray, .agg #[.int .i64 o.1, .int .i64 o.2]] w fun e w' => e = .returned (.bool true) ∧ Below w.heap.size w w' := by
  obtain ⟨o0, o1⟩ := o
  dsimp only
  obtain ⟨w1, hw1⟩ : ∃ w1, (w.alloc (.cells (fuc f).toArray 28)).alloc (.cells #[.int .i64 o0, .int .i64 o1] 25) = w1 := ⟨_, rfl⟩
  have hb1 : Below w.heap.size w w1 := by rw [← hw1]; exact ((Below.refl _ _).alloc (Nat.le_refl _) _).alloc (by simp) _
  have m0 : w1.heap[w.heap.size]? = some (.cells (fuc f).toArray 28 (0, 0)) := by rw [← hw1]; exact alloc2_at0 _ _ _
  have m1 : w1.heap[w.heap.size + 1]? = some (.cells #[.int .i64 o0, .int .i64 o1] 25 (0, 0)) := by rw [← hw1]; exact alloc2_at1 _ _ _
  have hz1 := hz.below (hb1.mono hB)
  have hB1 := Nat.le_trans hB hb1.size
  have HAL := Lib.hid (fun W => alive_any W)
  have hrd := fun W (hW : Below w1.heap.size w1 W) => ready9_any f hl B W (Nat.le_trans hB1 hW.size) (hz1.below (hW.mono hB1))
  have HNO := Lib.hid (fun W => rfNote_any o0 o1 W)
  have hno : okNo (o0, o1) = okS o0 o1 1 10000000 := rfl
  have hfi := fun (hok : okFu f = true) (hn : okNo (o0, o1) = true) W (hW : Below w1.heap.size w1 W) => fingers_any f hl (o0, o1) B W (Nat.le_trans hB1 hW.size) (hz1.below (hW.mono hB1))
  have hpl := fun (hok : okFu f = true) (hn : okNo (o0, o1) = true) n (h256 : n < 256) W (hW : Below w1.heap.size w1 W) => plays_any f hl n h256 (o0, o1) B W (Nat.le_trans hB1 hW.size) (hz1.below (hW.mono hB1))
  unfold FinPost at hfi
  unfold PlaPost at hpl
  have hfe : okFu f = true → okNo (o0, o1) = true → finE f (o0, o1) = 0 ∧ finL f (o0, o1) = fingZ f (o0, o1) (List.range (2 ^ f.hs.length)) := fun h1 h2 => ⟨by simp [finE, h1, h2], by simp [finL, h1, h2]⟩
  have hpe : okFu f = true → okNo (o0, o1) = true → ∀ n, n < 2 ^ f.hs.length → plaE f n (o0, o1) = 0 ∧ plaV f n (o0, o1) = knoF (airF f n) (o0, o1) (f.s0, f.s1) := fun h1 h2 n h3 => ⟨by simp [plaE, h1, h2, h3], by simp [plaV, h1, h2, h3]⟩
  have hcf := fun (W : World) (hW : Below w1.heap.size w1 W) => And.intro (fun i => cell_of_row W w.heap.size i _ _ _ ((hW.block _ (lt_of_heap m0)).trans m0)) (fun i => cell_of_row W (w.heap.size + 1) i _ _ _ ((hW.block _ (lt_of_heap m1)).trans m1))
  have H1 := Lib.hid hb1
  clear hz hb1 m0 m1 hz1
  unfold fuc at hw1 hcf hrd hfi hpl ⊢
  have HCF := Lib.hid hcf
  clear hcf
  have hrk := fun (h : rdyF f = true) => rdy_ok h
  generalize rdyF f = v1 at hrd hrk
  have HRD := Lib.hid hrd
  clear hrd
  rw [← hno] at HNO
  cases v1
  · clear hrk hfi hpl hfe hpe hno
    go_enter Try.func7, Try.ntmps7
    go_wp2_with (first
      | (go_at_call 13; refine (HAL.out _).mono ?_; rintro e w2 ⟨rfl, hB2⟩; obtain ⟨hc2, hc3⟩ := HCF.out w2 hB2; have H2 := Lib.hid hB2; clear hB2)
      | (go_at_call 32; refine (HRD.out w2 H2.out).mono ?_; rintro e w3 ⟨rfl, hB3⟩; have H3 := Lib.hid (H2.out.trans (hB3.mono H2.out.size)); clear hB3))
    go_ret
    exact ⟨rfl, H1.out.trans (H3.out.mono H1.out.size)⟩
  have hok := hrk rfl
  cases hnv : okNo (o0, o1)
  · rw [hnv] at HNO
    clear hrk hfi hpl hfe hpe hno hok hnv
    go_enter Try.func7, Try.ntmps7
    go_wp2_with (first
      | (go_at_call 13; refine (HAL.out _).mono ?_; rintro e w2 ⟨rfl, hB2⟩; obtain ⟨hc2, hc3⟩ := HCF.out w2 hB2; have H2 := Lib.hid hB2; clear hB2)
      | (go_at_call 32; refine (HRD.out w2 H2.out).mono ?_; rintro e w3 ⟨rfl, hB3⟩; obtain ⟨hc4, hc5⟩ := HCF.out w3 (H2.out.trans (hB3.mono H2.out.size)); have H3 := Lib.hid (H2.out.trans (hB3.mono H2.out.size)); clear hB3 hc2 hc3)
      | (go_at_call 33; refine (HNO.out w3).mono ?_; rintro e w4 ⟨rfl, hB4⟩; have H4 := Lib.hid (H3.out.trans (hB4.mono H3.out.size)); clear hB4))
    go_ret
    exact ⟨rfl, H1.out.trans (H4.out.mono H1.out.size)⟩
  rw [hnv] at HNO
  obtain ⟨hfe1, hfe2⟩ := hfe hok hnv
  have HFI := Lib.hid (hfi hok hnv)
  rw [hfe1, hfe2] at HFI
  have hlen8 := (okFu_bnd hok).2.2.2.2.1
  have hsp := (okFu_bnd hok).2.2.2.1
  have hkn : ∀ n, n < 2 ^ f.hs.length → (insB (o0, o1) (tonF f n) = true → knoF (airF f n) (o0, o1) (f.s0, f.s1) = 2) ∧ (insB (o0, o1) (tonF f n) = false → knoF (airF f n) (o0, o1) (f.s0, f.s1) = 0 ∨ knoF (airF f n) (o0, o1) (f.s0, f.s1) = 1) := fun n hn => kno_two (airF f n) (o0, o1) (f.s0, f.s1) (by have := airF_bnd hok hn; omega) (by dsimp only; omega)
  have HKN := Lib.hid (And.intro hkn (And.intro (hpe hok hnv) (hpl hok hnv)))
  clear hrk hfi hpl hfe hpe hno hok hnv hfe1 hfe2 hsp hkn
  have hN8 : 2 ^ f.hs.length ≤ 256 := Nat.pow_le_pow_right (n := 2) (by omega) hlen8
  obtain ⟨N, hN⟩ : ∃ N, N = 2 ^ f.hs.length := ⟨_, rfl⟩
  rw [← hN] at HKN hN8 HFI
  have hNz : ((2 : Int) ^ f.hs.length) = (N : Int) := by rw [hN]; simp
  have hNw : wrap64 ((2 : Int) ^ f.hs.length) = (N : Int) := by rw [hNz]; unfold wrap64; omega
  have hlz : (f.hs.length : Int) ≤ 8 := by omega
  have HNW := Lib.hid hNw
  have hNi : (N : Int) ≤ 256 := by omega
  have hZ := fun n (hn : n < N) h => fingZ_at f (o0, o1) (n := n) hn h
  have HZ := Lib.hid (And.intro hZ (And.intro (fun n h => fingZ_no f (o0, o1) (n := n) h) (fingZ_len f (o0, o1) (List.range N))))
  have hlx : ∀ n, (fingZ f (o0, o1) (List.range n)).length ≤ n := fun n => by have := fingZ_len f (o0, o1) (List.range n); simpa using this
  have HLX := Lib.hid hlx
  clear hZ hN hNz hNw hlx
  generalize hLL : fingZ f (o0, o1) (List.range N) = L at HFI HZ
  have hL0 : L.length = (fingZ f (o0, o1) (List.range N)).length := by rw [hLL]
  have HL0 := Lib.hid hL0
  have hLn : L.length ≤ 256 := by have := HLX.out N; omega
  clear hLL hL0
  go_enter Try.func7, Try.ntmps7
  go_wp2_with (first
    | (go_at_call 13; refine (HAL.out _).mono ?_; rintro e w2 ⟨rfl, hB2⟩; obtain ⟨hc2, hc3⟩ := HCF.out w2 hB2; have H2 := Lib.hid hB2; clear hB2)
    | (go_at_call 32; refine (HRD.out w2 H2.out).mono ?_; rintro e w3 ⟨rfl, hB3⟩; obtain ⟨hc4, hc5⟩ := HCF.out w3 (H2.out.trans (hB3.mono H2.out.size)); have H3 := Lib.hid (H2.out.trans (hB3.mono H2.out.size)); clear hB3 hc2 hc3)
    | (go_at_call 33; refine (HNO.out w3).mono ?_; rintro e w4 ⟨rfl, hB4⟩; obtain ⟨hc6, hc7⟩ := HCF.out w4 (H3.out.trans (hB4.mono H3.out.size)); have H4 := Lib.hid (H3.out.trans (hB4.mono H3.out.size)); clear hB4 hc4 hc5)
    | (go_at_call 27
       refine (HFI.out w4 H4.out).mono ?_
       rintro e w5 ⟨v, rfl, hU, hB5⟩
       obtain ⟨A5, c5, rfl⟩ := own_shape hU
       obtain ⟨hc8, hc9⟩ := HCF.out w5 (H4.out.trans (hB5.mono H4.out.size))
       have H5 := Lib.hid (And.intro hU (H4.out.trans (hB5.mono H4.out.size)))
       clear hU hB5 hc6 hc7))
  rw [HNW.out]
  go_loopg [8, 36] N (fun gg s8 s36 wx => ∃ n : Nat, n + gg = N ∧ s8 = .int .i64 ((fingZ f (o0, o1) (List.range n)).length : Int) ∧ s36 = .int .i64 n ∧ Hid (Below w5.heap.size w5 wx))
  case atStart => exact ⟨0, by omega, rfl, by go_num, Below.refl _ _⟩
  case round =>
    obtain ⟨n, hng, rfl, rfl, hBr⟩ := hrel
    clear hc8 hc9
    obtain ⟨hcA, hcB⟩ := HCF.out wr (H5.out.2.trans (hBr.out.mono H5.out.2.size))
    cases gk with
    | zero =>
      obtain rfl : n = N := by omega
      rw [← HL0.out]
      go_wp2
      go_ret
      exact ⟨by simp, H1.out.trans ((H5.out.2.trans (hBr.out.mono H5.out.2.size)).mono H1.out.size)⟩
    | succ gg =>
      have hn : n < N := by omega
      have hnz : (n : Int) < N := by omega
      have hn8 : (n : Int) ≤ 255 := by omega
      have hpl := HKN.out.2.2 n (by omega) wr (H5.out.2.trans (hBr.out.mono H5.out.2.size))
      obtain ⟨hpe1, hpe2⟩ := HKN.out.2.1 n hn
      rw [hpe1, hpe2] at hpl
      have hkn := HKN.out.1 n hn
      have hza := HZ.out.1 n hn
      have hzn := HZ.out.2.1 n
      have hi9 := HLX.out n
      generalize hii : (fingZ f (o0, o1) (List.range n)).length = i at hza hzn hi9
      generalize knoF (airF f n) (o0, o1) (f.s0, f.s1) = kv at hpl hkn
      have HPL := Lib.hid hpl
      have HII := Lib.hid hii
      clear hpl hpe1 hpe2 hii
      cases hin : insB (o0, o1) (tonF f n)
      · have hk := hkn.2 hin
        have HS := Lib.hid (hzn hin)
        clear hkn hza hzn hin
        rcases hk with rfl | rfl
        all_goals
          go_wp2_with (go_at_call 22; refine HPL.out.mono ?_; rintro e w6 ⟨rfl, hB6⟩; have H6 := Lib.hid (hBr.out.trans (hB6.mono hBr.out.size)); clear hB6 hcA hcB)
          go_roundg gg
          case measure => omega
          case rel => exact ⟨n + 1, by omega, by rw [HS.out], by go_num, H6.out⟩
      · obtain rfl := hkn.1 hin
        obtain ⟨hz1, hz2, hz3⟩ := hza hin
        have HS := Lib.hid hz3
        have hvs := Vals.own H5.out.1
        obtain ⟨bb, off, rfl, hbl, hcc⟩ := hvs (by simp [u8s]; omega)
        have hci : wr.cell? ⟨bb, off + i, none⟩ = some (.int .u8 (n : Int)) := (hBr.out.cell (p := ⟨bb, off + i, none⟩) hbl).trans (hcc i _ (by rw [← hz2]; simp [u8s, hz1]))
        have hbl2 := hbl
        have HCI := Lib.hid (And.intro hbl hci)
        have hil : (i : Int) < L.length := by omega
        have hge : decide ((L.length : Int) ≤ (i : Int)) = false := decide_eq_false (by omega)
        clear hkn hza hzn hin hvs hcc hz2 hz3 hci hbl hbl2 hz1
        go_wp2_with (go_at_call 22; refine HPL.out.mono ?_; rintro e w6 ⟨rfl, hB6⟩
                     have hc6 : w6.cell? ⟨bb, off + i, none⟩ = some (.int .u8 (n : Int)) := (hB6.cell (p := ⟨bb, off + i, none⟩) (Nat.lt_of_lt_of_le HCI.out.1 hBr.out.size)).trans HCI.out.2
                     have H6 := Lib.hid (hBr.out.trans (hB6.mono hBr.out.size)); clear hB6 hcA hcB)
        go_roundg gg
        case measure => omega
        case rel => exact ⟨n + 1, by omega, by rw [HS.out]; go_num, by go_num, H6.out⟩

set_option maxRecDepth 100000 in
set_option maxHeartbeats 4000000 in
theorem fluteAll_law (f : Fu) (o : Int × Int) (B : Nat) (w : World) (hB : B ≤ w.heap.size) (hz : FuAt w B f) :
    Calls Try.prog 7 #[.agg (fuc f).toArray, .agg #[.int .i64 o.1, .int .i64 o.2]] w fun e w' => e = .returned (.bool true) ∧ Below w.heap.size w w' := by
  by_cases h12 : f.hs.length ≤ 12
  · exact fluteAll_some f (by omega) o B w hB hz
  clear hz hB
  obtain ⟨o0, o1⟩ := o
  dsimp only
  obtain ⟨w1, hw1⟩ : ∃ w1, (w.alloc (.cells (fuc f).toArray 28)).alloc (.cells #[.int .i64 o0, .int .i64 o1] 25) = w1 := ⟨_, rfl⟩
  have hb1 : Below w.heap.size w w1 := by rw [← hw1]; exact ((Below.refl _ _).alloc (Nat.le_refl _) _).alloc (by simp) _
  have m0 : w1.heap[w.heap.size]? = some (.cells (fuc f).toArray 28 (0, 0)) := by rw [← hw1]; exact alloc2_at0 _ _ _
  have HAL := Lib.hid (fun W => alive_any W)
  have HRD := Lib.hid (fun W => ready9_big f h12 W)
  have hcf := fun (W : World) (hW : Below w1.heap.size w1 W) i => cell_of_row W w.heap.size i _ _ _ ((hW.block _ (lt_of_heap m0)).trans m0)
  have H1 := Lib.hid hb1
  clear hb1 m0 h12
  unfold fuc at hw1 hcf HRD ⊢
  have HCF := Lib.hid hcf
  clear hcf
  go_enter Try.func7, Try.ntmps7
  go_wp2_with (first
    | (go_at_call 13; refine (HAL.out _).mono ?_; rintro e w2 ⟨rfl, hB2⟩; have hc2 := HCF.out w2 hB2; have H2 := Lib.hid hB2; clear hB2)
    | (go_at_call 32; refine (HRD.out w2).mono ?_; rintro e w3 ⟨rfl, hB3⟩; have H3 := Lib.hid (H2.out.trans (hB3.mono H2.out.size)); clear hB3))
  go_ret
  exact ⟨rfl, H1.out.trans (H3.out.mono H1.out.size)⟩

end Go.Proofs.Ytjjipkgconmfcaa

namespace Go.Proofs.Ytjjipkgconmfcaa
open Go.RowKit

theorem meet_of (a o s : Int × Int) {l p : Int} (ha : 50 ≤ a.1) (hl : a.1 ≤ l ∧ l ≤ a.2) (hs : 0 ≤ s.1) (hp : s.1 ≤ p ∧ p ≤ s.2) (h : o.1 ≤ 500 * p / l ∧ 500 * p / l ≤ o.2) : meetF a o s = true := by
  obtain ⟨a0, a1⟩ := a
  obtain ⟨o0, o1⟩ := o
  obtain ⟨s0, s1⟩ := s
  dsimp only at *
  obtain ⟨k, hk⟩ : ∃ k : Nat, l = a0 + (k : Int) := ⟨(l - a0).toNat, by omega⟩
  refine any_upto (p := fun d => metL (o0, o1) (s0, s1) (a0 + d)) (k := k) (by dsimp only; omega) ?_
  rw [← hk]
  have hm : o0 * l ≤ 500 * p := (Int.le_ediv_iff_mul_le (by omega)).1 h.1
  have hmx : max s0 ((o0 * l + 499) / 500) ≤ p := by
    generalize o0 * l = P at hm
    omega
  have hmx0 : s0 ≤ max s0 ((o0 * l + 499) / 500) := by omega
  unfold metL
  dsimp only
  generalize max s0 ((o0 * l + 499) / 500) = m at hmx hmx0
  have h3 : 500 * m / l ≤ 500 * p / l := Int.ediv_le_ediv (by omega) (by omega)
  rw [decide_eq_true (show m ≤ s1 by omega), decide_eq_true (show 500 * m / l ≤ o1 by omega)]
  rfl

theorem soF_in {f : Fu} (hok : okFu f = true) (us : List Int) {n : Nat} (hn : n < 2 ^ f.hs.length) : (tonF f n).1 ≤ soF f us n ∧ soF f us n ≤ (tonF f n).2 := by
  obtain ⟨h1, h2, h3, h4, h5, h6⟩ := okFu_bnd hok
  have ha := airF_bnd hok hn
  have hs := soA_bnd hok us hn
  have hp := pickL_bnd (n := atL us 1) h4.2.1
  unfold soF tonF tonA
  dsimp only
  generalize soA f us n = l at hs
  generalize pickL f.s0 f.s1 (atL us 1) = p at hp
  have e1 : 500 * f.s0 / (airF f n).2 ≤ 500 * f.s0 / l := ediv_anti (by omega) (by omega) hs.2
  have e2 : 500 * f.s0 / l ≤ 500 * p / l := Int.ediv_le_ediv (by omega) (by omega)
  have e3 : 500 * p / l ≤ 500 * f.s1 / l := Int.ediv_le_ediv (by omega) (by omega)
  have e4 : 500 * f.s1 / l ≤ 500 * f.s1 / (airF f n).1 := ediv_anti (by omega) (by omega) hs.1
  omega
/-- What is known of a note is so. -/
theorem kno_so {f : Fu} (hok : okFu f = true) (us : List Int) {n : Nat} (hn : n < 2 ^ f.hs.length) (o : Int × Int) :
    (knoF (airF f n) o (f.s0, f.s1) = 0 ∨ knoF (airF f n) o (f.s0, f.s1) = 1 ∨ knoF (airF f n) o (f.s0, f.s1) = 2) ∧
    (knoF (airF f n) o (f.s0, f.s1) = 2 → o.1 ≤ soF f us n ∧ soF f us n ≤ o.2) ∧ (knoF (airF f n) o (f.s0, f.s1) = 0 → ¬ (o.1 ≤ soF f us n ∧ soF f us n ≤ o.2)) := by
  obtain ⟨h1, h2, h3, h4, h5, h6⟩ := okFu_bnd hok
  have ha := airF_bnd hok hn
  have hs := soA_bnd hok us hn
  have hp := pickL_bnd (n := atL us 1) h4.2.1
  have hin := soF_in hok us hn
  have hm : o.1 ≤ soF f us n ∧ soF f us n ≤ o.2 → meetF (airF f n) o (f.s0, f.s1) = true := fun h => meet_of _ _ _ ha.1 hs (by dsimp only; omega) hp h
  unfold knoF
  cases hi : insB o (tonA f.s0 f.s1 (airF f n))
  · cases hmt : meetF (airF f n) o (f.s0, f.s1)
    · refine ⟨.inl rfl, fun h => absurd h (by decide), fun _ h => ?_⟩
      rw [hm h] at hmt; cases hmt
    · exact ⟨.inr (.inl rfl), fun h => absurd h (by decide), fun h => absurd h (by decide)⟩
  · have hib : o.1 ≤ (tonF f n).1 ∧ (tonF f n).2 ≤ o.2 := by
      unfold insB at hi
      simp only [Bool.and_eq_true, decide_eq_true_eq] at hi
      exact hi
    rw [hm (by omega)]
    exact ⟨.inr (.inr rfl), fun _ => by omega, fun h => absurd h (by decide)⟩

theorem hoL_map (len : Int) : ∀ (hs : List Ho) (least : Int) (g : Nat → Ho → Ho), (∀ i h, h ∈ hs → okS h.lo h.hi 0 60 = true → (g i h).a = h.a ∧ okS (g i h).lo (g i h).hi 0 60 = true) → hoL len hs least = true → hoL len (hs.mapIdx g) least = true
  | [], _, _, _, _ => by simp [hoL]
  | h :: l, least, g, hg, hh => by
    simp only [hoL, Bool.and_eq_true] at hh
    obtain ⟨h1, h2⟩ := hg 0 h (List.mem_cons_self) hh.1.2
    rw [List.mapIdx_cons]
    simp only [hoL, Bool.and_eq_true]
    rw [h1]
    exact ⟨⟨hh.1.1, h2⟩, hoL_map len l _ (fun i => g (i + 1)) (fun i x hx => hg (i + 1) x (List.mem_cons_of_mem _ hx)) hh.2⟩
def lowH (_ : Nat) (h : Ho) : Ho := ⟨h.a, h.hi, h.hi⟩
def highH (_ : Nat) (h : Ho) : Ho := ⟨h.a, h.lo, h.lo⟩
def lowF (f : Fu) (A : Option Addr) (c : Nat) : Fu := ⟨f.len, f.e1, f.e1, f.c1, f.c1, f.s0, f.s0, A, c, f.hs.mapIdx lowH⟩
def highF (f : Fu) (A : Option Addr) (c : Nat) : Fu := ⟨f.len, f.e0, f.e0, f.c0, f.c0, f.s1, f.s1, A, c, f.hs.mapIdx highH⟩
theorem getD_mapIdx {hs : List Ho} {g : Nat → Ho → Ho} {i : Nat} (hi : i < hs.length) : (hs.mapIdx g)[i]?.getD ⟨0, 0, 0⟩ = g i (hs[i]?.getD ⟨0, 0, 0⟩) := by simp [hi]
theorem low_ok {f : Fu} (hok : okFu f = true) (A : Option Addr) (c : Nat) : okFu (lowF f A c) = true ∧ okFu (highF f A c) = true := by
  have hb := okFu_bnd hok
  obtain ⟨h1, h2, h3, h4, h5, h6⟩ := hb
  simp only [okFu, Bool.and_eq_true, allB_one, inR_iff, okS_iff, decide_eq_true_eq] at hok
  have hl := hok.2
  simp only [lowF, highF, okFu, Bool.and_eq_true, allB_one, inR_iff, okS_iff, decide_eq_true_eq, List.length_mapIdx]
  exact ⟨⟨⟨⟨⟨⟨h1, by omega⟩, by omega⟩, by omega⟩, h5⟩, hoL_map _ _ _ _ (fun i h _ hh => ⟨rfl, by rw [okS_iff] at hh ⊢; simp only [lowH]; omega⟩) hl⟩, ⟨⟨⟨⟨h1, by omega⟩, by omega⟩, by omega⟩, h5⟩, hoL_map _ _ _ _ (fun i h _ hh => ⟨rfl, by rw [okS_iff] at hh ⊢; simp only [highH]; omega⟩) hl⟩
theorem low_air {f : Fu} (hok : okFu f = true) (A : Option Addr) (c : Nat) {n : Nat} (hn : n < 2 ^ f.hs.length) : airF (lowF f A c) n = ((airF f n).2, (airF f n).2) ∧ airF (highF f A c) n = ((airF f n).1, (airF f n).1) := by
  obtain ⟨h1, h2, h3, h4, h5, h6⟩ := okFu_bnd hok
  unfold airF
  by_cases h0 : n = 0
  · simp only [if_pos h0, lowF, highF, and_self]
  · have hn8 : n < 256 := Nat.lt_of_lt_of_le hn (Nat.pow_le_pow_right (n := 2) (by omega) h5)
    have hi := tz8_lt hn8 h0 hn
    simp only [if_neg h0, lowF, highF, List.length_mapIdx, getD_mapIdx hi, lowH, highH, and_self]
theorem so_ends {f : Fu} (hok : okFu f = true) (A : Option Addr) (c : Nat) (us : List Int) {n : Nat} (hn : n < 2 ^ f.hs.length) : soF (lowF f A c) us n = (tonF f n).1 ∧ soF (highF f A c) us n = (tonF f n).2 := by
  obtain ⟨hl, hh⟩ := low_ok hok A c
  obtain ⟨al, ah⟩ := low_air hok A c hn
  have el : (lowF f A c).hs.length = f.hs.length := by simp [lowF]
  have eh : (highF f A c).hs.length = f.hs.length := by simp [highF]
  have h1 := soF_in hl us (n := n) (by rw [el]; exact hn)
  have h2 := soF_in hh us (n := n) (by rw [eh]; exact hn)
  unfold tonF at h1 h2 ⊢
  rw [al] at h1
  rw [ah] at h2
  simp only [lowF, highF, tonA] at h1 h2 ⊢
  omega

end Go.Proofs.Ytjjipkgconmfcaa

namespace Go.Proofs.Ytjjipkgconmfcaa
open Go.RowKit Go.Maps
open R6 (done done_ne done_me upd_ne upd_me)

attribute [local go_sem] gives

def twb (v : Value) : Nat := match v with
  | .agg cs => (cs.getD 7 undef).ownBlock.getD 0
  | _ => 0
def ptb (v : Value) : Nat := match v with
  | .pointer (some a) => a.block
  | _ => 0
def TwK (w0 : World) (f : Fu) (v : Value) (W : World) : Prop := ∃ c tl, v = .agg (fuc (fuAt' f (some ⟨twb v, 0, none⟩) c)).toArray ∧ w0.heap.size ≤ twb v ∧ OwnHo W (twb v) f.hs tl
def BxK (w0 : World) (v : Value) (W : World) (x : Value) : Prop := v = .pointer (some ⟨ptb v, 0, none⟩) ∧ w0.heap.size ≤ ptb v ∧ ∃ cs : List Value, cs.length = 8 ∧ (∀ v ∈ cs, v.oneCell' = true) ∧ x = .agg cs.toArray ∧ W.heap[ptb v]? = some (.cells cs.toArray 28 (0, 0))
def zeF : List Value := [.int .i64 0, .int .i64 0, .int .i64 0, .int .i64 0, .int .i64 0, .int .i64 0, .int .i64 0, .slice none 0 0]
theorem TwK.keep {w0 : World} {f : Fu} {v : Value} {W W' : World} (h : TwK w0 f v W) (hk : ∀ (b : Nat) (cur : Array Value), W.heap[b]? = some (.cells cur 38 (0, 0)) → W'.heap[b]? = W.heap[b]?) : TwK w0 f v W' :=
  let ⟨c, tl, e, hb, ho⟩ := h
  ⟨c, tl, e, hb, (hk _ _ ho).trans ho⟩
theorem TwK.grows {w0 : World} {f : Fu} {v : Value} {W W' : World} (h : TwK w0 f v W) (hg : Grows W W') : TwK w0 f v W' := h.keep (fun b _ hb => hg.block b (lt_of_heap hb))
theorem TwK.lt {w0 : World} {f : Fu} {v : Value} {W : World} (h : TwK w0 f v W) : twb v < W.heap.size := let ⟨_, _, _, _, ho⟩ := h; lt_of_heap ho
theorem BxK.keep {w0 : World} {v x : Value} {W W' : World} (h : BxK w0 v W x) (hk : W'.heap[ptb v]? = W.heap[ptb v]?) : BxK w0 v W' x :=
  let ⟨e, hb, cs, hl, h1, hx, ho⟩ := h
  ⟨e, hb, cs, hl, h1, hx, hk.trans ho⟩
theorem BxK.lt {w0 : World} {v x : Value} {W : World} (h : BxK w0 v W x) : ptb v < W.heap.size := let ⟨_, _, _, _, _, _, ho⟩ := h; lt_of_heap ho
theorem BxK.grows {w0 : World} {v x : Value} {W W' : World} (h : BxK w0 v W x) (hg : Grows W W') : BxK w0 v W' x := h.keep (hg.block _ h.lt)

structure TwC (w0 : World) (f : Fu) (D : Nat → Bool) (σ : Nat → Value) (W : World) : Prop where
  bel : Below w0.heap.size w0 W
  t1 : D 1 = true → TwK w0 f (σ 97) W
  t3 : D 3 = true → TwK w0 f (σ 99) W
  n1 : D 1 = true → D 3 = true → twb (σ 97) ≠ twb (σ 99)
  a4 : D 4 = true → BxK w0 (σ 16) W (if D 6 = true then σ 97 else .agg zeF.toArray)
  a5 : D 5 = true → BxK w0 (σ 17) W (if D 7 = true then σ 99 else .agg zeF.toArray)
  n2 : D 4 = true → D 5 = true → ptb (σ 16) ≠ ptb (σ 17)
section
variable {w0 W W' : World} {f : Fu} {D : Nat → Bool} {σ : Nat → Value}
theorem TwC.move {k : Nat} {d : Nat} {v : Value} (h : TwC w0 f D σ W) (hk : (k == 1 || k == 3 || k == 4 || k == 5 || k == 6 || k == 7) = false) (hd : (d == 97 || d == 99 || d == 16 || d == 17) = false) : TwC w0 f (done D k) (R4.upd σ (some d) v) W := by
  simp only [Bool.or_eq_false_iff, beq_eq_false_iff_ne, ne_eq] at hk hd
  obtain ⟨⟨⟨⟨⟨k1, k3⟩, k4⟩, k5⟩, k6⟩, k7⟩ := hk
  obtain ⟨⟨⟨d1, d3⟩, d4⟩, d5⟩ := hd
  have e : ∀ x, d ≠ x → R4.upd σ (some d) v x = σ x := fun x hx => upd_ne (fun e => hx (Option.some.inj e))
  have c : ∀ x, k ≠ x → done D k x = D x := fun x hx => done_ne (Ne.symm hx)
  have q1 := c 1 k1
  have q3 := c 3 k3
  have q4 := c 4 k4
  have q5 := c 5 k5
  have q6 := c 6 k6
  have q7 := c 7 k7
  refine ⟨h.bel, ?_, ?_, ?_, ?_, ?_, ?_⟩
  · rw [q1, e 97 d1]; exact h.t1
  · rw [q3, e 99 d3]; exact h.t3
  · rw [q1, q3, e 97 d1, e 99 d3]; exact h.n1
  · rw [q4, q6, e 97 d1, e 16 d4]; exact h.a4
  · rw [q5, q7, e 99 d3, e 17 d5]; exact h.a5
  · rw [q4, q5, e 16 d4, e 17 d5]; exact h.n2
theorem TwC.next (h : TwC w0 f D σ W) (hg : Grows W W') : TwC w0 f D σ W' :=
  ⟨h.bel.trans (hg.mono h.bel.size), fun hd => (h.t1 hd).grows hg, fun hd => (h.t3 hd).grows hg, h.n1, fun hd => (h.a4 hd).grows hg, fun hd => (h.a5 hd).grows hg, h.n2⟩
theorem dn (k j : Nat) (h : (j == k) = false := by rfl) : done D k j = D j := done_ne (fun e => by rw [e] at h; simp at h)
theorem un (d j : Nat) (v : Value) (h : (d == j) = false := by rfl) : R4.upd σ (some d) v j = σ j := upd_ne (fun e => by rw [Option.some.inj e] at h; simp at h)
theorem TwC.call1 {v : Value} (h : TwC w0 f D σ W) (hg : Grows W W') (hv : TwK w0 f v W') (hn : W.heap.size ≤ twb v) (h6 : D 6 = false) : TwC w0 f (done D 1) (R4.upd σ (some 97) v) W' := by
  have h2 := h.next hg
  refine ⟨h2.bel, fun _ => by rw [upd_me]; exact hv, ?_, fun _ hd => ?_, ?_, ?_, ?_⟩
  · rw [dn 1 3, un 97 99]; exact h2.t3
  · rw [dn 1 3] at hd; rw [upd_me, un 97 99]; have := (h.t3 hd).lt; omega
  · rw [dn 1 4, dn 1 6, h6, un 97 16]; intro hd; have := h2.a4 hd; rw [h6] at this; exact this
  · rw [dn 1 5, dn 1 7, un 97 17, un 97 99]; exact h2.a5
  · rw [dn 1 4, dn 1 5, un 97 16, un 97 17]; exact h2.n2
theorem TwC.call3 {v : Value} (h : TwC w0 f D σ W) (hg : Grows W W') (hv : TwK w0 f v W') (hn : W.heap.size ≤ twb v) (h7 : D 7 = false) : TwC w0 f (done D 3) (R4.upd σ (some 99) v) W' := by
  have h2 := h.next hg
  refine ⟨h2.bel, ?_, fun _ => by rw [upd_me]; exact hv, fun hd _ => ?_, ?_, ?_, ?_⟩
  · rw [dn 3 1, un 99 97]; exact h2.t1
  · rw [dn 3 1] at hd; rw [upd_me, un 99 97]; have := (h.t1 hd).lt; omega
  · rw [dn 3 4, dn 3 6, un 99 16, un 99 97]; exact h2.a4
  · rw [dn 3 5, dn 3 7, h7, un 99 17]; intro hd; have := h2.a5 hd; rw [h7] at this; exact this
  · rw [dn 3 4, dn 3 5, un 99 16, un 99 17]; exact h2.n2
theorem bx_new (hb : Below w0.heap.size w0 W) : BxK w0 (.pointer (some ⟨W.heap.size, 0, none⟩)) (W.alloc (.cells zeF.toArray 28)) (.agg zeF.toArray) :=
  ⟨rfl, hb.size, zeF, rfl, by decide, rfl, alloc_at0 W _⟩
theorem TwC.box4 (h : TwC w0 f D σ W) (h6 : D 6 = false) : TwC w0 f (done D 4) (R4.upd σ (some 16) (.pointer (some ⟨W.heap.size, 0, none⟩))) (W.alloc (.cells zeF.toArray 28)) := by
  have h2 := h.next (grow1 W (.cells zeF.toArray 28))
  refine ⟨h2.bel, ?_, ?_, ?_, ?_, ?_, ?_⟩
  · rw [dn 4 1, un 16 97]; exact h2.t1
  · rw [dn 4 3, un 16 99]; exact h2.t3
  · rw [dn 4 1, dn 4 3, un 16 97, un 16 99]; exact h2.n1
  · rw [dn 4 6, h6, upd_me]; exact fun _ => bx_new h.bel
  · rw [dn 4 5, dn 4 7, un 16 17, un 16 99]; exact h2.a5
  · rw [dn 4 5, upd_me, un 16 17]; intro _ hd; have := (h.a5 hd).lt; unfold ptb at this ⊢; dsimp only; omega
theorem TwC.box5 (h : TwC w0 f D σ W) (h7 : D 7 = false) : TwC w0 f (done D 5) (R4.upd σ (some 17) (.pointer (some ⟨W.heap.size, 0, none⟩))) (W.alloc (.cells zeF.toArray 28)) := by
  have h2 := h.next (grow1 W (.cells zeF.toArray 28))
  refine ⟨h2.bel, ?_, ?_, ?_, ?_, ?_, ?_⟩
  · rw [dn 5 1, un 17 97]; exact h2.t1
  · rw [dn 5 3, un 17 99]; exact h2.t3
  · rw [dn 5 1, dn 5 3, un 17 97, un 17 99]; exact h2.n1
  · rw [dn 5 4, dn 5 6, un 17 16, un 17 97]; exact h2.a4
  · rw [dn 5 7, h7, upd_me]; exact fun _ => bx_new h.bel
  · rw [dn 5 4, upd_me, un 17 16]; intro hd _; have := (h.a4 hd).lt; unfold ptb at this ⊢; dsimp only; omega
theorem put_hole {b : Nat} {cs : List Value} (hP : Put W W' b) (hb : W.heap[b]? = some (.cells cs.toArray 28 (0, 0))) (k : Nat) (cur : Array Value) (hk : W.heap[k]? = some (.cells cur 38 (0, 0))) : W'.heap[k]? = W.heap[k]? :=
  hP.other k (fun e => by rw [e, hb] at hk; simp only [Option.some.injEq, Obj.cells.injEq] at hk; exact absurd hk.2.1 (by decide))
theorem TwC.put6 (h : TwC w0 f D σ W) {L : List Value} (h4 : D 4 = true) (h7 : D 7 = false) (hP : Put W W' (ptb (σ 16))) (hL : L.length = 8) (h1 : ∀ v ∈ L, v.oneCell' = true) (hv : σ 97 = .agg L.toArray) (hM : W'.heap[ptb (σ 16)]? = some (.cells L.toArray 28 (0, 0))) : TwC w0 f (done D 6) (R4.upd σ none undef) W' := by
  have e : R4.upd σ none undef = σ := by funext t; rfl
  rw [e]
  obtain ⟨e4, b4, cs, hl, -, hx, ho⟩ := h.a4 h4
  have hh := fun k cur hk => put_hole hP ho k cur hk
  refine ⟨h.bel.trans (hP.below b4), ?_, ?_, ?_, ?_, ?_, ?_⟩
  · rw [dn 6 1]; exact fun hd => (h.t1 hd).keep hh
  · rw [dn 6 3]; exact fun hd => (h.t3 hd).keep hh
  · rw [dn 6 1, dn 6 3]; exact h.n1
  · rw [dn 6 4, done_me, if_pos rfl]; exact fun _ => ⟨e4, b4, L, hL, h1, hv, hM⟩
  · rw [dn 6 5, dn 6 7]; exact fun hd => (h.a5 hd).keep (hP.other _ (Ne.symm (h.n2 h4 hd)))
  · rw [dn 6 4, dn 6 5]; exact h.n2
theorem TwC.put7 (h : TwC w0 f D σ W) {L : List Value} (h5 : D 5 = true) (hP : Put W W' (ptb (σ 17))) (hL : L.length = 8) (h1 : ∀ v ∈ L, v.oneCell' = true) (hv : σ 99 = .agg L.toArray) (hM : W'.heap[ptb (σ 17)]? = some (.cells L.toArray 28 (0, 0))) : TwC w0 f (done D 7) (R4.upd σ none undef) W' := by
  have e : R4.upd σ none undef = σ := by funext t; rfl
  rw [e]
  obtain ⟨e5, b5, cs, hl, -, hx, ho⟩ := h.a5 h5
  have hh := fun k cur hk => put_hole hP ho k cur hk
  refine ⟨h.bel.trans (hP.below b5), ?_, ?_, ?_, ?_, ?_, ?_⟩
  · rw [dn 7 1]; exact fun hd => (h.t1 hd).keep hh
  · rw [dn 7 3]; exact fun hd => (h.t3 hd).keep hh
  · rw [dn 7 1, dn 7 3]; exact h.n1
  · rw [dn 7 4, dn 7 6]; exact fun hd => (h.a4 hd).keep (hP.other _ (h.n2 hd h5))
  · rw [dn 7 5, done_me, if_pos rfl]; exact fun _ => ⟨e5, b5, L, hL, h1, hv, hM⟩
  · rw [dn 7 4, dn 7 5]; exact h.n2
theorem TwC.start (hD : ∀ k, D k = false) : TwC w0 f D σ w0.drew :=
  have no : ∀ {p : Prop} (k : Nat), D k = true → p := fun k h => by rw [hD] at h; cases h
  ⟨(Below.refl _ _).drew, no 1, no 3, no 1, no 4, no 5, no 4⟩
end

/-- The two boxes and the holes of both. -/
structure Tw2 (w0 : World) (b6 b7 g1 g3 : Nat) (x6 x7 : List Value) (h1 : List Ho) (tl1 : List Value) (h3 : List Ho) (tl3 : List Value) (W : World) : Prop where
  bel : Below w0.heap.size w0 W
  m6 : W.heap[b6]? = some (.cells x6.toArray 28 (0, 0))
  m7 : W.heap[b7]? = some (.cells x7.toArray 28 (0, 0))
  o1 : OwnHo W g1 h1 tl1
  o3 : OwnHo W g3 h3 tl3
structure NeB (w0 : World) (b6 b7 g1 g3 : Nat) : Prop where
  a6 : w0.heap.size ≤ b6
  a7 : w0.heap.size ≤ b7
  a1 : w0.heap.size ≤ g1
  a3 : w0.heap.size ≤ g3
  n67 : b6 ≠ b7
  n13 : g1 ≠ g3
  n61 : b6 ≠ g1
  n63 : b6 ≠ g3
  n71 : b7 ≠ g1
  n73 : b7 ≠ g3
theorem ne_types {W : World} {b g : Nat} {cs : List Value} {hs : List Ho} {tl : List Value} (hb : W.heap[b]? = some (.cells cs.toArray 28 (0, 0))) (ho : OwnHo W g hs tl) : b ≠ g := fun e => by
  unfold OwnHo at ho
  rw [← e, hb] at ho
  simp only [Option.some.injEq, Obj.cells.injEq] at ho
  exact absurd ho.2.1 (by decide)
section
variable {w0 W W' : World} {b6 b7 g1 g3 : Nat} {x6 x7 y : List Value} {h1 h3 h : List Ho} {tl1 tl3 : List Value}
theorem Tw2.put6 (hT : Tw2 w0 b6 b7 g1 g3 x6 x7 h1 tl1 h3 tl3 W) (hN : NeB w0 b6 b7 g1 g3) (hb : Below b6 W W') (ho : ∀ k, k ≠ b6 → W'.heap[k]? = W.heap[k]?) (hM : W'.heap[b6]? = some (.cells y.toArray 28 (0, 0))) : Tw2 w0 b6 b7 g1 g3 y x7 h1 tl1 h3 tl3 W' :=
  ⟨hT.bel.trans (hb.mono hN.a6), hM, (ho _ (Ne.symm hN.n67)).trans hT.m7, (ho _ (Ne.symm hN.n61)).trans hT.o1, (ho _ (Ne.symm hN.n63)).trans hT.o3⟩
theorem Tw2.put7 (hT : Tw2 w0 b6 b7 g1 g3 x6 x7 h1 tl1 h3 tl3 W) (hN : NeB w0 b6 b7 g1 g3) (hb : Below b7 W W') (ho : ∀ k, k ≠ b7 → W'.heap[k]? = W.heap[k]?) (hM : W'.heap[b7]? = some (.cells y.toArray 28 (0, 0))) : Tw2 w0 b6 b7 g1 g3 x6 y h1 tl1 h3 tl3 W' :=
  ⟨hT.bel.trans (hb.mono hN.a7), (ho _ hN.n67).trans hT.m6, hM, (ho _ (Ne.symm hN.n71)).trans hT.o1, (ho _ (Ne.symm hN.n73)).trans hT.o3⟩
theorem Tw2.put1 (hT : Tw2 w0 b6 b7 g1 g3 x6 x7 h1 tl1 h3 tl3 W) (hN : NeB w0 b6 b7 g1 g3) (hb : Below g1 W W') (ho : ∀ k, k ≠ g1 → W'.heap[k]? = W.heap[k]?) (hM : OwnHo W' g1 h tl1) : Tw2 w0 b6 b7 g1 g3 x6 x7 h tl1 h3 tl3 W' :=
  ⟨hT.bel.trans (hb.mono hN.a1), (ho _ hN.n61).trans hT.m6, (ho _ hN.n71).trans hT.m7, hM, (ho _ (Ne.symm hN.n13)).trans hT.o3⟩
theorem Tw2.put3 (hT : Tw2 w0 b6 b7 g1 g3 x6 x7 h1 tl1 h3 tl3 W) (hN : NeB w0 b6 b7 g1 g3) (hb : Below g3 W W') (ho : ∀ k, k ≠ g3 → W'.heap[k]? = W.heap[k]?) (hM : OwnHo W' g3 h tl3) : Tw2 w0 b6 b7 g1 g3 x6 x7 h1 tl1 h tl3 W' :=
  ⟨hT.bel.trans (hb.mono hN.a3), (ho _ hN.n63).trans hT.m6, (ho _ hN.n73).trans hT.m7, (ho _ hN.n13).trans hT.o1, hM⟩
theorem Tw2.grows (hT : Tw2 w0 b6 b7 g1 g3 x6 x7 h1 tl1 h3 tl3 W) (hg : Grows W W') : Tw2 w0 b6 b7 g1 g3 x6 x7 h1 tl1 h3 tl3 W' :=
  ⟨hT.bel.trans (hg.mono hT.bel.size), (hg.block _ (lt_of_heap hT.m6)).trans hT.m6, (hg.block _ (lt_of_heap hT.m7)).trans hT.m7, (hg.block _ (lt_of_heap hT.o1)).trans hT.o1, (hg.block _ (lt_of_heap hT.o3)).trans hT.o3⟩
end
/-- The fields of the low one and of the high one, as they are written. -/
def lowB (f : Fu) (g c : Nat) (D : Nat → Bool) : List Value := [.int .i64 f.len, .int .i64 (if D 11 = true then f.e1 else f.e0), .int .i64 f.e1, .int .i64 (if D 14 = true then f.c1 else f.c0), .int .i64 f.c1, .int .i64 f.s0, .int .i64 (if D 17 = true then f.s0 else f.s1), .slice (some ⟨g, 0, none⟩) f.hs.length c]
def highB (f : Fu) (g c : Nat) (D : Nat → Bool) : List Value := [.int .i64 f.len, .int .i64 f.e0, .int .i64 (if D 11 = true then f.e0 else f.e1), .int .i64 f.c0, .int .i64 (if D 14 = true then f.c0 else f.c1), .int .i64 (if D 17 = true then f.s1 else f.s0), .int .i64 f.s1, .slice (some ⟨g, 0, none⟩) f.hs.length c]
theorem infoI9 : (Try.prog.info? 3).map (·.size) = some 1 := by kernel_rfl
/-- A cell of the next hole, written at the region's end. -/
def nxB (g : Nat → Ho → Ho) (k : Nat) (hs : List Ho) (tl : List Value) (D : Nat → Bool) : List Value := if D 13 = true then (mapK g (k + 1) hs).flatMap hoc ++ tl else (mapK g k hs).flatMap hoc ++ tl

end Go.Proofs.Ytjjipkgconmfcaa
