/-
  Texts laid together: FwG, FwE, FvO, FvH, FvP0.
-/
import Derived.Test.YtjjipkgconmfcaaQN91
import Derived.Test.YtjjipkgconmfcaaQN92
import Derived.Test.YtjjipkgconmfcaaQN93
set_option linter.all false
namespace Go.Proofs.Ytjjipkgconmfcaa
open Go.RowKit

/-- What a place has to be behind those before it. -/
def PlOk (b : Bk) (os : List (Int × Int)) (ls : List Int) (i : Nat) : Prop :=
  50 ≤ ls[i]?.getD 0 ∧ plB b (i == 0) (os[i]?.getD (0, 0)) (ls[i]?.getD 0) = true ∧ (i = 0 → ls[i]?.getD 0 ≤ b.len) ∧ (0 < i → ls[i]?.getD 0 ≤ ls[i - 1]?.getD 0 - b.gap ∧ nearB b (ls[i]?.getD 0) = false)
theorem drG_ok (b : Bk) (os0 : List (Int × Int)) : ∀ (os : List (Int × Int)) (ps ls : List Int), os0 = os0.take ps.length ++ os → ps.length + os.length = os0.length → (∀ i, i < ps.length → PlOk b os0 ps i) → drG b os ps = some ls → ls.length = os0.length ∧ ∀ i, i < ls.length → PlOk b os0 ls i
  | [], ps, ls, _, hl, hp, hd => by
    obtain rfl := Option.some.inj hd
    exact ⟨by simpa using hl, hp⟩
  | o :: os, ps, ls, he, hl, hp, hd => by
    unfold drG at hd
    cases hg : grF (drP b o ps.getLast?) 50 (hiR b ps.getLast?) with
    | none => rw [hg] at hd; cases hd
    | some x =>
      rw [hg] at hd
      dsimp only at hd
      obtain ⟨a, c, d, _⟩ := grF_at hg
      have hlt : ps.length < os0.length := by simp at hl; omega
      have hoi : os0[ps.length]?.getD (0, 0) = o := by
        rw [he, List.getElem?_append_right (by simp; omega)]
        simp [Nat.min_eq_left (Nat.le_of_lt hlt)]
      have hx : (ps ++ [x])[ps.length]?.getD 0 = x := by simp
      refine drG_ok b os0 os (ps ++ [x]) ls ?_ (by simp at hl ⊢; omega) (fun i hi => ?_) hd
      · have h1 : os0.take (ps.length + 1) = os0.take ps.length ++ [o] := by
          rw [List.take_succ_eq_append_getElem hlt]
          congr 2
          simpa [hlt] using hoi
        simp only [List.length_append, List.length_singleton]
        rw [h1, List.append_assoc]
        exact he
      · simp only [List.length_append, List.length_singleton] at hi
        rcases Nat.lt_or_ge i ps.length with h | h
        · have h0 := hp i h
          unfold PlOk at *
          rw [List.getElem?_append_left h]
          refine ⟨h0.1, h0.2.1, h0.2.2.1, fun hi0 => ?_⟩
          rw [List.getElem?_append_left (show i - 1 < ps.length by omega)]
          exact h0.2.2.2 hi0
        · obtain rfl : i = ps.length := by omega
          unfold PlOk
          rw [hx, hoi]
          cases hlast : ps.getLast? with
          | none =>
            have hps : ps = [] := by simpa using hlast
            subst hps
            rw [hlast] at c d
            simp only [drP, Option.isNone_none, Bool.true_or, Bool.and_true, hiR] at c d
            exact ⟨a, d, fun _ => c, fun h0 => absurd h0 (by simp)⟩
          | some y =>
            have hps : 0 < ps.length := by cases ps with
              | nil => simp at hlast
              | cons _ _ => simp
            rw [hlast] at c d
            simp only [drP, Option.isNone_some, Bool.false_or, hiR, Bool.and_eq_true, Bool.not_eq_true'] at c d
            have hy : (ps ++ [x])[ps.length - 1]?.getD 0 = y := by
              rw [List.getElem?_append_left (by omega), ← List.getLast?_eq_getElem?, hlast]; rfl
            have hz : (ps.length == 0) = false := by rw [beq_eq_false_iff_ne]; omega
            rw [hz, hy]
            exact ⟨a, d.1, fun h0 => absurd h0 (by omega), fun _ => ⟨c, d.2⟩⟩
theorem fir_any (T : Int → Bool) : ∀ (l : List (Int × Int)) (x : Int), firS T l = some x → (l.any fun s => allB s.1 s.2 [x]) = true
  | [], _, h => by cases h
  | s :: l, x, h => by
    unfold firS at h
    cases hg : grF T s.1 s.2 with
    | some y =>
      rw [hg] at h
      obtain rfl := Option.some.inj h
      obtain ⟨a, c, _, _⟩ := grF_at hg
      rw [List.any_cons, allB_one, inR_iff.2 ⟨a, c⟩, Bool.true_or]
    | none =>
      rw [hg] at h
      rw [List.any_cons, fir_any T l x h, Bool.or_true]
theorem room_any9 (b : Bk) (hok : okBk b = true) (y p : Int) (h1 : 50 ≤ p) (h2 : p ≤ y - b.gap) (h3 : nearB b p = false) : ((roomL b (some y)).any fun s => allB s.1 s.2 [p]) = true := by
  obtain ⟨hl, hb, hr⟩ := okBk_bnd hok
  have hzs : b.zs.Pairwise (· < ·) := by
    simp only [okBk, Bool.and_eq_true] at hok
    exact (noL_pw _ _ _ hok.2).1
  rw [room_strS]
  refine fir_any (fun q => q == p) _ p ?_
  rw [fir_strS _ _ hr.2.1.1 _ _ (List.pairwise_reverse.2 hzs)]
  refine grF_of h1 h2 ?_ fun m hm1 _ => ?_
  · rw [far_near, h3]; simp
  · have : (m == p) = false := by simp; omega
    rw [this, Bool.false_and]
theorem take_last {ls : List Int} {i : Nat} (hi : i < ls.length) (h0 : 0 < i) : (ls.take i).getLast? = some (ls[i - 1]?.getD 0) := by
  obtain ⟨j, rfl⟩ : ∃ j, i = j + 1 := ⟨i - 1, by omega⟩
  have hj : j < ls.length := by omega
  rw [List.take_succ_eq_append_getElem hj, List.getLast?_concat]
  simp [hj]
theorem okPl_of {b : Bk} (hok : okBk b = true) {os : List (Int × Int)} {ls : List Int} (h1 : 1 ≤ ls.length) (h9 : ls.length ≤ 9) (h : ∀ i, i < ls.length → PlOk b os ls i) : okPl b ls = true := by
  unfold okPl
  simp only [Bool.and_eq_true, decide_eq_true_eq, List.all_eq_true, List.mem_range]
  refine ⟨⟨h1, h9⟩, fun i hi => ?_⟩
  obtain ⟨a, _, c, d⟩ := h i hi
  unfold inRm
  by_cases h0 : i = 0
  · subst h0
    simp only [List.take_zero, List.getLast?_nil, roomL, List.any_cons, List.any_nil, Bool.or_false, allB_one]
    exact inR_iff.2 ⟨a, c rfl⟩
  · rw [take_last hi (by omega)]
    exact room_any9 b hok _ _ a (d (by omega)).1 (d (by omega)).2
theorem hoL_of {len : Int} : ∀ (hs : List Ho) (least : Int), (∀ h ∈ hs, least ≤ h.a ∧ h.a ≤ len - 1 ∧ okS h.lo h.hi 0 60 = true) → hs.Pairwise (fun x y => x.a < y.a) → hoL len hs least = true
  | [], _, _, _ => rfl
  | h :: l, least, hh, hp => by
    have h1 := hh h List.mem_cons_self
    have h2 := List.pairwise_cons.1 hp
    simp only [hoL, Bool.and_eq_true, allB_one, inR_iff]
    refine ⟨⟨⟨h1.1, h1.2.1⟩, h1.2.2⟩, hoL_of l _ (fun x hx => ?_) h2.2⟩
    have h3 := hh x (List.mem_cons_of_mem _ hx)
    have h4 := h2.1 x hx
    exact ⟨by omega, h3.2.1, h3.2.2⟩
theorem pl_dec {b : Bk} (hg : 1 ≤ b.gap) {os : List (Int × Int)} {ls : List Int} (h : ∀ i, i < ls.length → PlOk b os ls i) : ls.Pairwise (· > ·) := by
  rw [List.pairwise_iff_getElem]
  intro i j hi hj hij
  have key : ∀ d : Nat, ∀ hd : i + 1 + d < ls.length, ls[i + 1 + d] < ls[i] := by
    intro d
    induction d with
    | zero =>
      intro hd
      have := (h (i + 1) hd).2.2.2 (by omega)
      simp [hi, show i + 1 < ls.length from hd] at this
      show ls[i + 1] < ls[i]
      omega
    | succ d ih =>
      intro hd
      have h1 := ih (by omega)
      have h2 := (h (i + 1 + (d + 1)) hd).2.2.2 (by omega)
      simp [hd, show i + 1 + (d + 1) - 1 = i + 1 + d by omega, show i + 1 + d < ls.length by omega] at h2
      omega
  obtain ⟨d, rfl⟩ : ∃ d, j = i + 1 + d := ⟨j - (i + 1), by omega⟩
  exact key d hj
theorem mk_ok {b : Bk} (hok : okBk b = true) {os : List (Int × Int)} {ls : List Int} (h1 : 1 ≤ ls.length) (h9 : ls.length ≤ 9) (h : ∀ i, i < ls.length → PlOk b os ls i) (A : Option Addr) (c : Nat) : okFu (mkF b ls A c) = true := by
  have hb := hok
  simp only [okBk, Bool.and_eq_true, allB_one, inR_iff, okS_iff, decide_eq_true_eq] at hb
  obtain ⟨⟨⟨⟨⟨⟨⟨b1, b2⟩, b3⟩, b4⟩, b5⟩, b6⟩, b7⟩, b8⟩ := hb
  have hdec := pl_dec b5.1 h
  obtain ⟨p0, zs, rfl⟩ : ∃ p0 zs, ls = p0 :: zs := by
    cases ls with
    | nil => simp at h1
    | cons p0 zs => exact ⟨p0, zs, rfl⟩
  have hp0 := h 0 (by simp)
  have hp0a := hp0.1
  have hp0b := hp0.2.2.1 rfl
  simp only [List.getElem?_cons_zero, Option.getD_some] at hp0a hp0b
  have hc := List.pairwise_cons.1 hdec
  have hzs : ∀ z ∈ zs, 50 ≤ z := fun z hz => by
    obtain ⟨i, hi, rfl⟩ := List.getElem_of_mem hz
    have := (h (i + 1) (by simp; omega)).1
    simpa [hi] using this
  simp only [okFu, mkF, Bool.and_eq_true, allB_one, inR_iff, okS_iff, decide_eq_true_eq, List.getElem?_cons_zero, Option.getD_some]
  refine ⟨⟨⟨⟨⟨by omega, by omega⟩, by omega⟩, by omega⟩, by simp [holL]; simp at h9; omega⟩, ?_⟩
  unfold holL
  simp only [List.drop_succ_cons, List.drop_zero]
  refine hoL_of _ _ (fun x hx => ?_) ?_
  · obtain ⟨z, hz, rfl⟩ := List.mem_map.1 hx
    have hz' := List.mem_reverse.1 hz
    have := hc.1 z hz'
    exact ⟨hzs z hz', by dsimp only; omega, okS_iff.2 (by dsimp only; omega)⟩
  · rw [List.pairwise_map, List.pairwise_reverse]
    exact hc.2
theorem mask_tz : ∀ h i : Fin 9, 1 ≤ i.val → i.val ≤ h.val → tz8 (mask9 h.val i.val) = h.val - i.val ∧ mask9 h.val i.val ≠ 0 := by decide +kernel
theorem mk_tone {b : Bk} {ls : List Int} (h9 : ls.length ≤ 9) (A : Option Addr) (c : Nat) {i : Nat} (hi : i < ls.length) : tonF (mkF b ls A c) (mask9 (ls.length - 1) i) = tonB b (i == 0) (ls[i]?.getD 0) := by
  have hhl : (mkF b ls A c).hs.length = ls.length - 1 := by simp [mkF, holL]
  unfold tonF tonB
  have e : airF (mkF b ls A c) (mask9 (ls.length - 1) i) = airB b (i == 0) (ls[i]?.getD 0) := by
    unfold airF airB
    by_cases h0 : i = 0
    · subst h0
      have hm : mask9 (ls.length - 1) 0 = 0 := by simp [mask9]
      rw [if_pos hm]
      simp [mkF]
    · obtain ⟨ht, hn⟩ := mask_tz ⟨ls.length - 1, by omega⟩ ⟨i, by omega⟩ (by dsimp only; omega) (by dsimp only; omega)
      dsimp only at ht hn
      have hz : (i == 0) = false := by simp [h0]
      rw [if_neg hn, ht, hz]
      have hge : (mkF b ls A c).hs[ls.length - 1 - i]?.getD ⟨0, 0, 0⟩ = ⟨ls[i]?.getD 0, b.f0, b.f1⟩ := by
        have hlt : ls.length - 1 - i < (holL b ls).length := by simp [holL]; omega
        show (holL b ls)[ls.length - 1 - i]?.getD ⟨0, 0, 0⟩ = _
        rw [List.getElem?_eq_getElem hlt]
        simp only [holL, List.getElem_map, List.getElem_reverse, List.getElem_drop, Option.getD_some, List.length_drop]
        have e1 : 1 + (ls.length - 1 - 1 - (ls.length - 1 - i)) = i := by omega
        simp only [e1, List.getElem?_eq_getElem hi, Option.getD_some]
      dsimp only
      rw [hge]
      simp [mkF]
  rw [e]
  rfl
theorem mk_right {b : Bk} (hok : okBk b = true) {os : List (Int × Int)} (ho : okNos os = true) {ls : List Int} (hl : ls.length = os.length) (h : ∀ i, i < ls.length → PlOk b os ls i) (A : Option Addr) (c : Nat) : rightF (mkF b ls A c) os = true := by
  simp only [okNos, Bool.and_eq_true, decide_eq_true_eq, List.all_eq_true] at ho
  obtain ⟨⟨o1, o9⟩, hn⟩ := ho
  have hfo := mk_ok hok (by omega) (by omega) h A c
  have hhl : (mkF b ls A c).hs.length = ls.length - 1 := by simp [mkF, holL]
  unfold rightF
  simp only [Bool.and_eq_true, decide_eq_true_eq, List.all_eq_true, List.mem_range]
  refine ⟨⟨by omega, o9⟩, fun i hi => ?_⟩
  have hmlt := mask9_lt (show i ≤ os.length - 1 by omega)
  have hm2 : mask9 (os.length - 1) i < 2 ^ (mkF b ls A c).hs.length := by rw [hhl, hl]; exact hmlt
  have hno : okNo (os[i]?.getD (0, 0)) = true := by
    have := hn _ (List.getElem_mem hi)
    simp only [List.getElem?_eq_getElem hi, Option.getD_some]
    exact this
  have hp := (h i (by omega)).2.1
  have htn := mk_tone (b := b) (ls := ls) (by omega) A c (i := i) (by omega)
  rw [hl] at htn
  have hair := airF_bnd hfo hm2
  have hsp := (okFu_bnd hfo).2.2.2.1
  have hk := (kno_two (airF (mkF b ls A c) (mask9 (os.length - 1) i)) (os[i]?.getD (0, 0)) ((mkF b ls A c).s0, (mkF b ls A c).s1) ⟨hair.1, hair.2.1⟩ (by dsimp only; omega)).1 (by
    show insB _ (tonF (mkF b ls A c) (mask9 (os.length - 1) i)) = true
    rw [htn]
    exact hp)
  unfold rgt
  simp only [Bool.and_eq_true, decide_eq_true_eq]
  exact ⟨by simp [plaE, hfo, hm2, hno], by simp [plaV, hfo, hm2, hno, hk]⟩

theorem own_capM {w : World} {base : Nat} {e : TypeId} {size n cap : Nat} {A : Option Addr} {xs : List Value} (h : w.ownsRow base e size (.slice A n cap) n xs) : cap ≤ 9223372036854775807 ∧ n ≤ cap := by
  rcases h.2 with ⟨h0, h1⟩ | ⟨g', cap', cur, hv, hb, hh, h3, h4, h5, h6⟩
  · simp only [Value.slice.injEq] at h0
    obtain ⟨_, rfl, rfl⟩ := h0
    exact ⟨by omega, Nat.le_refl _⟩
  · simp only [Value.slice.injEq] at hv
    obtain ⟨_, _, rfl⟩ := hv
    have e : maxLen = 9223372036854775807 := rfl
    omega
/-- What the law asks of a hole. -/
theorem hole_ok {b : Bk} {os : List (Int × Int)} {ls : List Int} (h : ∀ i, i < ls.length → PlOk b os ls i) {i : Nat} (hi : i < (holL b ls).length) :
    ∃ a : Int, (holL b ls)[i] = ⟨a, b.f0, b.f1⟩ ∧ nearB b a = false ∧ (i + 1 = (holL b ls).length → b.gap ≤ ls[0]?.getD 0 - a) ∧ ∀ h1 : i + 1 < (holL b ls).length, b.gap ≤ ((holL b ls)[i + 1]).a - a := by
  have hl : (holL b ls).length = ls.length - 1 := by simp [holL]
  have hj : ls.length - 1 - i < ls.length := by omega
  have hat : ∀ k (hk : k < (holL b ls).length), (holL b ls)[k] = ⟨ls[ls.length - 1 - k]?.getD 0, b.f0, b.f1⟩ := fun k hk => by
    simp only [holL, List.getElem_map, List.getElem_reverse, List.getElem_drop, List.length_drop]
    have e1 : 1 + (ls.length - 1 - 1 - k) = ls.length - 1 - k := by omega
    have h2 : ls.length - 1 - k < ls.length := by omega
    simp only [e1, List.getElem?_eq_getElem h2, Option.getD_some]
  have hp := (h (ls.length - 1 - i) hj).2.2.2 (by omega)
  refine ⟨_, hat i hi, hp.2, fun he => ?_, fun h1 => ?_⟩
  · have e : ls.length - 1 - i - 1 = 0 := by omega
    rw [e] at hp
    omega
  · rw [hat (i + 1) h1]
    dsimp only
    have e : ls.length - 1 - i - 1 = ls.length - 1 - (i + 1) := by omega
    rw [e] at hp
    omega
theorem dri_made {b : Bk} {os : List (Int × Int)} (hb : okBk b = true) (ho : okNos os = true) (he : driE b os = 0) : (driL b os).length = os.length ∧ ∀ i, i < (driL b os).length → PlOk b os (driL b os) i := by
  unfold driE at he
  rw [if_pos hb, if_pos ho] at he
  have hs : (drF b os []).isSome = true := by
    cases h : (drF b os []).isSome
    · rw [h] at he; simp at he
    · rfl
  obtain ⟨l, hl⟩ := Option.isSome_iff_exists.1 hs
  have e1 : driL b os = l := by unfold driL; rw [if_pos hb, if_pos ho, hl]; rfl
  rw [drF_drG b hb] at hl
  rw [e1]
  exact drG_ok b os os [] l (by simp) (by simp) (fun i hi => by simp at hi) hl
theorem dri_no {b : Bk} {os : List (Int × Int)} (hb : okBk b = true) (ho : okNos os = true) (he : driE b os = 6) : driL b os = [] := by
  unfold driE at he
  rw [if_pos hb, if_pos ho] at he
  unfold driL
  rw [if_pos hb, if_pos ho]
  cases h : drF b os [] with
  | none => rfl
  | some l => rw [h] at he; simp at he

end Go.Proofs.Ytjjipkgconmfcaa

namespace Go.Proofs.Ytjjipkgconmfcaa
open Go.RowKit Go.Shelf

attribute [local go_sem] gives

section
variable {w : World} {b : Nat} {x0 x1 x2 x3 x4 x5 x6 x7 : Value} {t : TypeId}
def put8 (w : World) (b : Nat) (y0 y1 y2 y3 y4 y5 y6 y7 : Value) : World := (((((((w.setCell ⟨b, 0, none⟩ y0).setCell ⟨b, 1, none⟩ y1).setCell ⟨b, 2, none⟩ y2).setCell ⟨b, 3, none⟩ y3).setCell ⟨b, 4, none⟩ y4).setCell ⟨b, 5, none⟩ y5).setCell ⟨b, 6, none⟩ y6).setCell ⟨b, 7, none⟩ y7
theorem set_row {w : World} {b i : Nat} {L : List Value} {t : TypeId} (h : w.heap[b]? = some (.cells L.toArray t (0, 0))) (y : Value) : (w.setCell ⟨b, i, none⟩ y).heap[b]? = some (.cells (L.set i y).toArray t (0, 0)) := by
  have := heap_setCell_same w b i _ _ y h
  rwa [List.setIfInBounds_toArray] at this
theorem put8_at (h : w.heap[b]? = some (.cells #[x0, x1, x2, x3, x4, x5, x6, x7] t (0, 0))) (y0 y1 y2 y3 y4 y5 y6 y7 : Value) : (put8 w b y0 y1 y2 y3 y4 y5 y6 y7).heap[b]? = some (.cells #[y0, y1, y2, y3, y4, y5, y6, y7] t (0, 0)) := by
  unfold put8
  have h0 := set_row (i := 0) (L := [x0, x1, x2, x3, x4, x5, x6, x7]) h y0
  simp only [List.set_cons_zero, List.set_cons_succ] at h0
  have h1 := set_row (i := 1) h0 y1
  simp only [List.set_cons_zero, List.set_cons_succ] at h1
  have h2 := set_row (i := 2) h1 y2
  simp only [List.set_cons_zero, List.set_cons_succ] at h2
  have h3 := set_row (i := 3) h2 y3
  simp only [List.set_cons_zero, List.set_cons_succ] at h3
  have h4 := set_row (i := 4) h3 y4
  simp only [List.set_cons_zero, List.set_cons_succ] at h4
  have h5 := set_row (i := 5) h4 y5
  simp only [List.set_cons_zero, List.set_cons_succ] at h5
  have h6 := set_row (i := 6) h5 y6
  simp only [List.set_cons_zero, List.set_cons_succ] at h6
  have h7 := set_row (i := 7) h6 y7
  simp only [List.set_cons_zero, List.set_cons_succ] at h7
  exact h7
theorem put8_below {B : Nat} {w0 : World} (h : Below B w0 w) (hb : B ≤ b) (y0 y1 y2 y3 y4 y5 y6 y7 : Value) : Below B w0 (put8 w b y0 y1 y2 y3 y4 y5 y6 y7) := by
  unfold put8
  iterate 8 (refine Below.setCell ?_ (by simpa using hb) _)
  exact h
theorem put8_own {base n size : Nat} {e : TypeId} {v : Value} {xs : List Value} (h : w.ownsRow base e size v n xs) (hb : b < base) (y0 y1 y2 y3 y4 y5 y6 y7 : Value) : (put8 w b y0 y1 y2 y3 y4 y5 y6 y7).ownsRow base e size v n xs := by
  unfold put8
  iterate 8 (refine ownsRow_setCell_other ?_ (fun e => by have := own_blockL h _ e; simp at this; omega) _)
  exact h
end

def MakOk (w : World) (b : Bk) (ps : List Int) (e : Ending) (w' : World) : Prop := ∃ A c, e = .returned (.tuple #[.agg (fuc (mkF b ps A c)).toArray, .int .i64 0]) ∧ w'.ownsRow w.heap.size 38 3 (.slice A (holL b ps).length c) (holL b ps).length ((holL b ps).flatMap hoc) ∧ Below w.heap.size w w'
def MakBad (w : World) (k : Int) (e : Ending) (w' : World) : Prop := e = .returned (.tuple #[.agg (fuc fu0).toArray, .int .i64 k]) ∧ Below w.heap.size w w'

set_option maxRecDepth 100000 in
set_option maxHeartbeats 8000000 in
theorem make_any (b : Bk) (hlz : b.zs.length ≤ 1000000) (A : Option Addr) (cap : Nat) (ps : List Int) (hl : ps.length ≤ 1000000) (hcp : ps.length ≤ cap) (hcap : cap ≤ 9223372036854775807) (B : Nat) (w : World) (hB : B ≤ w.heap.size) (hz : BkAt w B b) (hI : Ints w B A ps) :
    Calls Try.prog 15 #[.agg (bkc b).toArray, .slice A ps.length cap] w fun e w' => (okBk b = false → MakBad w 92 e w') ∧ (okBk b = true → okPl b ps = false → MakBad w 8 e w') ∧ (okBk b = true → okPl b ps = true → MakOk w b ps e w') := by
  obtain ⟨w1, hw1⟩ : ∃ w1, (w.alloc (.cells (bkc b).toArray 34)).alloc (.cells zeF.toArray 28) = w1 := ⟨_, rfl⟩
  have hb1 : Below w.heap.size w w1 := by rw [← hw1]; exact ((Below.refl _ _).alloc (Nat.le_refl _) _).alloc (by simp) _
  have m0 : w1.heap[w.heap.size]? = some (.cells (bkc b).toArray 34 (0, 0)) := by rw [← hw1]; exact alloc2_at0 _ _ _
  have m1 : w1.heap[w.heap.size + 1]? = some (.cells zeF.toArray 28 (0, 0)) := by rw [← hw1]; exact alloc2_at1 _ _ _
  have hz1 := hz.below (hb1.mono hB)
  have hI1 := Ints.below hI (hb1.mono hB)
  have hB1 := Nat.le_trans hB hb1.size
  have hvb := fun W (hW : Below w1.heap.size w1 W) => validBlank_any b hlz B W (Nat.le_trans hB1 hW.size) (hz1.below (hW.mono hB1))
  have hvp := fun (hok : okBk b = true) W (hW : Below w1.heap.size w1 W) => validPlaces_any b hok A cap ps hl hcp hcap B W (Nat.le_trans hB1 hW.size) (hz1.below (hW.mono hB1)) (Ints.below hI1 (hW.mono hB1))
  have hmd : ∀ p0 zs, ps = p0 :: zs → ps.length ≤ 9 → ∀ W, Below w1.heap.size w1 W → Calls Try.prog 44 #[.agg (bkc b).toArray, .slice A ps.length cap] W (MadePost W b ps) := fun p0 zs h h9 W hW => by
    subst h
    exact made_any b A cap p0 zs (by simp at h9; omega) (by simpa using hcp) hcap B W (Nat.le_trans hB1 hW.size) (Ints.below hI1 (hW.mono hB1))
  have hcf := fun (W : World) (hW : Below w1.heap.size w1 W) => And.intro (fun i => cell_of_row W w.heap.size i _ _ _ ((hW.block _ (lt_of_heap m0)).trans m0)) (And.intro (fun i => cell_of_row W (w.heap.size + 1) i _ _ _ ((hW.block _ (lt_of_heap m1)).trans m1)) (fun i => frozen_of_row W (w.heap.size + 1) i _ _ ((hW.block _ (lt_of_heap m1)).trans m1)))
  have hm1 := fun (W : World) (hW : Below w1.heap.size w1 W) => (hW.block _ (lt_of_heap m1)).trans m1
  have H1 := Lib.hid (And.intro hb1 (lt_of_heap m1))
  have hpl : okPl b ps = true → 1 ≤ ps.length ∧ ps.length ≤ 9 := fun h => by simp only [okPl, Bool.and_eq_true, decide_eq_true_eq] at h; exact h.1
  clear hz hI hb1 m0 m1 hz1 hI1
  unfold MadePost at hmd
  unfold MakBad MakOk fuc fu0
  unfold bkc zeF at hw1
  unfold bkc at hcf hvb hvp hmd ⊢
  unfold zeF at hcf hm1
  have HCF := Lib.hid hcf
  have HM1 := Lib.hid hm1
  obtain ⟨hc0, hc1, hf1⟩ := HCF.out w1 (Below.refl _ _)
  clear hcf hm1
  cases hv1 : okBk b
  · rw [hv1] at hvb
    have HVB := Lib.hid hvb
    clear hvb hvp hmd hpl
    go_enter Try.func15, Try.ntmps15
    go_wp2_with (go_at_call 42; (with_reducible refine (HVB.out w1 (Below.refl _ _)).mono ?_); rintro e w2 ⟨rfl, hB2⟩; obtain ⟨hd0, hd1, hg1⟩ := HCF.out w2 hB2; have H2 := Lib.hid hB2; clear hB2 hc0 hc1 hf1)
    have hcE := fun i => cell_of_row _ (w.heap.size + 1) i _ _ _ (put8_at (HM1.out w2 H2.out) (.int .i64 0) (.int .i64 0) (.int .i64 0) (.int .i64 0) (.int .i64 0) (.int .i64 0) (.int .i64 0) (.slice none 0 0))
    unfold put8 at hcE
    refine bodyPost_ret (v := .tuple #[.agg #[.int .i64 0, .int .i64 0, .int .i64 0, .int .i64 0, .int .i64 0, .int .i64 0, .int .i64 0, .slice none 0 0], .int .i64 92]) (by simp [results, Try.results15, go_sem, hcE]) rfl ⟨fun _ => ⟨rfl, ?_⟩, fun h => by simp at h, fun h => by simp at h⟩
    exact put8_below (H1.out.1.trans (H2.out.mono H1.out.1.size)) (Nat.le_succ _) _ _ _ _ _ _ _ _
  have hvp := hvp hv1
  rw [hv1] at hvb
  cases hv2 : okPl b ps
  · rw [hv2] at hvp
    have HVB := Lib.hid hvb
    have HVP := Lib.hid hvp
    clear hvb hvp hmd hpl
    go_enter Try.func15, Try.ntmps15
    go_wp2_with (first
      | (go_at_call 42; (with_reducible refine (HVB.out w1 (Below.refl _ _)).mono ?_); rintro e w2 ⟨rfl, hB2⟩; obtain ⟨hd0, hd1, hg1⟩ := HCF.out w2 hB2; have H2 := Lib.hid hB2; clear hB2 hc0 hc1 hf1)
      | (go_at_call 43; (with_reducible refine (HVP.out w2 H2.out).mono ?_); rintro e w3 ⟨rfl, hB3⟩; obtain ⟨he0, he1, hh1⟩ := HCF.out w3 (H2.out.trans (hB3.mono H2.out.size)); have H3 := Lib.hid (H2.out.trans (hB3.mono H2.out.size)); clear hB3 hd0 hd1 hg1))
    have hcE := fun i => cell_of_row _ (w.heap.size + 1) i _ _ _ (put8_at (HM1.out w3 H3.out) (.int .i64 0) (.int .i64 0) (.int .i64 0) (.int .i64 0) (.int .i64 0) (.int .i64 0) (.int .i64 0) (.slice none 0 0))
    unfold put8 at hcE
    refine bodyPost_ret (v := .tuple #[.agg #[.int .i64 0, .int .i64 0, .int .i64 0, .int .i64 0, .int .i64 0, .int .i64 0, .int .i64 0, .slice none 0 0], .int .i64 8]) (by simp [results, Try.results15, go_sem, hcE]) rfl ⟨fun h => by simp at h, fun _ _ => ⟨rfl, ?_⟩, fun _ h => by simp at h⟩
    exact put8_below (H1.out.1.trans (H3.out.mono H1.out.1.size)) (Nat.le_succ _) _ _ _ _ _ _ _ _
  · rw [hv2] at hvp
    obtain ⟨h1, h9⟩ := hpl hv2
    obtain ⟨p0, zs, hps⟩ : ∃ p0 zs, ps = p0 :: zs := by
      cases ps with
      | nil => simp at h1
      | cons p0 zs => exact ⟨p0, zs, rfl⟩
    have hmd := hmd p0 zs hps h9
    unfold mkF fuc at hmd
    unfold mkF
    dsimp only at hmd ⊢
    generalize ps[0]?.getD 0 = q0 at hmd ⊢
    have HVB := Lib.hid hvb
    have HVP := Lib.hid hvp
    have HMD := Lib.hid hmd
    clear hvb hvp hmd hpl hps
    go_enter Try.func15, Try.ntmps15
    go_wp2_with (first
      | (go_at_call 42; (with_reducible refine (HVB.out w1 (Below.refl _ _)).mono ?_); rintro e w2 ⟨rfl, hB2⟩; obtain ⟨hd0, hd1, hg1⟩ := HCF.out w2 hB2; have H2 := Lib.hid hB2; clear hB2 hc0 hc1 hf1)
      | (go_at_call 43; (with_reducible refine (HVP.out w2 H2.out).mono ?_); rintro e w3 ⟨rfl, hB3⟩; obtain ⟨he0, he1, hh1⟩ := HCF.out w3 (H2.out.trans (hB3.mono H2.out.size)); have H3 := Lib.hid (H2.out.trans (hB3.mono H2.out.size)); clear hB3 hd0 hd1 hg1)
      | (go_at_call 44; (with_reducible refine (HMD.out w3 H3.out).mono ?_); rintro e w4 ⟨Av, cv, rfl, hO, hB4⟩; obtain ⟨hi0, hi1, hj1⟩ := HCF.out w4 (H3.out.trans (hB4.mono H3.out.size)); have H4 := Lib.hid (And.intro (H3.out.trans (hB4.mono H3.out.size)) hO); clear hB4 hO he0 he1 hh1))
    have hcE := fun i => cell_of_row _ (w.heap.size + 1) i _ _ _ (put8_at (HM1.out w4 H4.out.1) (.int .i64 q0) (.int .i64 b.e0) (.int .i64 b.e1) (.int .i64 0) (.int .i64 0) (.int .i64 b.s0) (.int .i64 b.s1) (.slice Av (holL b ps).length cv))
    unfold put8 at hcE
    refine bodyPost_ret (v := .tuple #[.agg #[.int .i64 q0, .int .i64 b.e0, .int .i64 b.e1, .int .i64 0, .int .i64 0, .int .i64 b.s0, .int .i64 b.s1, .slice Av (holL b ps).length cv], .int .i64 0]) (by simp [results, Try.results15, go_sem, hcE]) rfl ⟨fun h => by simp at h, fun _ h => by simp at h, fun _ _ => ⟨Av, cv, rfl, ?_, ?_⟩⟩
    · have hlt := H1.out.2
      have hs3 := H3.out.size
      have hs1 := H1.out.1.size
      exact own_mono (put8_own H4.out.2 (b := w.heap.size + 1) (by omega) _ _ _ _ _ _ _ _) (by omega)
    · exact put8_below (H1.out.1.trans (H4.out.1.mono H1.out.1.size)) (Nat.le_succ _) _ _ _ _ _ _ _ _

end Go.Proofs.Ytjjipkgconmfcaa

namespace Go.Proofs.Ytjjipkgconmfcaa
open Go.RowKit

def remL (a m : Int) : Int := a % (m + 1)
theorem remL_bnd {a m : Int} (h : 0 ≤ m) : 0 ≤ remL a m ∧ remL a m ≤ m := by
  have h0 := Int.emod_nonneg a (show m + 1 ≠ 0 by omega)
  have h1 := Int.emod_lt_of_pos a (show 0 < m + 1 by omega)
  unfold remL
  omega
def widH (us : List Int) (i : Nat) (h : Ho) : Ho := ⟨h.a, h.lo, h.hi + remL (atL us i) (60 - h.hi)⟩
def widF (f : Fu) (us : List Int) (A : Option Addr) (c : Nat) : Fu :=
  ⟨f.len, f.e0, f.e1 + remL (atL us 0) (60 - f.e1), f.c0 - remL (atL us 1) f.c0, f.c1, f.s0 - remL (atL us 2) (f.s0 - 100000), f.s1, A, c, f.hs.mapIdx (widH us)⟩
theorem wid_ok {f : Fu} (hok : okFu f = true) (us : List Int) (A : Option Addr) (c : Nat) : okFu (widF f us A c) = true := by
  have hb := okFu_bnd hok
  obtain ⟨h1, h2, h3, h4, h5, h6⟩ := hb
  simp only [okFu, Bool.and_eq_true, allB_one, inR_iff, okS_iff, decide_eq_true_eq] at hok
  have hl := hok.2
  have r0 := remL_bnd (a := atL us 0) (show 0 ≤ 60 - f.e1 by omega)
  have r1 := remL_bnd (a := atL us 1) (show 0 ≤ f.c0 by omega)
  have r2 := remL_bnd (a := atL us 2) (show 0 ≤ f.s0 - 100000 by omega)
  simp only [widF, okFu, Bool.and_eq_true, allB_one, inR_iff, okS_iff, decide_eq_true_eq, List.length_mapIdx]
  refine ⟨⟨⟨⟨⟨h1, by omega⟩, by omega⟩, by omega⟩, h5⟩, hoL_map _ _ _ _ (fun i h _ hh => ⟨rfl, ?_⟩) hl⟩
  rw [okS_iff] at hh ⊢
  have r := remL_bnd (a := atL us i) (show 0 ≤ 60 - h.hi by omega)
  simp only [widH]
  omega
theorem wid_air {f : Fu} (hok : okFu f = true) (us : List Int) (A : Option Addr) (c : Nat) {n : Nat} (hn : n < 2 ^ f.hs.length) : (airF (widF f us A c) n).1 ≤ (airF f n).1 ∧ (airF f n).2 ≤ (airF (widF f us A c) n).2 := by
  obtain ⟨h1, h2, h3, h4, h5, h6⟩ := okFu_bnd hok
  unfold airF
  by_cases h0 : n = 0
  · have r0 := remL_bnd (a := atL us 0) (show 0 ≤ 60 - f.e1 by omega)
    simp only [if_pos h0, widF]
    omega
  · have hn8 : n < 256 := Nat.lt_of_lt_of_le hn (Nat.pow_le_pow_right (n := 2) (by omega) h5)
    have hi := tz8_lt hn8 h0 hn
    have hx := h6 _ (List.getElem_mem hi)
    have e : f.hs[tz8 n]?.getD ⟨0, 0, 0⟩ = f.hs[tz8 n] := by simp [hi]
    simp only [if_neg h0, widF, List.length_mapIdx, getD_mapIdx hi, e, widH]
    have r := remL_bnd (a := atL us (tz8 n)) (show 0 ≤ 60 - f.hs[tz8 n].hi by omega)
    have r1 := remL_bnd (a := atL us 1) (show 0 ≤ f.c0 by omega)
    generalize cloF n (tz8 n) (f.hs.length - tz8 n - 1) = k
    have hk : (k : Int) * (f.c0 - remL (atL us 1) f.c0) ≤ k * f.c0 := Int.mul_le_mul_of_nonneg_left (by omega) (by omega)
    omega
theorem meet_mono {a a' o s s' : Int × Int} (h0 : 50 ≤ a'.1) (ha : a'.1 ≤ a.1 ∧ a.2 ≤ a'.2) (hs0 : 0 ≤ s'.1) (hs : s'.1 ≤ s.1 ∧ s.2 ≤ s'.2) (h : meetF a o s = true) : meetF a' o s' = true := by
  unfold meetF at h
  obtain ⟨k, hk, hm⟩ := List.any_eq_true.1 h
  rw [List.mem_range] at hk
  unfold metL at hm
  simp only [Bool.and_eq_true, decide_eq_true_eq] at hm
  refine meet_of a' o s' (l := a.1 + k) (p := max s.1 ((o.1 * (a.1 + k) + 499) / 500)) h0 (by omega) hs0 (by omega) ⟨?_, hm.2⟩
  have hq : (o.1 * (a.1 + k) + 499) / 500 ≤ max s.1 ((o.1 * (a.1 + k) + 499) / 500) := by omega
  refine (Int.le_ediv_iff_mul_le (by omega)).2 ?_
  generalize max s.1 ((o.1 * (a.1 + k) + 499) / 500) = m at hq
  generalize o.1 * (a.1 + k) = P at hq ⊢
  omega
theorem ins_mono {a a' o s s' : Int × Int} (h0 : 50 ≤ a'.1) (ha : a'.1 ≤ a.1 ∧ a.2 ≤ a'.2) (hal : a.1 ≤ a.2) (hs0 : 0 ≤ s'.1) (hs1 : 0 ≤ s.2) (hs : s'.1 ≤ s.1 ∧ s.2 ≤ s'.2) (h : insB o (tonA s'.1 s'.2 a') = true) : insB o (tonA s.1 s.2 a) = true := by
  unfold insB tonA at *
  simp only [Bool.and_eq_true, decide_eq_true_eq] at *
  have e1 : 500 * s'.1 / a'.2 ≤ 500 * s.1 / a'.2 := Int.ediv_le_ediv (by omega) (by omega)
  have e2 : 500 * s.1 / a'.2 ≤ 500 * s.1 / a.2 := ediv_anti (by omega) (by omega) ha.2
  have e3 : 500 * s.2 / a.1 ≤ 500 * s'.2 / a.1 := Int.ediv_le_ediv (by omega) (by omega)
  have e4 : 500 * s'.2 / a.1 ≤ 500 * s'.2 / a'.1 := ediv_anti (by omega) (by omega) ha.1
  omega
theorem kno_cases (a o s : Int × Int) (ha : 50 ≤ a.1 ∧ a.1 ≤ a.2) (hs : 0 ≤ s.1 ∧ s.1 ≤ s.2) : (knoF a o s = 0 ∧ meetF a o s = false) ∨ (knoF a o s = 1 ∧ meetF a o s = true ∧ insB o (tonA s.1 s.2 a) = false) ∨ (knoF a o s = 2 ∧ insB o (tonA s.1 s.2 a) = true) := by
  unfold knoF
  cases hi : insB o (tonA s.1 s.2 a)
  · cases hm : meetF a o s
    · exact .inl ⟨rfl, rfl⟩
    · exact .inr (.inl ⟨rfl, rfl, rfl⟩)
  · rw [ins_meets a o s ha hs hi]
    exact .inr (.inr ⟨rfl, rfl⟩)
theorem wid_kno {f : Fu} (hok : okFu f = true) (us : List Int) (A : Option Addr) (c : Nat) (o : Int × Int) {n : Nat} (hn : n < 2 ^ f.hs.length) :
    knoF (airF (widF f us A c) n) o ((widF f us A c).s0, (widF f us A c).s1) = 1 ∨ knoF (airF (widF f us A c) n) o ((widF f us A c).s0, (widF f us A c).s1) = knoF (airF f n) o (f.s0, f.s1) := by
  obtain ⟨h1, h2, h3, h4, h5, h6⟩ := okFu_bnd hok
  have hwo := wid_ok hok us A c
  have hwl : (widF f us A c).hs.length = f.hs.length := by simp [widF]
  obtain ⟨-, -, -, w4, -, -⟩ := okFu_bnd hwo
  have ha := airF_bnd hok hn
  have hwa := airF_bnd hwo (n := n) (by rw [hwl]; exact hn)
  have hm := wid_air hok us A c hn
  have hs : (widF f us A c).s0 ≤ f.s0 ∧ f.s1 ≤ (widF f us A c).s1 := by
    have r2 := remL_bnd (a := atL us 2) (show 0 ≤ f.s0 - 100000 by omega)
    simp only [widF]
    omega
  have k1 := kno_cases (airF f n) o (f.s0, f.s1) ⟨ha.1, ha.2.1⟩ (by dsimp only; omega)
  have k2 := kno_cases (airF (widF f us A c) n) o ((widF f us A c).s0, (widF f us A c).s1) ⟨hwa.1, hwa.2.1⟩ (by dsimp only; omega)
  have m1 := fun h => meet_mono (a := airF f n) (o := o) (s := (f.s0, f.s1)) (s' := ((widF f us A c).s0, (widF f us A c).s1)) hwa.1 hm (by dsimp only; omega) hs h
  have m2 := fun h => ins_mono (a := airF f n) (o := o) (s := (f.s0, f.s1)) (s' := ((widF f us A c).s0, (widF f us A c).s1)) hwa.1 hm ha.2.1 (by dsimp only; omega) (by dsimp only; omega) hs h
  have m3 := ins_meets (airF f n) o (f.s0, f.s1) ⟨ha.1, ha.2.1⟩ (by dsimp only; omega)
  rcases k2 with ⟨q2, q3⟩ | ⟨q2, -, -⟩ | ⟨q2, q3⟩
  · right
    rw [q2]
    rcases k1 with ⟨p2, -⟩ | ⟨-, p3, -⟩ | ⟨-, p3⟩
    · exact p2.symm
    · rw [m1 p3] at q3; cases q3
    · rw [m1 (m3 p3)] at q3; cases q3
  · exact .inl q2
  · right
    rw [q2]
    rcases k1 with ⟨-, p3⟩ | ⟨-, -, p4⟩ | ⟨p2, -⟩
    · rw [m3 (m2 q3)] at p3; cases p3
    · rw [m2 q3] at p4; cases p4
    · exact p2.symm

/-- All holes have the first one's Fix, and crosses are nothing. -/
def samH (h0 : Ho) (_ : Nat) (h : Ho) : Ho := ⟨h.a, h0.lo, h0.hi⟩
def samF (f : Fu) (A : Option Addr) (c : Nat) : Fu := ⟨f.len, f.e0, f.e1, 0, 0, f.s0, f.s1, A, c, f.hs.mapIdx (samH (f.hs[0]?.getD ⟨0, 0, 0⟩))⟩
theorem sam_ok {f : Fu} (hok : okFu f = true) (hl0 : 0 < f.hs.length) (A : Option Addr) (c : Nat) : okFu (samF f A c) = true := by
  have hb := okFu_bnd hok
  obtain ⟨h1, h2, h3, h4, h5, h6⟩ := hb
  simp only [okFu, Bool.and_eq_true, allB_one, inR_iff, okS_iff, decide_eq_true_eq] at hok
  have hl := hok.2
  have hx := h6 _ (List.getElem_mem hl0)
  have e : f.hs[0]?.getD ⟨0, 0, 0⟩ = f.hs[0] := by simp [hl0]
  simp only [samF, okFu, Bool.and_eq_true, allB_one, inR_iff, okS_iff, decide_eq_true_eq, List.length_mapIdx, e]
  refine ⟨⟨⟨⟨⟨h1, by omega⟩, by omega⟩, by omega⟩, h5⟩, hoL_map _ _ _ _ (fun i h _ hh => ⟨rfl, ?_⟩) hl⟩
  rw [okS_iff]
  simp only [samH]
  omega
theorem hoL_inc {len : Int} : ∀ (hs : List Ho) (least : Int), hoL len hs least = true → ∀ i j (hj : j < hs.length), i < j → (hs[i]?.getD ⟨0, 0, 0⟩).a < (hs[j]?.getD ⟨0, 0, 0⟩).a
  | [], _, _, _, _, hj, _ => absurd hj (Nat.not_lt_zero _)
  | x :: l, least, h, i, j, hj, hij => by
    simp only [hoL, Bool.and_eq_true] at h
    obtain ⟨m, rfl⟩ : ∃ m, j = m + 1 := ⟨j - 1, by omega⟩
    have hm : m < l.length := by simpa using hj
    cases i with
    | zero =>
      have := hoL_iff l _ h.2 _ (List.getElem_mem hm)
      simp only [List.getElem?_cons_zero, List.getElem?_cons_succ, Option.getD_some, List.getElem?_eq_getElem hm]
      omega
    | succ i => simpa using hoL_inc l _ h.2 i m hm (by omega)
theorem tz8_or {n j : Nat} (hn : n < 256) (hj : j < tz8 n) (h0 : n ≠ 0) : tz8 (n ||| 2 ^ j) = j := by
  obtain ⟨h1, h2, h3⟩ := tz8_spec n hn
  have h4 := (h2 h0).1
  have h2j : 2 ^ j < 2 ^ 8 := Nat.pow_lt_pow_right (by omega) (by omega)
  refine tz8_at (Nat.or_lt_two_pow (n := 8) (by omega) h2j) ?_ fun k hk => ?_
  · rw [Nat.testBit_or, Nat.testBit_two_pow_self, Bool.or_true]
  · rw [Nat.testBit_or, h3 k (by omega), Nat.testBit_two_pow]
    simp; omega
theorem sam_tone {f : Fu} (hok : okFu f = true) (A : Option Addr) (c : Nat) {n j : Nat} (hn : n < 2 ^ f.hs.length) (h0 : n ≠ 0) (hj : j < tz8 n) :
    (n ||| 2 ^ j) < 2 ^ f.hs.length ∧ (tonF (samF f A c) n).1 ≤ (tonF (samF f A c) (n ||| 2 ^ j)).1 ∧ (tonF (samF f A c) n).2 ≤ (tonF (samF f A c) (n ||| 2 ^ j)).2 := by
  obtain ⟨h1, h2, h3, h4, h5, h6⟩ := okFu_bnd hok
  have hn8 : n < 256 := Nat.lt_of_lt_of_le hn (Nat.pow_le_pow_right (n := 2) (by omega) h5)
  have hi := tz8_lt hn8 h0 hn
  have hto := tz8_or hn8 hj h0
  have hlt : (n ||| 2 ^ j) < 2 ^ f.hs.length := Nat.or_lt_two_pow hn (Nat.pow_lt_pow_right (by omega) (by omega))
  have hno : (n ||| 2 ^ j) ≠ 0 := fun e => by
    have := congrArg (fun x => x.testBit j) e
    simp only [Nat.testBit_or, Nat.testBit_two_pow_self, Bool.or_true, Nat.zero_testBit] at this
    cases this
  have hso := sam_ok hok (by omega) A c
  have hsl : (samF f A c).hs.length = f.hs.length := by simp [samF]
  have b1 := airF_bnd hso (n := n) (by rw [hsl]; exact hn)
  have b2 := airF_bnd hso (n := n ||| 2 ^ j) (by rw [hsl]; exact hlt)
  have hol : hoL f.len f.hs 50 = true := by
    simp only [okFu, Bool.and_eq_true] at hok
    exact hok.2
  have hinc := hoL_inc f.hs 50 hol j (tz8 n) hi hj
  have hji : j < f.hs.length := by omega
  have ha : (airF (samF f A c) (n ||| 2 ^ j)).1 ≤ (airF (samF f A c) n).1 ∧ (airF (samF f A c) (n ||| 2 ^ j)).2 ≤ (airF (samF f A c) n).2 := by
    unfold airF
    rw [if_neg hno, if_neg h0, hto]
    simp only [samF, List.length_mapIdx, getD_mapIdx hi, getD_mapIdx hji, samH, Int.mul_zero]
    omega
  refine ⟨hlt, ?_, ?_⟩
  · exact ediv_anti (show 0 ≤ 500 * f.s0 by omega) (by omega) ha.2
  · exact ediv_anti (show 0 ≤ 500 * f.s1 by omega) (by omega) ha.1

end Go.Proofs.Ytjjipkgconmfcaa

namespace Go.Proofs.Ytjjipkgconmfcaa
open Go.RowKit Go.Maps
open R6 (done done_ne done_me upd_ne upd_me)

attribute [local go_sem] gives

theorem bit_and {n k : Nat} (hn : n < 256) (hk : k < 8) : bits .and .u8 ((n : Int) / 2 ^ k) 1 = if n.testBit k = true then 1 else 0 := by
  obtain ⟨m, rfl⟩ : ∃ m : Fin 256, m.val = n := ⟨⟨n, hn⟩, rfl⟩
  obtain ⟨j, rfl⟩ : ∃ j : Fin 8, j.val = k := ⟨⟨k, hk⟩, rfl⟩
  clear hn hk
  revert m j
  decide +kernel

theorem ofInt_nat (a : Nat) (ha : a < 256) : (BitVec.ofInt 8 (a : Int)).toNat = a := by
  rw [BitVec.ofInt_natCast, BitVec.toNat_ofNat]; exact Nat.mod_eq_of_lt (by omega)
theorem bits_and8 (a b : Nat) (ha : a < 256) (hb : b < 256) : bits .and .u8 (a : Int) (b : Int) = ((a &&& b : Nat) : Int) := by
  have hx : a &&& b < 2 ^ 8 := Nat.and_lt_two_pow _ (by omega)
  show IntKind.u8.wrap ((BitVec.ofInt 8 (a : Int) &&& BitVec.ofInt 8 (b : Int)).toNat : Int) = _
  rw [BitVec.toNat_and, ofInt_nat a ha, ofInt_nat b hb, IntKind.wrap_u8]
  omega
theorem bits_or8 (a b : Nat) (ha : a < 256) (hb : b < 256) : bits .or .u8 (a : Int) (b : Int) = ((a ||| b : Nat) : Int) := by
  have hx : a ||| b < 2 ^ 8 := Nat.or_lt_two_pow (by omega) (by omega)
  show IntKind.u8.wrap ((BitVec.ofInt 8 (a : Int) ||| BitVec.ofInt 8 (b : Int)).toNat : Int) = _
  rw [BitVec.toNat_or, ofInt_nat a ha, ofInt_nat b hb, IntKind.wrap_u8]
  omega
theorem bits_not8 (a b : Nat) (ha : a < 256) (hb : b < 256) : ∃ c : Nat, bits .andNot .u8 (a : Int) (b : Int) = (c : Int) ∧ c ≤ a ∧ ∀ k, c.testBit k = (a.testBit k && !b.testBit k) := by
  refine ⟨(BitVec.ofInt 8 (a : Int) &&& ~~~ BitVec.ofInt 8 (b : Int)).toNat, ?_, ?_, fun k => ?_⟩
  · show IntKind.u8.wrap ((BitVec.ofInt 8 (a : Int) &&& ~~~ BitVec.ofInt 8 (b : Int)).toNat : Int) = _
    have h : (BitVec.ofInt 8 (a : Int) &&& ~~~ BitVec.ofInt 8 (b : Int)).toNat ≤ a := by
      rw [BitVec.toNat_and, ofInt_nat a ha]; exact Nat.and_le_left
    rw [IntKind.wrap_u8]
    omega
  · rw [BitVec.toNat_and, ofInt_nat a ha]; exact Nat.and_le_left
  · have hbk : b.testBit k = (BitVec.ofInt 8 (b : Int)).getLsbD k := by rw [← BitVec.testBit_toNat, ofInt_nat b hb]
    have hak : a.testBit k = (BitVec.ofInt 8 (a : Int)).getLsbD k := by rw [← BitVec.testBit_toNat, ofInt_nat a ha]
    rw [BitVec.testBit_toNat, BitVec.getLsbD_and, BitVec.getLsbD_not, hbk, hak]
    by_cases h64 : k < 8
    · simp [h64]
    · simp [h64, BitVec.getLsbD_of_ge _ _ (show 8 ≤ k by omega)]
theorem kept_val {j : Nat} (hj : j ≤ 7) : wrap64 (wrap64 (2 * 2 ^ j) - 1) % 256 = ((2 ^ (j + 1) - 1 : Nat) : Int) := by
  obtain ⟨m, rfl⟩ : ∃ m : Fin 8, m.val = j := ⟨⟨j, by omega⟩, rfl⟩
  clear hj
  revert m
  decide +kernel
/-- The fingering that is like another one up to its second open hole. -/
theorem mix_val {n q j N : Nat} (hn : n < 256) (hq : q < 256) (hj : j ≤ 7) {L : Nat} (hnl : n < 2 ^ L) (hql : q < 2 ^ L) :
    ∃ m : Nat, bits .or .u8 (bits .and .u8 (n : Int) ((2 ^ (j + 1) - 1 : Nat) : Int)) (bits .andNot .u8 (q : Int) ((2 ^ (j + 1) - 1 : Nat) : Int)) = (m : Int) ∧ m < 256 ∧ m < 2 ^ L ∧ ∀ k, k ≤ j → m.testBit k = n.testBit k := by
  have hk : 2 ^ (j + 1) - 1 < 256 := by have : 2 ^ (j + 1) ≤ 2 ^ 8 := Nat.pow_le_pow_right (by omega) (by omega); omega
  obtain ⟨c, hc, hcq, hcb⟩ := bits_not8 q (2 ^ (j + 1) - 1) hq hk
  have ha : n &&& (2 ^ (j + 1) - 1) ≤ n := Nat.and_le_left
  rw [hc, bits_and8 n _ hn hk, bits_or8 _ c (by omega) (by omega)]
  refine ⟨_, rfl, Nat.or_lt_two_pow (n := 8) (by omega) (by omega), Nat.or_lt_two_pow (by omega) (by omega), fun k hkj => ?_⟩
  rw [Nat.testBit_or, Nat.testBit_and, hcb k, Nat.testBit_two_pow_sub_one]
  have h1 : decide (k < j + 1) = true := decide_eq_true (by omega)
  rw [h1]; simp

set_option maxRecDepth 100000 in
set_option maxHeartbeats 16000000 in
theorem fluteAfter_some (f : Fu) (hl : f.hs.length ≤ 1000000) (n0 q0 : Nat) (hn0 : n0 < 256) (hq0 : q0 < 256) (B : Nat) (w : World) (hB : B ≤ w.heap.size) (hz : FuAt w B f) :
    Calls Try.prog 11 #[.agg (fuc f).toArray, .int .u8 (n0 : Int), .int .u8 (q0 : Int)] w fun e w' => e = .returned (.bool true) ∧ Below w.heap.size w w' := by
  obtain ⟨w1, hw1⟩ : ∃ w1, w.alloc (.cells (fuc f).toArray 28) = w1 := ⟨_, rfl⟩
  have hb1 : Below w.heap.size w w1 := by rw [← hw1]; exact grow1 _ _
  have m0 : w1.heap[w.heap.size]? = some (.cells (fuc f).toArray 28 (0, 0)) := by rw [← hw1]; exact alloc_at0 _ _
  have hz1 := hz.below (hb1.mono hB)
  have hB1 := Nat.le_trans hB hb1.size
  have HAL := Lib.hid (fun W => alive_any W)
  have hrd := fun W (hW : Below w1.heap.size w1 W) => ready9_any f hl B W (Nat.le_trans hB1 hW.size) (hz1.below (hW.mono hB1))
  have htn := fun n (h256 : n < 256) W (hW : Below w1.heap.size w1 W) => tone_any9 f hl n h256 B W (Nat.le_trans hB1 hW.size) (hz1.below (hW.mono hB1))
  unfold TonePost at htn
  have hte : okFu f = true → ∀ n, n < 2 ^ f.hs.length → tonE f n = 0 ∧ tonV f n = tonF f n := fun h1 n h3 => ⟨by simp [tonE, h1, h3], by simp [tonV, h1, h3]⟩
  have hcf := fun (W : World) (hW : Below w1.heap.size w1 W) i => cell_of_row W w.heap.size i _ _ _ ((hW.block _ (lt_of_heap m0)).trans m0)
  have hfg := fun (h8 : f.hs.length ≤ 8) n (hn : n < 256) W => fingered_any f h8 n hn W
  have H1 := Lib.hid hb1
  have HLT := Lib.hid (lt_of_heap m0)
  clear hz hb1 m0 hz1
  unfold fuc at hw1 hcf hrd htn hfg ⊢
  have HCF := Lib.hid hcf
  clear hcf
  have hrk := fun (h : rdyF f = true) => rdy_ok h
  generalize rdyF f = v1 at hrd hrk
  have HRD := Lib.hid hrd
  clear hrd
  cases v1
  · clear hrk htn hte hfg
    go_enter Try.func11, Try.ntmps11
    go_wp2_with (first
      | (go_at_call 13; refine (HAL.out _).mono ?_; rintro e w2 ⟨rfl, hB2⟩; have hc2 := HCF.out w2 hB2; have H2 := Lib.hid hB2; clear hB2)
      | (go_at_call 32; refine (HRD.out w2 H2.out).mono ?_; rintro e w3 ⟨rfl, hB3⟩; have H3 := Lib.hid (H2.out.trans (hB3.mono H2.out.size)); clear hB3))
    go_ret
    exact ⟨rfl, H1.out.trans (H3.out.mono H1.out.size)⟩
  have hok := hrk rfl
  have hlen8 := (okFu_bnd hok).2.2.2.2.1
  have HFG := Lib.hid (hfg hlen8)
  have HTE := Lib.hid (And.intro (hte hok) htn)
  have hN8 : 2 ^ f.hs.length ≤ 256 := Nat.pow_le_pow_right (n := 2) (by omega) hlen8
  have hnlt : n0 % 2 ^ f.hs.length < 2 ^ f.hs.length := Nat.mod_lt _ (Nat.pow_pos (by omega))
  have hqlt : q0 % 2 ^ f.hs.length < 2 ^ f.hs.length := Nat.mod_lt _ (Nat.pow_pos (by omega))
  obtain ⟨n, hn⟩ : ∃ n, n = n0 % 2 ^ f.hs.length := ⟨_, rfl⟩
  obtain ⟨q, hq⟩ : ∃ q, q = q0 % 2 ^ f.hs.length := ⟨_, rfl⟩
  have hfgn := HFG.out n0 hn0
  have hfgq := HFG.out q0 hq0
  rw [← hn] at hfgn hnlt
  rw [← hq] at hfgq hqlt
  have HFN := Lib.hid hfgn
  have HFQ := Lib.hid hfgq
  have hn256 : n < 256 := by omega
  have hq256 : q < 256 := by omega
  have HOK := Lib.hid (And.intro hok (And.intro hlen8 (And.intro hnlt (And.intro hqlt (And.intro hn256 hq256)))))
  have hlz : (f.hs.length : Int) ≤ 8 := by omega
  clear hrk htn hte hfg hfgn hfgq hn hq hok hlen8 hnlt hqlt hn256 hq256 hN8 HFG
  go_enter Try.func11, Try.ntmps11
  go_wp2_with (first
    | (go_at_call 13; refine (HAL.out _).mono ?_; rintro e w2 ⟨rfl, hB2⟩; have hc2 := HCF.out w2 hB2; have H2 := Lib.hid hB2; clear hB2)
    | (go_at_call 32; refine (HRD.out w2 H2.out).mono ?_; rintro e w3 ⟨rfl, hB3⟩; have hc3 := HCF.out w3 (H2.out.trans (hB3.mono H2.out.size)); have H3 := Lib.hid (H2.out.trans (hB3.mono H2.out.size)); clear hB3 hc2))
  refine R6.wp_walk (C := fun _ _ W => Below w1.heap.size w1 W) 88 (by kernel_rfl) (by kernel_rfl) rfl H3.out.drew ?_
  simp only []
  repeat
    (refine' R6.WalkR.det (fun _ => rfl) (fun D ρ W hK hC => ?_) ?_
     rotate_left
     · have f0 := HCF.out W hC
       have HC := Lib.hid hC
       clear hC hK
       go_simp
       first
         | with_reducible exact ⟨rfl, HC.out⟩
         | (go_at_call 34; (with_reducible refine (HFN.out W).mono ?_); rintro e W1 ⟨rfl, hB1⟩; exact ⟨_, rfl, rfl, HC.out.trans (hB1.mono HC.out.size)⟩)
         | (go_at_call 34; (with_reducible refine (HFQ.out W).mono ?_); rintro e W1 ⟨rfl, hB1⟩; exact ⟨_, rfl, rfl, HC.out.trans (hB1.mono HC.out.size)⟩)
     simp only [Act.put, List.setIfInBounds_toArray, List.set_cons_succ, List.set_cons_zero])
  refine R6.WalkR.nil (fun D ρ W hD hC => ?_)
  obtain ⟨w4, hw4⟩ : ∃ w4, W = w4 := ⟨_, rfl⟩
  rw [hw4] at hC ⊢
  have H4 := Lib.hid hC
  clear hC hD hw4 hc3
  clear D ρ W
  have hc4 := HCF.out w4 H4.out
  go_wp2
  refine R6.wp_walk (C := fun _ _ W => Below w1.heap.size w1 W) 88 (by kernel_rfl) (by kernel_rfl) rfl H4.out.drew ?_
  simp only []
  repeat
    (refine' R6.WalkR.det (fun _ => rfl) (fun D ρ W hK hC => ?_) ?_
     rotate_left
     · have f0 := HCF.out W hC
       have HC := Lib.hid hC
       clear hC hK
       go_simp
       with_reducible exact ⟨rfl, HC.out⟩
     simp only [Act.put, List.setIfInBounds_toArray, List.set_cons_succ, List.set_cons_zero])
  refine R6.WalkR.nil (fun D ρ W hD hC => ?_)
  obtain ⟨w5, hw5⟩ : ∃ w5, W = w5 := ⟨_, rfl⟩
  rw [hw5] at hC ⊢
  have H5 := Lib.hid hC
  clear hC hD hw5 hc4
  clear D ρ W
  have hc5 := HCF.out w5 H5.out
  go_wp2
  go_loopg [8, 9, 35] f.hs.length (fun gg s8 s9 s35 wx => ∃ k : Nat, k + gg = f.hs.length ∧ s8 = .int .i64 ((opn n f.hs.length k).1 : Int) ∧ s9 = .int .i64 ((opn n f.hs.length k).2 : Int) ∧ s35 = .int .i64 k ∧ wx = w5)
  case atStart => exact ⟨0, by omega, by go_num, rfl, by go_num, rfl⟩
  case round =>
    obtain ⟨k, hkg, rfl, rfl, rfl, rfl⟩ := hrel
    cases gk with
    | zero =>
      obtain rfl : k = f.hs.length := by omega
      have hsp := (opn_spec n f.hs.length f.hs.length).2.2
      have hle := opn_le n f.hs.length f.hs.length
      generalize opn n f.hs.length f.hs.length = st at hsp hle ⊢
      obtain ⟨op, nx⟩ := st
      dsimp only at hsp hle ⊢
      by_cases h2 : op < 2
      · have hd : decide ((op : Int) < 2) = true := decide_eq_true (by omega)
        go_wp2
        go_ret
        exact ⟨rfl, H1.out.trans (H5.out.mono H1.out.size)⟩
      · have hd : decide ((op : Int) < 2) = false := decide_eq_false (by omega)
        have HSP := Lib.hid (hsp (by omega))
        have hnx : (nx : Int) ≤ 7 := by obtain ⟨i, _, h⟩ := HSP.out; omega
        clear hsp
        obtain ⟨ht1, ht2⟩ := HTE.out.1 n HOK.out.2.2.1
        have htn := HTE.out.2 n HOK.out.2.2.2.2.1
        rw [ht1, ht2] at htn
        have HT1 := Lib.hid htn
        clear htn ht1 ht2
        obtain ⟨i, htw, hnxl⟩ := HSP.out
        obtain ⟨m, hm, hm256, hml, hmb⟩ := mix_val (N := 0) HOK.out.2.2.2.2.1 HOK.out.2.2.2.2.2 (show nx ≤ 7 by omega) HOK.out.2.2.1 HOK.out.2.2.2.1
        have htf := tonF_after f HOK.out.2.2.2.2.1 hm256 HOK.out.2.1 hnxl htw hmb
        obtain ⟨hu1, hu2⟩ := HTE.out.1 m hml
        have htm := HTE.out.2 m hm256
        rw [hu1, hu2, htf] at htm
        have HT2 := Lib.hid htm
        have HMX := Lib.hid (And.intro hm (kept_val (show nx ≤ 7 by omega)))
        clear htm hu1 hu2 htf hm hm256 hml hmb htw hnxl
        generalize (tonF f n).1 = t0 at HT1 HT2
        generalize (tonF f n).2 = t1 at HT1 HT2
        go_wp2_with (first
          | (go_at_call 21; (with_reducible refine (HT1.out wr H5.out).mono ?_); rintro e w6 ⟨rfl, hB6⟩; have hc6 := HCF.out w6 (H5.out.trans (hB6.mono H5.out.size)); have hl6 : w.heap.size < w6.heap.size := Nat.lt_of_lt_of_le HLT.out (H5.out.trans (hB6.mono H5.out.size)).size; have H6 := Lib.hid (H5.out.trans (hB6.mono H5.out.size)); clear hB6 hc5)
          | (go_at_call 21
             rw [HMX.out.2, HMX.out.1]
             refine (HT2.out _ (H6.out.alloc H6.out.size (.cells #[.int .i64 t0, .int .i64 t1] 25))).mono ?_
             rintro e w7 ⟨rfl, hB7⟩
             have hc7 : ∀ i, w7.cell? ⟨w6.heap.size, i, none⟩ = _ := fun i => cell_of_row w7 w6.heap.size i _ _ _ ((hB7.block _ (by simp)).trans (alloc_at0 w6 (.cells #[.int .i64 t0, .int .i64 t1] 25)))
             have hl7 : w6.heap.size < w7.heap.size := by have := hB7.size; simp at this; omega
             have H7 := Lib.hid ((H6.out.alloc H6.out.size (.cells #[.int .i64 t0, .int .i64 t1] 25)).trans (hB7.mono (by have := H6.out.size; simp; omega)))
             clear hB7 hc6))
        go_ret
        exact ⟨rfl, H1.out.trans ((H7.out.alloc H7.out.size _).mono H1.out.size)⟩
    | succ gg =>
      have hk : k < f.hs.length := by omega
      have hkz : (k : Int) ≤ 7 := by omega
      have hop := opn_le n f.hs.length k
      have hopz : ((opn n f.hs.length k).1 : Int) ≤ 7 := by omega
      have hba := bit_and HOK.out.2.2.2.2.1 (show k < 8 by omega)
      cases hb : n.testBit k
      · have e : opn n f.hs.length (k + 1) = opn n f.hs.length k := by simp [opn, hb]
        rw [hb] at hba
        simp only [Bool.false_eq_true, if_false] at hba
        have HE := Lib.hid e
        clear e hb
        go_wp2
        go_roundg gg
        case measure => omega
        case rel => exact ⟨k + 1, by omega, by rw [HE.out], by rw [HE.out], by go_num, rfl⟩
      · have e : opn n f.hs.length (k + 1) = ((opn n f.hs.length k).1 + 1, if (opn n f.hs.length k).1 + 1 = 2 then k else (opn n f.hs.length k).2) := by simp [opn, hb]
        rw [hb] at hba
        simp only [if_true] at hba
        by_cases h2 : (opn n f.hs.length k).1 + 1 = 2
        · rw [if_pos h2] at e
          have HE := Lib.hid e
          have h2z : (((opn n f.hs.length k).1 : Int) + 1 == 2) = true := by simp; omega
          clear e hb h2
          go_wp2
          go_roundg gg
          case measure => omega
          case rel => exact ⟨k + 1, by omega, by rw [HE.out]; go_num, by rw [HE.out], by go_num, rfl⟩
        · rw [if_neg h2] at e
          have HE := Lib.hid e
          have h2z : (((opn n f.hs.length k).1 : Int) + 1 == 2) = false := by simp; omega
          clear e hb h2
          go_wp2
          go_roundg gg
          case measure => omega
          case rel => exact ⟨k + 1, by omega, by rw [HE.out]; go_num, by rw [HE.out], by go_num, rfl⟩

set_option maxRecDepth 100000 in
set_option maxHeartbeats 4000000 in
theorem fluteAfter_law (f : Fu) (n q : Nat) (hn : n < 256) (hq : q < 256) (B : Nat) (w : World) (hB : B ≤ w.heap.size) (hz : FuAt w B f) :
    Calls Try.prog 11 #[.agg (fuc f).toArray, .int .u8 (n : Int), .int .u8 (q : Int)] w fun e w' => e = .returned (.bool true) ∧ Below w.heap.size w w' := by
  by_cases h12 : f.hs.length ≤ 12
  · exact fluteAfter_some f (by omega) n q hn hq B w hB hz
  clear hz hB
  obtain ⟨w1, hw1⟩ : ∃ w1, w.alloc (.cells (fuc f).toArray 28) = w1 := ⟨_, rfl⟩
  have hb1 : Below w.heap.size w w1 := by rw [← hw1]; exact grow1 _ _
  have m0 : w1.heap[w.heap.size]? = some (.cells (fuc f).toArray 28 (0, 0)) := by rw [← hw1]; exact alloc_at0 _ _
  have HAL := Lib.hid (fun W => alive_any W)
  have HRD := Lib.hid (fun W => ready9_big f h12 W)
  have hcf := fun (W : World) (hW : Below w1.heap.size w1 W) i => cell_of_row W w.heap.size i _ _ _ ((hW.block _ (lt_of_heap m0)).trans m0)
  have H1 := Lib.hid hb1
  clear hb1 m0 h12
  unfold fuc at hw1 hcf HRD ⊢
  have HCF := Lib.hid hcf
  clear hcf
  go_enter Try.func11, Try.ntmps11
  go_wp2_with (first
    | (go_at_call 13; refine (HAL.out _).mono ?_; rintro e w2 ⟨rfl, hB2⟩; have hc2 := HCF.out w2 hB2; have H2 := Lib.hid hB2; clear hB2)
    | (go_at_call 32; refine (HRD.out w2).mono ?_; rintro e w3 ⟨rfl, hB3⟩; have H3 := Lib.hid (H2.out.trans (hB3.mono H2.out.size)); clear hB3))
  go_ret
  exact ⟨rfl, H1.out.trans (H3.out.mono H1.out.size)⟩

end Go.Proofs.Ytjjipkgconmfcaa

namespace Go.Proofs.Ytjjipkgconmfcaa
open Go.RowKit Go.Maps
open R6 (done done_ne done_me upd_ne upd_me)

attribute [local go_sem] gives

def oneB (k : Nat) (L L' : List Value) (D : Nat → Bool) : List Value := if D k = true then L' else L
theorem oneB_off {k : Nat} {L L' : List Value} {D : Nat → Bool} (h : D k = false) : oneB k L L' D = L := by simp [oneB, h]
theorem oneB_on {k : Nat} {L L' : List Value} {D : Nat → Bool} (h : D k = true) : oneB k L L' D = L' := by simp [oneB, h]
theorem oneB_move {k j : Nat} {L L' : List Value} {D : Nat → Bool} (h : (j == k) = false) : oneB k L L' (done D j) = oneB k L L' D := by
  unfold oneB
  rw [done_ne (fun e => by rw [e] at h; simp at h)]
theorem oneB_me {k : Nat} {L L' : List Value} {D : Nat → Bool} : oneB k L L' (done D k) = L' := by simp [oneB, done]
/-- A box and holes of its own. -/
structure WdS (w0 : World) (b g : Nat) (x : List Value) (h : List Ho) (tl : List Value) (W : World) : Prop where
  bel : Below w0.heap.size w0 W
  m : W.heap[b]? = some (.cells x.toArray 28 (0, 0))
  o : OwnHo W g h tl
section
variable {w0 W W' : World} {b g : Nat} {x y : List Value} {h h' : List Ho} {tl : List Value}
theorem WdS.putB (hT : WdS w0 b g x h tl W) (hb0 : w0.heap.size ≤ b) (hn : b ≠ g) (hb : Below b W W') (ho : ∀ k, k ≠ b → W'.heap[k]? = W.heap[k]?) (hM : W'.heap[b]? = some (.cells y.toArray 28 (0, 0))) : WdS w0 b g y h tl W' :=
  ⟨hT.bel.trans (hb.mono hb0), hM, (ho _ (Ne.symm hn)).trans hT.o⟩
theorem WdS.putG (hT : WdS w0 b g x h tl W) (hg0 : w0.heap.size ≤ g) (hn : b ≠ g) (hb : Below g W W') (ho : ∀ k, k ≠ g → W'.heap[k]? = W.heap[k]?) (hM : OwnHo W' g h' tl) : WdS w0 b g x h' tl W' :=
  ⟨hT.bel.trans (hb.mono hg0), (ho _ hn).trans hT.m, hM⟩
theorem WdS.grows (hT : WdS w0 b g x h tl W) (hg : Grows W W') : WdS w0 b g x h tl W' :=
  ⟨hT.bel.trans (hg.mono hT.bel.size), (hg.block _ (lt_of_heap hT.m)).trans hT.m, (hg.block _ (lt_of_heap hT.o)).trans hT.o⟩
end
/-- A box that is made and then written, at a place that is not told. -/
structure BxC (w0 : World) (t : TypeId) (z y : List Value) (ka d ks : Nat) (D : Nat → Bool) (σ : Nat → Value) (W : World) : Prop where
  bel : Below w0.heap.size w0 W
  box : D ka = true → ∃ b, σ d = .pointer (some ⟨b, 0, none⟩) ∧ w0.heap.size ≤ b ∧ W.heap[b]? = some (.cells (oneB ks z y D).toArray t (0, 0))
section
variable {w0 W W' : World} {t : TypeId} {z y : List Value} {ka d ks : Nat} {D : Nat → Bool} {σ : Nat → Value}
theorem BxC.start (hD : ∀ k, D k = false) : BxC w0 t z y ka d ks D σ w0.drew := ⟨(Below.refl _ _).drew, fun h => by rw [hD] at h; cases h⟩
theorem BxC.next (h : BxC w0 t z y ka d ks D σ W) (hg : Grows W W') : BxC w0 t z y ka d ks D σ W' :=
  ⟨h.bel.trans (hg.mono h.bel.size), fun hd => let ⟨b, e, hb, hm⟩ := h.box hd; ⟨b, e, hb, (hg.block _ (lt_of_heap hm)).trans hm⟩⟩
theorem BxC.move (h : BxC w0 t z y ka d ks D σ W) {k d' : Nat} {v : Value} (hk : (k == ka || k == ks) = false) (hd : (d' == d) = false) : BxC w0 t z y ka d ks (done D k) (R4.upd σ (some d') v) W := by
  simp only [Bool.or_eq_false_iff, beq_eq_false_iff_ne, ne_eq] at hk hd
  refine ⟨h.bel, ?_⟩
  rw [done_ne (Ne.symm hk.1), oneB_move (by simpa using hk.2), upd_ne (fun e => hd (Option.some.inj e))]
  exact h.box
theorem BxC.alloc (h : BxC w0 t z y ka d ks D σ W) (hn : (ka == ks) = false) (h2 : D ks = false) : BxC w0 t z y ka d ks (done D ka) (R4.upd σ (some d) (.pointer (some ⟨W.heap.size, 0, none⟩))) (W.alloc (.cells z.toArray t)) :=
  ⟨h.bel.alloc h.bel.size _, fun _ => ⟨W.heap.size, upd_me, h.bel.size, by rw [oneB_move hn, oneB_off h2]; exact alloc_at0 W _⟩⟩
theorem BxC.store (h : BxC w0 t z y ka d ks D σ W) (h1 : D ka = true) {b : Nat} (hb0 : w0.heap.size ≤ b) (hb : σ d = .pointer (some ⟨b, 0, none⟩)) (hP : Put W W' b) (hM : W'.heap[b]? = some (.cells y.toArray t (0, 0))) : BxC w0 t z y ka d ks (done D ks) (R4.upd σ none undef) W' :=
  ⟨h.bel.trans (hP.below hb0), fun _ => ⟨b, hb, hb0, by rw [oneB_me]; exact hM⟩⟩
end

theorem mapK_cell {g : Nat → Ho → Ho} {k j : Nat} {hs : List Ho} {tl : List Value} (hk : k < hs.length) (hj : j < 3) : ((mapK g k hs).flatMap hoc ++ tl)[k * 3 + j]? = (hoc hs[k])[j]? := by
  have hl : (((hs.take k).mapIdx g).flatMap hoc).length = k * 3 := by rw [flat_len hoc_len]; simp; omega
  rw [mapK_at hk]
  simp only [List.flatMap_append, List.flatMap_cons, List.append_assoc]
  rw [List.getElem?_append_right (by omega), hl, show k * 3 + j - k * 3 = j by omega, List.getElem?_append_left (by rw [hoc_len]; exact hj)]
theorem mapK_first {h0 : Ho} {k : Nat} {hs : List Ho} {tl : List Value} (h : 0 < hs.length) (he : h0 = hs[0]) : ∀ j v, ([.int .i64 h0.lo, .int .i64 h0.hi] : List Value)[j]? = some v → ((mapK (samH h0) k hs).flatMap hoc ++ tl)[1 + j]? = some v := by
  obtain ⟨x, l, rfl⟩ : ∃ x l, hs = x :: l := by cases hs with
    | nil => exact absurd h (Nat.lt_irrefl _)
    | cons x l => exact ⟨x, l, rfl⟩
  have he : h0 = x := he
  subst he
  have e : ∃ l', mapK (samH h0) k (h0 :: l) = ⟨h0.a, h0.lo, h0.hi⟩ :: l' := by
    cases k with
    | zero => exact ⟨l, by simp [mapK]⟩
    | succ k => exact ⟨_, by simp [mapK, List.mapIdx_cons, samH]; rfl⟩
  obtain ⟨l', e⟩ := e
  rw [e]
  intro j v hj
  match j with
  | 0 => simpa [hoc] using hj
  | 1 => simpa [hoc] using hj
  | j + 2 => simp at hj
theorem mapK_splice {g : Nat → Ho → Ho} {k : Nat} {hs : List Ho} {tl : List Value} (hk : k < hs.length) (a b : Value) (h : hoc (g k hs[k]) = [.int .i64 hs[k].a, a, b]) :
    splice ((mapK g k hs).flatMap hoc ++ tl) (k * 3 + 1) [a, b] = (mapK g (k + 1) hs).flatMap hoc ++ tl := by
  have hl : (((hs.take k).mapIdx g).flatMap hoc).length = k * 3 := by rw [flat_len hoc_len]; simp; omega
  rw [mapK_at hk, mapK_next hk]
  simp only [List.flatMap_append, List.flatMap_cons, List.append_assoc, h]
  generalize ((hs.take k).mapIdx g).flatMap hoc = P at hl
  unfold splice
  have e1 : (P ++ (hoc hs[k] ++ ((hs.drop (k + 1)).flatMap hoc ++ tl))).take (k * 3 + 1) = P ++ [.int .i64 hs[k].a] := by
    rw [List.take_append, hl, List.take_of_length_le (by omega), show k * 3 + 1 - k * 3 = 1 by omega]
    simp [hoc]
  have e2 : (P ++ (hoc hs[k] ++ ((hs.drop (k + 1)).flatMap hoc ++ tl))).drop (k * 3 + 1 + [a, b].length) = (hs.drop (k + 1)).flatMap hoc ++ tl := by
    rw [List.drop_append, hl, List.drop_eq_nil_of_le (by simp; omega), show k * 3 + 1 + [a, b].length - k * 3 = 3 by simp; omega]
    simp [hoc]
  rw [e1, e2]
  simp
/-- Which hole is the first open one, as far as it is known. -/
def fstK (fi k : Nat) : Int := if k ≤ fi then -1 else fi
theorem fstK_le {fi k : Nat} (h : k ≤ fi) : fstK fi k = -1 := if_pos h
theorem fstK_gt {fi k : Nat} (h : fi < k) : fstK fi k = fi := if_neg (by omega)
theorem pow_u8 {j : Nat} (hj : j < 8) : IntKind.u8.wrap ((2 : Int) ^ j) = ((2 ^ j : Nat) : Int) := by
  obtain ⟨m, rfl⟩ : ∃ m : Fin 8, m.val = j := ⟨⟨j, hj⟩, rfl⟩
  clear hj
  revert m
  decide +kernel
/-- What a remainder needs. -/
theorem rem_facts {a m : Int} (ha : 0 ≤ a ∧ a < 4294967296) (hm : 0 ≤ m ∧ m ≤ 1000000) : IntKind.i64.wrap a = a ∧ IntKind.i64.wrap m = m ∧ IntKind.i64.wrap (m + 1) = m + 1 ∧ ¬ m + 1 = 0 ∧ a.tmod (m + 1) = remL a m ∧ IntKind.i64.wrap (remL a m) = remL a m ∧ 0 ≤ remL a m ∧ remL a m ≤ m := by
  have hr := remL_bnd (a := a) hm.1
  exact ⟨IntWalk.i64_in _ (by omega), IntWalk.i64_in _ (by omega), IntWalk.i64_in _ (by omega), by omega, Int.tmod_eq_emod_of_nonneg ha.1, IntWalk.i64_in _ (by omega), hr.1, hr.2⟩

end Go.Proofs.Ytjjipkgconmfcaa
