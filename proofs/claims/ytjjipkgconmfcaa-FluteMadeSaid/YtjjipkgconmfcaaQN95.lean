/-
  Texts laid together: FvS0, FwH, FwI, FvT.
-/
import Derived.Test.YtjjipkgconmfcaaQN91
import Derived.Test.YtjjipkgconmfcaaQN94
import Derived.Test.YtjjipkgconmfcaaQN93
import Derived.Test.YtjjipkgconmfcaaB918
import Derived.Test.YtjjipkgconmfcaaB921
import Derived.Test.YtjjipkgconmfcaaB97
set_option linter.all false
namespace Go.Proofs.Ytjjipkgconmfcaa
open Go.RowKit Go.Maps
open R6 (done done_ne done_me upd_ne upd_me)

attribute [local go_sem] gives

def modL (a m : Int) : Int := a % m
theorem modL_bnd {a m : Int} (h : 1 ≤ m) : 0 ≤ modL a m ∧ modL a m ≤ m - 1 := by
  have h0 := Int.emod_nonneg a (show m ≠ 0 by omega)
  have h1 := Int.emod_lt_of_pos a (show 0 < m by omega)
  unfold modL
  omega
theorem mod_facts {a m : Int} (ha : 0 ≤ a ∧ a < 4294967296) (hm : 1 ≤ m ∧ m ≤ 10000000) : IntKind.i64.wrap a = a ∧ ¬ m = 0 ∧ a.tmod m = modL a m ∧ IntKind.i64.wrap (modL a m) = modL a m ∧ 0 ≤ modL a m ∧ modL a m ≤ m - 1 := by
  have hr := modL_bnd (a := a) hm.1
  exact ⟨IntWalk.i64_in _ (by omega), by omega, Int.tmod_eq_emod_of_nonneg ha.1, IntWalk.i64_in _ (by omega), hr.1, hr.2⟩
theorem rem_facts2 {a m : Int} (ha : 0 ≤ a ∧ a < 4294967296) (hm : 0 ≤ m ∧ m ≤ 10000000) : IntKind.i64.wrap a = a ∧ IntKind.i64.wrap m = m ∧ IntKind.i64.wrap (m + 1) = m + 1 ∧ ¬ m + 1 = 0 ∧ a.tmod (m + 1) = remL a m ∧ IntKind.i64.wrap (remL a m) = remL a m ∧ 0 ≤ remL a m ∧ remL a m ≤ m := by
  have hr := remL_bnd (a := a) hm.1
  exact ⟨IntWalk.i64_in _ (by omega), IntWalk.i64_in _ (by omega), IntWalk.i64_in _ (by omega), by omega, Int.tmod_eq_emod_of_nonneg ha.1, IntWalk.i64_in _ (by omega), hr.1, hr.2⟩
def morB (b : Bk) (us : List Int) : Bk := ⟨b.len + remL (atL us 0) (20000 - b.len), b.e0, b.e1, b.f0, b.f1, b.s0, b.s1, b.gap - modL (atL us 1) b.gap, b.near - remL (atL us 2) b.near, b.A, b.cap, b.zs⟩
theorem noL_more {len len' : Int} (h : len ≤ len') : ∀ (l : List Int) (least : Int), noL len l least = true → noL len' l least = true
  | [], _, _ => rfl
  | y :: l, least, hh => by
    simp only [noL, Bool.and_eq_true, allB_one, inR_iff] at hh ⊢
    exact ⟨by omega, noL_more h l _ hh.2⟩
theorem mor_ok {b : Bk} (hok : okBk b = true) (us : List Int) : okBk (morB b us) = true ∧ MoreB b (morB b us) := by
  have hok' := hok
  simp only [okBk, Bool.and_eq_true, allB_one, inR_iff, okS_iff, decide_eq_true_eq] at hok'
  obtain ⟨⟨⟨⟨⟨⟨⟨h1, h2⟩, h3⟩, h4⟩, h5⟩, h6⟩, h7⟩, h8⟩ := hok'
  have r0 := remL_bnd (a := atL us 0) (show 0 ≤ 20000 - b.len by omega)
  have r1 := modL_bnd (a := atL us 1) h5.1
  have r2 := remL_bnd (a := atL us 2) h6.1
  refine ⟨?_, ⟨by simp only [morB]; omega, rfl, rfl, rfl, rfl, rfl, rfl, by simp only [morB]; omega, by simp only [morB]; omega, rfl⟩⟩
  simp only [okBk, morB, Bool.and_eq_true, allB_one, inR_iff, okS_iff, decide_eq_true_eq]
  exact ⟨⟨⟨⟨⟨⟨⟨by omega, h2⟩, h3⟩, h4⟩, by omega⟩, by omega⟩, decide_eq_true h7⟩, noL_more (by omega) _ _ h8⟩
def widN (us : List Int) (i : Nat) (o : Int × Int) : Int × Int := (o.1 - modL (atL us ((i : Int) + 3)) o.1, o.2 + remL (atL us ((i : Int) + 4)) (10000000 - o.2))
theorem widN_ok {us : List Int} {i : Nat} {o : Int × Int} (h : okNo1 o = true) : okNo1 (widN us i o) = true ∧ (widN us i o).1 ≤ o.1 ∧ o.2 ≤ (widN us i o).2 := by
  unfold okNo1 at *
  rw [okS_iff] at h
  rw [okS_iff]
  have r1 := modL_bnd (a := atL us ((i : Int) + 3)) h.1
  have r2 := remL_bnd (a := atL us ((i : Int) + 4)) (show 0 ≤ 10000000 - o.2 by omega)
  simp only [widN]
  omega
theorem widO_map (g : Nat → Int × Int → Int × Int) : ∀ (l : List (Int × Int)), (∀ i o, o ∈ l → (g i o).1 ≤ o.1 ∧ o.2 ≤ (g i o).2) → WidO l (l.mapIdx g)
  | [], _ => by simp [WidO]
  | o :: l, h => by
    rw [List.mapIdx_cons]
    exact ⟨(h 0 o List.mem_cons_self).1, (h 0 o List.mem_cons_self).2, widO_map _ l (fun i x hx => h (i + 1) x (List.mem_cons_of_mem _ hx))⟩
theorem wid_oks {os : List (Int × Int)} (h : okNos os = true) (us : List Int) : okNos (os.mapIdx (widN us)) = true ∧ WidO os (os.mapIdx (widN us)) := by
  unfold okNos at *
  simp only [Bool.and_eq_true, decide_eq_true_eq, List.all_eq_true, List.length_mapIdx] at *
  refine ⟨⟨h.1, fun x hx => ?_⟩, widO_map _ os fun i o ho => (widN_ok (h.2 o ho)).2⟩
  obtain ⟨i, hi, rfl⟩ := List.mem_mapIdx.1 hx
  exact (widN_ok (h.2 _ (List.getElem_mem hi))).1
theorem wide_next {α : Type} {g : Nat → α → α} {l : List α} {k : Nat} (hk : k < l.length) : (l.take (k + 1)).mapIdx g = (l.take k).mapIdx g ++ [g k l[k]] := by
  rw [List.take_succ_eq_append_getElem hk, List.mapIdx_append]
  simp [Nat.min_eq_left (Nat.le_of_lt hk)]
/-- What Drill tells with more. -/
theorem dri_more {b : Bk} {os : List (Int × Int)} (hb : okBk b = true) (ho : okNos os = true) (us : List Int) (he : driE b os = 0) :
    driE (morB b us) (os.mapIdx (widN us)) = 0 ∧ (driL (morB b us) (os.mapIdx (widN us))).length = (driL b os).length ∧ (driL b os).length = os.length ∧ ∀ i : Nat, (driL b os)[i]?.getD 0 ≤ (driL (morB b us) (os.mapIdx (widN us)))[i]?.getD 0 := by
  obtain ⟨hb', hm⟩ := mor_ok hb us
  obtain ⟨ho', hw⟩ := wid_oks ho us
  unfold driE at he
  rw [if_pos hb, if_pos ho] at he
  have hs : (drF b os []).isSome = true := by
    cases h : (drF b os []).isSome
    · rw [h] at he; simp at he
    · rfl
  obtain ⟨l, hl⟩ := Option.isSome_iff_exists.1 hs
  rw [drF_drG b hb] at hl
  obtain ⟨l', hl', hle⟩ := drG_more hm os (os.mapIdx (widN us)) [] [] l hw trivial hl
  have e1 : driL b os = l := by unfold driL; rw [if_pos hb, if_pos ho, drF_drG b hb, hl]; rfl
  have e2 : driL (morB b us) (os.mapIdx (widN us)) = l' := by unfold driL; rw [if_pos hb', if_pos ho', drF_drG _ hb', hl']; rfl
  rw [e1, e2]
  refine ⟨?_, hle.len.symm, by have := drG_len b os [] l hl; simpa using this, hle.get⟩
  unfold driE
  rw [if_pos hb', if_pos ho', drF_drG _ hb', hl']
  rfl
theorem dri_cases {b : Bk} {os : List (Int × Int)} (hb : okBk b = true) (ho : okNos os = true) : driE b os = 0 ∨ driE b os = 6 := by
  unfold driE
  rw [if_pos hb, if_pos ho]
  split
  · exact .inl rfl
  · exact .inr rfl

/-- A stretch is appended to a list of its own; a box stays. -/
structure ApC (base : Nat) (w1 : World) (bx : Nat) (X : Obj) (v : Value) (L : List (Int × Int)) (y : Int × Int) (k2 t2 k3 t3 : Nat) (D : Nat → Bool) (σ : Nat → Value) (W : World) : Prop where
  lb : base ≤ W.heap.size
  bel : Below base w1 W
  box : W.heap[bx]? = some X
  own : D k3 = false → W.ownsRow base 25 2 v L.length (pairs L)
  two : D k2 = true → D k3 = false → ∃ g, σ t2 = .slice (some ⟨g, 0, none⟩) 1 1 ∧ W.heap[g]? = some (.cells #[.int .i64 y.1, .int .i64 y.2] 25 (0, 0))
  fin : D k3 = true → W.ownsRow base 25 2 (σ t3) (L.length + 1) (pairs (L ++ [y]))
section
variable {base : Nat} {w1 W W' : World} {bx : Nat} {X : Obj} {v : Value} {L : List (Int × Int)} {y : Int × Int} {k2 t2 k3 t3 : Nat} {D : Nat → Bool} {σ : Nat → Value}
theorem ApC.start (hb : Below base w1 W) (hlb : base ≤ W.heap.size) (hx : W.heap[bx]? = some X) (ho : W.ownsRow base 25 2 v L.length (pairs L)) (hD : ∀ k, D k = false) : ApC base w1 bx X v L y k2 t2 k3 t3 D σ W.drew :=
  ⟨hlb, hb.drew, hx, fun _ => ho, fun e => absurd (hD k2) (by rw [e]; decide), fun e => absurd (hD k3) (by rw [e]; decide)⟩
theorem ApC.next (h : ApC base w1 bx X v L y k2 t2 k3 t3 D σ W) (hg : Grows W W') (h3 : D k3 = false) : ApC base w1 bx X v L y k2 t2 k3 t3 D σ W' :=
  ⟨Nat.le_trans h.lb hg.size, h.bel.trans (hg.mono h.lb), (hg.block _ (lt_of_heap h.box)).trans h.box, fun e => own_grows (h.own e) hg, fun e1 e2 => let ⟨g, a, b⟩ := h.two e1 e2; ⟨g, a, (hg.block _ (lt_of_heap b)).trans b⟩, fun e => by rw [h3] at e; cases e⟩
theorem ApC.move (h : ApC base w1 bx X v L y k2 t2 k3 t3 D σ W) {k d : Nat} {u : Value} (hk : (k == k2 || k == k3) = false) (hd : (d == t2 || d == t3) = false) : ApC base w1 bx X v L y k2 t2 k3 t3 (done D k) (R4.upd σ (some d) u) W := by
  simp only [Bool.or_eq_false_iff, beq_eq_false_iff_ne, ne_eq] at hk hd
  have e2 := done_ne (D := D) (k := k) (j := k2) (Ne.symm hk.1)
  have e3 := done_ne (D := D) (k := k) (j := k3) (Ne.symm hk.2)
  have u2 : R4.upd σ (some d) u t2 = σ t2 := upd_ne (fun e => hd.1 (Option.some.inj e))
  have u3 : R4.upd σ (some d) u t3 = σ t3 := upd_ne (fun e => hd.2 (Option.some.inj e))
  exact ⟨h.lb, h.bel, h.box, by rw [e3]; exact h.own, by rw [e2, e3, u2]; exact h.two, by rw [e3, u3]; exact h.fin⟩
theorem ApC.built (h : ApC base w1 bx X v L y k2 t2 k3 t3 D σ W) (hn : (k2 == k3) = false) (h3 : D k3 = false) :
    ApC base w1 bx X v L y k2 t2 k3 t3 (done D k2) (R4.upd σ (some t2) (.slice (some ⟨W.heap.size, 0, none⟩) 1 1)) (W.alloc (.cells #[.int .i64 y.1, .int .i64 y.2] 25)) := by
  have e3 := done_ne (D := D) (k := k2) (j := k3) (fun e => by rw [e] at hn; simp at hn)
  have h2 := h.next (grow1 W (.cells #[.int .i64 y.1, .int .i64 y.2] 25)) h3
  exact ⟨h2.lb, h2.bel, h2.box, by rw [e3]; exact h2.own, fun _ _ => ⟨_, upd_me, alloc_at0 _ _⟩, fun e => by rw [e3, h3] at e; cases e⟩
theorem ApC.apped (h : ApC base w1 bx X v L y k2 t2 k3 t3 D σ W) (h3 : D k3 = false) {v' : Value} (hbx : v.ownBlock ≠ some bx)
    (ho : W'.ownsRow base 25 2 v' (L.length + 1) (pairs L ++ [.int .i64 y.1, .int .i64 y.2])) (hg : W.grownBy W' v.ownBlock) : ApC base w1 bx X v L y k2 t2 k3 t3 (done D k3) (R4.upd σ (some t3) v') W' := by
  refine ⟨Nat.le_trans h.lb hg.size, h.bel.grown hg h.lb (fun k e => own_blockL (h.own h3) k e), ?_, fun e => (by rw [done_me] at e; cases e), fun _ e => (by rw [done_me] at e; cases e), fun _ => ?_⟩
  · exact (hg.block _ (lt_of_heap h.box) (fun e => hbx e.symm)).trans h.box
  · rw [upd_me, pairs_app]
    exact ho
end
theorem own_lt {w : World} {base : Nat} {e : TypeId} {size n : Nat} {v : Value} {xs : List Value} (h : w.ownsRow base e size v n xs) {b : Nat} (hb : w.heap.size ≤ b) : v.ownBlock ≠ some b := by
  intro hk
  rcases h.2 with ⟨rfl, _⟩ | ⟨g, cap, cur, rfl, _, hh, _⟩
  · simp [Value.ownBlock] at hk
  · obtain rfl : g = b := by simpa [Value.ownBlock] using hk
    have := lt_of_heap hh
    omega

end Go.Proofs.Ytjjipkgconmfcaa

namespace Go.Proofs.Ytjjipkgconmfcaa
open Go.RowKit Go.Maps
open R6 (done done_ne done_me upd_ne upd_me)

attribute [local go_sem] gives

set_option maxRecDepth 100000 in
set_option maxHeartbeats 16000000 in
theorem fluteMade_some (b : Bk) (hlb : b.zs.length ≤ 1000000) (A1 : Option Addr) (cap1 : Nat) (os : List (Int × Int)) (hlo : os.length ≤ 1000000) (B : Nat) (w : World) (hB : B ≤ w.heap.size) (hz : BkAt w B b) (ho : Vals w B A1 (pairs os)) :
    Calls Try.prog 8 #[.agg (bkc b).toArray, .slice A1 os.length cap1] w fun e w' => e = .returned (.bool true) ∧ Below w.heap.size w w' := by
  obtain ⟨w1, hw1⟩ : ∃ w1, w.alloc (.cells (bkc b).toArray 34) = w1 := ⟨_, rfl⟩
  have hb1 : Below w.heap.size w w1 := by rw [← hw1]; exact grow1 _ _
  have m0 : w1.heap[w.heap.size]? = some (.cells (bkc b).toArray 34 (0, 0)) := by rw [← hw1]; exact alloc_at0 _ _
  have hz1 := hz.below (hb1.mono hB)
  have ho1 := ho.below (hb1.mono hB)
  have hB1 := Nat.le_trans hB hb1.size
  have HAL := Lib.hid (fun W => alive_any W)
  have hrd := fun W (hW : Below w1.heap.size w1 W) => drilling_any b hlb A1 cap1 os hlo B W (Nat.le_trans hB1 hW.size) (hz1.below (hW.mono hB1)) (ho1.below (hW.mono hB1))
  have hdr := fun W (hW : Below w1.heap.size w1 W) => drill_any b hlb A1 cap1 os hlo B W (Nat.le_trans hB1 hW.size) (hz1.below (hW.mono hB1)) (ho1.below (hW.mono hB1))
  have hcf := fun (W : World) (hW : Below w1.heap.size w1 W) i => cell_of_row W w.heap.size i _ _ _ ((hW.block _ (lt_of_heap m0)).trans m0)
  have H1 := Lib.hid hb1
  have HLW := Lib.hid (lt_of_heap m0)
  have hzI : Ints w1 B b.A b.zs := hz1
  have HZ1 := Lib.hid (And.intro hzI (And.intro ho1 hB1))
  unfold DriPost at hdr
  clear hz ho hb1 m0 hz1 ho1 hzI
  have hmk := fun A5 c5 (ls : List Int) (h9 : ls.length ≤ 9) (hcp : ls.length ≤ c5) (hcm : c5 ≤ 9223372036854775807) W (hW : Below w1.heap.size w1 W) (hI : Ints W W.heap.size A5 ls) => make_any b hlb A5 c5 ls (by omega) hcp hcm W.heap.size W (Nat.le_refl _) (Ints.mono (Ints.below HZ1.out.1 (hW.mono hB1)) (Nat.le_trans hB1 hW.size)) hI
  unfold bkc at hw1 hcf hrd hdr hmk ⊢
  have HCF := Lib.hid hcf
  clear hcf
  have hrk : drlF b os = true → okBk b = true ∧ okNos os = true := fun h => by
    simp only [drlF, Bool.and_eq_true] at h; exact h.2
  generalize drlF b os = v1 at hrd hrk
  have HRD := Lib.hid hrd
  clear hrd
  cases v1
  · clear hrk hdr hmk
    go_enter Try.func8, Try.ntmps8
    go_wp2_with (first
      | (go_at_call 13; refine (HAL.out _).mono ?_; rintro e w2 ⟨rfl, hB2⟩; have hc2 := HCF.out w2 hB2; have H2 := Lib.hid hB2; clear hB2)
      | (go_at_call 36; (with_reducible refine (HRD.out w2 H2.out).mono ?_); rintro e w3 ⟨rfl, hB3⟩; have H3 := Lib.hid (H2.out.trans (hB3.mono H2.out.size)); clear hB3))
    go_ret
    exact ⟨rfl, H1.out.trans (H3.out.mono H1.out.size)⟩
  obtain ⟨hok, hno⟩ := hrk rfl
  clear hrk
  have hcs := dri_cases hok hno
  have hmo := fun he => dri_made hok hno he
  have hnn := fun he => dri_no hok hno he
  have hos : 1 ≤ os.length ∧ os.length ≤ 9 := by
    simp only [okNos, Bool.and_eq_true, decide_eq_true_eq] at hno
    exact hno.1
  generalize driL b os = ls at hdr hmo hnn
  generalize driE b os = de at hdr hmo hnn hcs
  rcases hcs with rfl | rfl
  rotate_left
  · obtain rfl := hnn rfl
    have HDR := Lib.hid hdr
    clear hdr hmo hnn hos hok hno hmk
    go_enter Try.func8, Try.ntmps8
    go_wp2_with (first
      | (go_at_call 13; refine (HAL.out _).mono ?_; rintro e w2 ⟨rfl, hB2⟩; have hc2 := HCF.out w2 hB2; have H2 := Lib.hid hB2; clear hB2)
      | (go_at_call 36; (with_reducible refine (HRD.out w2 H2.out).mono ?_); rintro e w3 ⟨rfl, hB3⟩; have hc3 := HCF.out w3 (H2.out.trans (hB3.mono H2.out.size)); have H3 := Lib.hid (H2.out.trans (hB3.mono H2.out.size)); clear hB3 hc2)
      | (go_at_call 23; (with_reducible refine (HDR.out w3 H3.out).mono ?_); rintro e w4 ⟨v, rfl, hU, hB4⟩; obtain ⟨A5, c5, rfl⟩ := own_shape hU; have H4 := Lib.hid (H3.out.trans (hB4.mono H3.out.size)); clear hU hB4))
    go_ret
    exact ⟨rfl, H1.out.trans (H4.out.mono H1.out.size)⟩
  obtain ⟨hll, hpl⟩ := hmo rfl
  have hfo := fun A c => mk_ok hok (by omega) (by omega) hpl A c
  have hrt := fun A c => mk_right hok hno hll hpl A c
  have hpo := okPl_of hok (by omega) (by omega) hpl
  have hho := fun i (hi : i < (holL b ls).length) => hole_ok hpl hi
  have hhl : (holL b ls).length = os.length - 1 := by simp [holL, hll]
  have hmk := fun A5 c5 hcp hcm W hW hI => (hmk A5 c5 ls (by omega) hcp hcm W hW hI).mono fun e w' h => h.2.2 hok hpo
  have hfl := fun A c W (hz' : FuAt W W.heap.size (mkF b ls A c)) => rfFlute_any (mkF b ls A c) (by show (holL b ls).length ≤ _; omega) W.heap.size W (Nat.le_refl _) hz'
  simp only [hfo] at hfl
  have hri := fun A c W (hz' : FuAt W W.heap.size (mkF b ls A c)) (ho' : Vals W W.heap.size A1 (pairs os)) => right_any (mkF b ls A c) (by show (holL b ls).length ≤ _; omega) A1 cap1 os hlo W.heap.size W (Nat.le_refl _) hz' ho'
  simp only [hrt] at hri
  have hfa : ∀ A c W, Vals W W.heap.size A ((holL b ls).flatMap hoc) → FuAt W W.heap.size (mkF b ls A c) := fun A c W h => h
  have hbk := okBk_bnd hok
  have hob : ((50 : Int) ≤ ls[0]?.getD 0 ∧ ls[0]?.getD 0 ≤ (20000 : Int)) ∧ ∀ x ∈ holL b ls, 50 ≤ x.a ∧ x.a ≤ 20000 := by
    have h := okFu_bnd (hfo none 0)
    refine ⟨h.1, fun x hx => ?_⟩
    have h1 : (mkF b ls none 0).len ≤ 20000 := h.1.2
    have h2 := h.2.2.2.2.2 x hx
    omega
  unfold MakOk mkF fuc at hmk
  unfold mkF fuc at hfl hri
  unfold mkF at hfa
  dsimp only at hmk hfl hri
  obtain ⟨q0, hq0⟩ : ∃ q, ls[0]?.getD 0 = q := ⟨_, rfl⟩
  rw [hq0] at hho hfa hob
  simp only [hq0] at hmk hfl hri
  have hq0b : ls.length = os.length := hll
  have hne : ((os.length : Int) != (os.length : Int)) = false := by simp
  have hqe : (q0 != q0) = false := by simp
  have hoz : (os.length : Int) ≤ 9 := by omega
  have hop : (0 : Int) < os.length := by omega
  have HOP := Lib.hid (And.intro hos (And.intro hll hq0))
  have HDR := Lib.hid hdr
  have HMK := Lib.hid hmk
  have HFL := Lib.hid hfl
  have HRI := Lib.hid hri
  have HFA := Lib.hid hfa
  have HHL := Lib.hid hhl
  have HHO := Lib.hid hho
  have HBK := Lib.hid hbk
  have HOB := Lib.hid hob
  clear hdr hmo hnn hok hno hmk hfl hri hfa hhl hho hbk hob hll hpl hfo hrt hpo hq0 hq0b hos
  generalize holL b ls = hs at HMK HFL HRI HFA HHL HHO HOB
  generalize b.A = Az at hw1 HCF HRD HDR HMK HZ1 ⊢
  have hhz : (hs.length : Int) ≤ 8 := by have := HHL.out; omega
  go_enter Try.func8, Try.ntmps8
  go_wp2_with (first
    | (go_at_call 13; refine (HAL.out _).mono ?_; rintro e w2 ⟨rfl, hB2⟩; have hc2 := HCF.out w2 hB2; have H2 := Lib.hid hB2; clear hB2)
    | (go_at_call 36; (with_reducible refine (HRD.out w2 H2.out).mono ?_); rintro e w3 ⟨rfl, hB3⟩; have hc3 := HCF.out w3 (H2.out.trans (hB3.mono H2.out.size)); have H3 := Lib.hid (H2.out.trans (hB3.mono H2.out.size)); clear hB3 hc2)
    | (go_at_call 23
       (with_reducible refine (HDR.out w3 H3.out).mono ?_)
       rintro e w4 ⟨v, rfl, hU, hB4⟩
       obtain ⟨A5, c5, hv5⟩ := own_shape hU
       have hcm := own_capM (by rw [hv5] at hU; exact hU)
       rw [HOP.out.2.1] at hv5
       subst hv5
       have hI5 : Ints w4 w4.heap.size A5 ls := OwnP.ints (c := c5) (by rw [HOP.out.2.1]; exact hU)
       have hc4 := HCF.out w4 (H3.out.trans (hB4.mono H3.out.size))
       have H4 := Lib.hid (And.intro (H3.out.trans (hB4.mono H3.out.size)) (And.intro hI5 hcm))
       clear hU hB4 hI5 hcm hc3)
    | (go_at_call 15
       have hmm := HMK.out A5 c5 H4.out.2.2.2 H4.out.2.2.1 w4 H4.out.1 H4.out.2.1
       rw [HOP.out.2.1] at hmm
       (with_reducible refine hmm.mono ?_)
       rintro e w5 ⟨A7, c7, rfl, hO, hB5⟩
       have H5 := Lib.hid (And.intro (H4.out.1.trans (hB5.mono H4.out.1.size)) (And.intro (Ints.mono (Ints.below H4.out.2.1 hB5) hB5.size) (Vals.own hO)))
       clear hmm hO hB5 hc4))
  obtain ⟨w6, hw6⟩ : ∃ w6, w5.alloc (.cells #[.int .i64 q0, .int .i64 b.e0, .int .i64 b.e1, .int .i64 0, .int .i64 0, .int .i64 b.s0, .int .i64 b.s1, .slice A7 hs.length c7] 28) = w6 := ⟨_, rfl⟩
  have g6 : Grows w5 w6 := by rw [← hw6]; exact grow1 _ _
  have m6 : w6.heap[w5.heap.size]? = some (.cells #[.int .i64 q0, .int .i64 b.e0, .int .i64 b.e1, .int .i64 0, .int .i64 0, .int .i64 b.s0, .int .i64 b.s1, .slice A7 hs.length c7] 28 (0, 0)) := by rw [← hw6]; exact alloc_at0 _ _
  rw [hw6]
  have H6 := Lib.hid (And.intro (H5.out.1.trans (g6.mono H5.out.1.size)) (And.intro m6 (And.intro (Ints.mono (Ints.below H5.out.2.1 g6) g6.size) ((Vals.below H5.out.2.2 g6).mono g6.size))))
  clear g6 m6 hw6
  have hsl : 0 < ls.length := by have := HOP.out; omega
  obtain ⟨S5, o5, hA5, hS5, hc5⟩ := H6.out.2.2.1 hsl
  have hq5 := hc5 0 hsl
  rw [Nat.add_zero, HOP.out.2.2] at hq5
  subst hA5
  have HQ5 := Lib.hid (And.intro hS5 hq5)
  clear hS5 hc5 hq5 hsl
  refine R6.wp_walk (C := fun _ _ W => Below w6.heap.size w6 W) 133 (by kernel_rfl) (by kernel_rfl) rfl (Below.refl _ _).drew ?_
  simp only []
  repeat
    (refine' R6.WalkR.det (fun _ => rfl) (fun D ρ W hK hC => ?_) ?_
     rotate_left
     · have f6 := fun i => cell_of_row W w5.heap.size i _ _ _ ((hC.block _ (lt_of_heap H6.out.2.1)).trans H6.out.2.1)
       have f5 := (hC.cell (p := ⟨S5, o5, none⟩) HQ5.out.1).trans HQ5.out.2
       have hn0 : 0 < os.length := HOP.out.1.1
       have HC := Lib.hid hC
       clear hC hK
       go_simp
       first
         | with_reducible exact ⟨rfl, HC.out⟩
         | (go_at_call 37; (with_reducible refine (HFL.out A7 c7 W (HFA.out A7 c7 W ((Vals.below H6.out.2.2.2 HC.out).mono HC.out.size))).mono ?_); rintro e W1 ⟨rfl, hB1⟩; exact ⟨_, rfl, rfl, HC.out.trans (hB1.mono HC.out.size)⟩)
     simp only [Act.put, List.setIfInBounds_toArray, List.set_cons_succ, List.set_cons_zero])
  refine R6.WalkR.nil (fun D ρ W hD hC => ?_)
  obtain ⟨w7, hw7⟩ : ∃ w7, W = w7 := ⟨_, rfl⟩
  rw [hw7] at hC ⊢
  have H7 := Lib.hid hC
  clear hC hD hw7
  clear D ρ W
  have hF6 := fun (W : World) (hW : Below w6.heap.size w6 W) => And.intro (fun i => cell_of_row W w5.heap.size i _ _ _ ((hW.block _ (lt_of_heap H6.out.2.1)).trans H6.out.2.1)) (HCF.out W (H6.out.1.trans (hW.mono H6.out.1.size)))
  have HF6 := Lib.hid hF6
  obtain ⟨hd7, he7⟩ := HF6.out w7 H7.out
  have hvh : Vals w6 w6.heap.size A7 (hs.flatMap hoc) := H6.out.2.2.2
  have HVH := Lib.hid hvh
  have hbkb := HBK.out
  have hg1 := hbkb.2.2.1.1
  have hn1 := hbkb.2.2.2.1.1
  have hn2 := hbkb.2.2.2.1.2
  clear hF6 hvh hbkb
  go_wp2
  clear hd7 he7
  go_loopg [73] hs.length (fun gg s73 wx => ∃ k : Nat, k + gg = hs.length ∧ s73 = .int .i64 k ∧ Hid (Below w6.heap.size w6 wx))
  case atStart => exact ⟨0, by omega, rfl, H7.out⟩
  case round =>
    obtain ⟨k, hkg, rfl, hBr⟩ := hrel
    cases gk with
    | zero =>
      obtain rfl : k = hs.length := by omega
      obtain ⟨hd8, he8⟩ := HF6.out wr hBr.out
      go_wp2_with (go_at_call 38
                   (with_reducible refine (HRI.out A7 c7 wr (HFA.out A7 c7 wr ((Vals.below HVH.out hBr.out).mono hBr.out.size)) ((Vals.below HZ1.out.2.1 ((H6.out.1.trans (hBr.out.mono H6.out.1.size)).mono HZ1.out.2.2)).mono (Nat.le_trans HZ1.out.2.2 (Nat.le_trans H6.out.1.size hBr.out.size)))).mono ?_)
                   rintro e w8 ⟨rfl, hB8⟩
                   have H8 := Lib.hid (hBr.out.trans (hB8.mono hBr.out.size))
                   clear hB8)
      go_ret
      exact ⟨rfl, H1.out.trans ((H6.out.1.trans (H8.out.mono H6.out.1.size)).mono H1.out.size)⟩
    | succ gg =>
      have hk : k < hs.length := by omega
      have hkz : (k : Int) < hs.length := by omega
      have hkz7 : (k : Int) ≤ 7 := by omega
      obtain ⟨a, hat, hnr, hla, hnx⟩ := HHO.out k hk
      obtain ⟨c, off, hA, hcB, hcy⟩ := vals_elem hoc_len HVH.out (by decide) hk
      rw [hat] at hcy
      have hyc := fun j v hv => ((hBr.out.cell (p := ⟨c, off + k * 3 + j, none⟩) hcB).trans (hcy j v hv))
      have hnc : ∀ h1 : k + 1 < hs.length, ∀ W, Below w6.heap.size w6 W → W.cell? ⟨c, off + (k + 1) * 3, none⟩ = some (.int .i64 hs[k + 1].a) := fun h1 W hW => by
        obtain ⟨c', off', hA', hcB', hcy'⟩ := vals_elem hoc_len HVH.out (by decide) h1
        rw [hA] at hA'
        simp only [Option.some.injEq, Addr.mk.injEq, and_true] at hA'
        obtain ⟨rfl, rfl⟩ := hA'
        exact (hW.cell (p := ⟨c, off + (k + 1) * 3, none⟩) hcB').trans (by have := hcy' 0 _ rfl; rw [Nat.add_zero] at this; exact this)
      have hab := HOB.out.2 _ (List.getElem_mem hk)
      rw [hat] at hab
      have hab1 : 50 ≤ a := hab.1
      have hab2 : a ≤ 20000 := hab.2
      have hqb1 := HOB.out.1.1
      have hqb2 := HOB.out.1.2
      subst hA
      have HY := Lib.hid hyc
      have HNR := Lib.hid (And.intro hnr (And.intro hla hnx))
      have HNC := Lib.hid hnc
      have HAT := Lib.hid hat
      clear hat hnr hla hnx hcy hyc hnc hab hcB
      obtain ⟨hd8, he8⟩ := HF6.out wr hBr.out
      have hz10 := HBK.out.2.2.2.2.1
      have hz10z : (b.zs.length : Int) ≤ 10 := by omega
      have hlw5 : w5.heap.size < wr.heap.size := Nat.lt_of_lt_of_le (lt_of_heap H6.out.2.1) hBr.out.size
      have hlw : w.heap.size < wr.heap.size := by have := H5.out.1.size; have := HLW.out; omega
      go_wp2_with (show wpList _ _ _ (Oper.mk (some 77) _ _ _ _ _ :: _) _ _
                   refine wpList_load_at 38 (.tmp 76) rfl rfl (by simp [Act.eval]) [.int .i64 a, .int .i64 b.f0, .int .i64 b.f1] HY.out rowHole ?_)
      obtain ⟨w8, hw8⟩ : ∃ w8, wr.alloc (.cells #[.int .i64 a, .int .i64 b.f0, .int .i64 b.f1] 38) = w8 := ⟨_, rfl⟩
      have g8 : Grows wr w8 := by rw [← hw8]; exact grow1 _ _
      have m8 : w8.heap[wr.heap.size]? = some (.cells #[.int .i64 a, .int .i64 b.f0, .int .i64 b.f1] 38 (0, 0)) := by rw [← hw8]; exact alloc_at0 _ _
      rw [hw8]
      have H8 := Lib.hid (And.intro (hBr.out.trans (g8.mono hBr.out.size)) m8)
      clear g8 m8 hw8 hd8 he8
      obtain ⟨hd9, he9⟩ := HF6.out w8 H8.out.1
      have hf9 := fun i => cell_of_row w8 wr.heap.size i _ _ _ H8.out.2
      obtain ⟨wo, rfl⟩ : ∃ wo : World, wo = wr := ⟨_, rfl⟩
      go_loopg [81] b.zs.length (fun gh s81 wz => ∃ j : Nat, j + gh = b.zs.length ∧ s81 = .int .i64 j ∧ wz = w8)
      case atStart => exact ⟨0, by omega, rfl, rfl⟩
      case round =>
        obtain ⟨j, hjg, rfl, rfl⟩ := hrel
        have hk1 : ((k : Int) + 1).toNat = k + 1 := by omega
        have hk2 : (0 : Int) ≤ (k : Int) + 1 := by omega
        by_cases hend : j = b.zs.length
        · subst hend
          by_cases h1 : k + 1 < hs.length
          · have hd1 : decide ((k : Int) + 1 < hs.length) = true := decide_eq_true (by omega)
            have hd2 : (k : Int) + 1 < hs.length := by omega
            have hnc := HNC.out h1 wr H8.out.1
            have hgp := HNR.out.2.2 h1
            have hnb := HOB.out.2 _ (List.getElem_mem h1)
            generalize hs[k + 1].a = nh at hnc hgp hnb
            have hnb1 := hnb.1
            have hnb2 := hnb.2
            have hdg : decide (nh - a < b.gap) = false := decide_eq_false (by omega)
            clear hgp hnb h1
            go_wp2
            go_roundg gg
            case measure => omega
            case rel => exact ⟨k + 1, by omega, by go_num, H8.out.1⟩
          · have hd1 : decide ((k : Int) + 1 < hs.length) = false := decide_eq_false (by omega)
            have hgp := HNR.out.2.1 (by omega)
            have hdg : decide (q0 - a < b.gap) = false := decide_eq_false (by omega)
            clear hgp h1
            go_wp2
            go_roundg gg
            case measure => omega
            case rel => exact ⟨k + 1, by omega, by go_num, H8.out.1⟩
        · have hj : j < b.zs.length := by omega
          have hjz : (j : Int) < b.zs.length := by omega
          obtain ⟨Sz, oz, hAz, hSz, hcz⟩ := HZ1.out.1 (by omega)
          have hzc := (Below.cell (H6.out.1.trans (H8.out.1.mono H6.out.1.size)) (p := ⟨Sz, oz + j, none⟩) (Nat.lt_of_lt_of_le hSz HZ1.out.2.2)).trans (hcz j hj)
          have hzb := HBK.out.2.2.2.2.2 j
          have hnr := HNR.out.1
          unfold nearB at hnr
          rw [List.any_eq_false] at hnr
          have hnz := hnr _ (List.getElem_mem hj)
          have hze : b.zs[j] = b.zs[j]?.getD 0 := by simp [hj]
          rw [hze] at hnz
          generalize b.zs[j]?.getD 0 = z at hzc hzb hnz
          have hzb1 := hzb.1
          have hzb2 := hzb.2
          have hdm : decide (max (a - z) (-(a - z)) < b.near) = false := by simpa using hnz
          subst hAz
          clear hcz hzb hnr hnz hze hend
          go_wp2
          go_roundg (gk - 1)
          case measure => omega
          case rel => exact ⟨j + 1, by omega, by go_num, rfl⟩

end Go.Proofs.Ytjjipkgconmfcaa

namespace Go.Proofs.Ytjjipkgconmfcaa
open Go.RowKit Go.Maps

attribute [local go_sem] gives

set_option maxRecDepth 100000 in
set_option maxHeartbeats 4000000 in
theorem fluteMade_law (b : Bk) (A1 : Option Addr) (cap1 : Nat) (os : List (Int × Int)) (hlm : os.length ≤ maxLen) (B : Nat) (w : World) (hB : B ≤ w.heap.size) (hz : BkAt w B b) (ho : Vals w B A1 (pairs os)) :
    Calls Try.prog 8 #[.agg (bkc b).toArray, .slice A1 os.length cap1] w fun e w' => e = .returned (.bool true) ∧ Below w.heap.size w w' := by
  cases hgt : greatF fu0 b os.length
  · have hs : b.zs.length ≤ 20 ∧ os.length ≤ 15 := by
      simp only [greatF, Bool.or_eq_false_iff, decide_eq_false_iff_not] at hgt
      omega
    exact fluteMade_some b (by omega) A1 cap1 os (by omega) B w hB hz ho
  clear hz hB ho
  obtain ⟨w1, hw1⟩ : ∃ w1, w.alloc (.cells (bkc b).toArray 34) = w1 := ⟨_, rfl⟩
  have hb1 : Below w.heap.size w w1 := by rw [← hw1]; exact grow1 _ _
  have m0 : w1.heap[w.heap.size]? = some (.cells (bkc b).toArray 34 (0, 0)) := by rw [← hw1]; exact alloc_at0 _ _
  have HAL := Lib.hid (fun W => alive_any W)
  have HRD := Lib.hid (fun W => drilling_big b A1 cap1 os hgt W hlm)
  have hcf := fun (W : World) (hW : Below w1.heap.size w1 W) i => cell_of_row W w.heap.size i _ _ _ ((hW.block _ (lt_of_heap m0)).trans m0)
  have H1 := Lib.hid hb1
  clear hb1 m0 hgt
  unfold bkc at hw1 hcf HRD ⊢
  have HCF := Lib.hid hcf
  clear hcf
  go_enter Try.func8, Try.ntmps8
  go_wp2_with (first
    | (go_at_call 13; refine (HAL.out _).mono ?_; rintro e w2 ⟨rfl, hB2⟩; have hc2 := HCF.out w2 hB2; have H2 := Lib.hid hB2; clear hB2)
    | (go_at_call 36; (with_reducible refine (HRD.out w2).mono ?_); rintro e w3 ⟨rfl, hB3⟩; have H3 := Lib.hid (H2.out.trans (hB3.mono H2.out.size)); clear hB3))
  go_ret
  exact ⟨rfl, H1.out.trans (H3.out.mono H1.out.size)⟩

end Go.Proofs.Ytjjipkgconmfcaa

namespace Go.Proofs.Ytjjipkgconmfcaa
open Go.ChangeShapes Go.WideShapes Go.ChangeAt Go.RowKit Go.Deep

section
variable {H : Type} {enc : TypeId × Value → H} {w : World} {base : Nat} {spare : Nat → Bool} {held : Bool}
set_option maxRecDepth 100000 in
theorem open_blank {r : Reach} {b0 : Nat} {v : Value} {d : DataW H} {p : List MemPlace} (hv : Value.okWide Try.prog w r b0 34 v) (h : DataW.Trod enc Try.prog w base spare held 34 v d p) :
    ∃ f : Bk, v = .agg (bkc f).toArray ∧ f.zs.length ≤ maxLen ∧ BkAt w w.heap.size f := by
  obtain ⟨cs, rfl, hsz⟩ := okWide_struct Try.underlying34 hv
  obtain ⟨l⟩ := cs
  match l, hsz.trans cellsBlank with
  | [c0, c1, c2, c3, c4, c5, c6, c7, c8, c9], _ =>
    obtain ⟨fuel, h⟩ := h
    obtain ⟨xs, n, _, _, _, hlen, hg⟩ := DataW.trod_struct Try.underlying34 h
    have hln : xs.length = 7 := hlen
    have at_ : ∀ i, i < xs.length → ∃ y, xs[i]? = some y := fun i hi => ⟨_, List.getElem?_eq_getElem hi⟩
    obtain ⟨y0, hy0⟩ := at_ 0 (by omega)
    have g0 : DataW.trod enc Try.prog w base spare held n 3 ((List.drop 0 [c0, c1, c2, c3, c4, c5, c6, c7, c8, c9]).take (Try.prog.cellsOf 3)) = some y0 := (hg 0 _ rfl).trans hy0
    obtain ⟨y1, hy1⟩ := at_ 1 (by omega)
    have g1 : DataW.trod enc Try.prog w base spare held n 25 ((List.drop 1 [c0, c1, c2, c3, c4, c5, c6, c7, c8, c9]).take (Try.prog.cellsOf 25)) = some y1 := (hg 1 _ rfl).trans hy1
    obtain ⟨y2, hy2⟩ := at_ 2 (by omega)
    have g2 : DataW.trod enc Try.prog w base spare held n 25 ((List.drop 3 [c0, c1, c2, c3, c4, c5, c6, c7, c8, c9]).take (Try.prog.cellsOf 25)) = some y2 := (hg 2 _ rfl).trans hy2
    obtain ⟨y3, hy3⟩ := at_ 3 (by omega)
    have g3 : DataW.trod enc Try.prog w base spare held n 25 ((List.drop 5 [c0, c1, c2, c3, c4, c5, c6, c7, c8, c9]).take (Try.prog.cellsOf 25)) = some y3 := (hg 3 _ rfl).trans hy3
    obtain ⟨y4, hy4⟩ := at_ 4 (by omega)
    have g4 : DataW.trod enc Try.prog w base spare held n 3 ((List.drop 7 [c0, c1, c2, c3, c4, c5, c6, c7, c8, c9]).take (Try.prog.cellsOf 3)) = some y4 := (hg 4 _ rfl).trans hy4
    obtain ⟨y5, hy5⟩ := at_ 5 (by omega)
    have g5 : DataW.trod enc Try.prog w base spare held n 3 ((List.drop 8 [c0, c1, c2, c3, c4, c5, c6, c7, c8, c9]).take (Try.prog.cellsOf 3)) = some y5 := (hg 5 _ rfl).trans hy5
    obtain ⟨y6, hy6⟩ := at_ 6 (by omega)
    have g6 : DataW.trod enc Try.prog w base spare held n 32 ((List.drop 9 [c0, c1, c2, c3, c4, c5, c6, c7, c8, c9]).take (Try.prog.cellsOf 32)) = some y6 := (hg 6 _ rfl).trans hy6
    simp only [cellsI, cellsSp, cellsSl, cellsHoles, List.drop_zero, List.drop_succ_cons, List.take_succ_cons, List.take_zero] at g0 g1 g2 g3 g4 g5 g6
    obtain ⟨a, rfl⟩ := open_int_raw g0
    obtain ⟨e0, e1, rfl, rfl⟩ := open_span_raw g1
    obtain ⟨f0, f1, rfl, rfl⟩ := open_span_raw g2
    obtain ⟨s0, s1, rfl, rfl⟩ := open_span_raw g3
    obtain ⟨g, rfl⟩ := open_int_raw g4
    obtain ⟨n, rfl⟩ := open_int_raw g5
    obtain ⟨A, zs, cp, e, _, hm, hI⟩ := open_ints_raw g6
    subst e
    exact ⟨⟨a, e0, e1, f0, f1, s0, s1, g, n, A, cp, zs⟩, rfl, hm, hI⟩

end

end Go.Proofs.Ytjjipkgconmfcaa
