/-
  Plain facts for GradeTraced: takes of a year have shots that differ; sums of what was cut; counts of poles.
-/
import Derived.Test.YtpnnlmaipcjkmaaGreatQV26
import Derived.Test.YtpnnlmaipcjkmaaGreatQV12
import Derived.Test.YtpnnlmaipcjkmaaGreatQV41
set_option linter.all false
namespace Go.Proofs.YtpnnlmaipcjkmaaGreat
open Go.RowKit

structure TkOk (ts : List (Int × Int)) : Prop where
  pos : ∀ s ∈ ts, 0 < s.2 ∧ s.2 ≤ 30
  ne : ts.Pairwise fun a b => a.1 ≠ b.1
theorem takesTo_ok (y : Int) (gone : List Int) (hb : Bnd 0 30 gone) : ∀ k, k ≤ gone.length → TkOk (takesTo y gone k) ∧ ∀ s ∈ takesTo y gone k, s.1 + ((gone.length : Int) - k) ≤ y
  | 0, _ => ⟨⟨fun s hs => by simp [takesTo] at hs, by simp [takesTo]⟩, fun s hs => by simp [takesTo] at hs⟩
  | k + 1, hk => by
    obtain ⟨⟨h1, h2⟩, h3⟩ := takesTo_ok y gone hb k (by omega)
    have hx := hb (gone.length - 1 - k) (by omega)
    simp only [takesTo]
    generalize gone[gone.length - 1 - k]?.getD 0 = x at hx
    by_cases h0 : 0 < x
    · rw [if_pos h0]
      refine ⟨⟨fun s hs => ?_, ?_⟩, fun s hs => ?_⟩
      · rcases List.mem_append.1 hs with hs | hs
        · exact h1 s hs
        · rw [List.mem_singleton.1 hs]
          exact ⟨h0, hx.2⟩
      · rw [List.pairwise_append]
        refine ⟨h2, by simp, fun a ha b hb' => ?_⟩
        have := h3 a ha
        rw [List.mem_singleton.1 hb']
        simp only
        omega
      · rcases List.mem_append.1 hs with hs | hs
        · have := h3 s hs
          omega
        · rw [List.mem_singleton.1 hs]
          simp only
          omega
    · rw [if_neg h0, List.append_nil]
      exact ⟨⟨h1, h2⟩, fun s hs => by have := h3 s hs; omega⟩
theorem takenVal_ok (g : Gr) (y : Int) : TkOk (takenVal g y) := by
  unfold takenVal
  split
  · rename_i h
    obtain ⟨d, r, R⟩ := okGrove_runs h.1
    have hy := h.2
    simp only [hasY, inR_iff] at hy
    have hm : (y - g.first).toNat ≤ g.seas.length := by omega
    exact (takesTo_ok y _ (goneAt_bnd R _ hm) _ (by rw [goneAt_len]; exact Nat.le_refl _)).1
  · exact ⟨fun s hs => by simp at hs, by simp⟩

def sumT (sh : Int) (ts : List (Int × Int)) : Int := (ts.map fun s => if s.1 = sh then s.2 else 0).sum
theorem sumT_take (sh : Int) (ts : List (Int × Int)) (j : Nat) (hj : j < ts.length) : sumT sh (ts.take (j + 1)) = sumT sh (ts.take j) + (if ts[j].1 = sh then ts[j].2 else 0) := by
  unfold sumT
  rw [List.take_add_one, List.getElem?_eq_getElem hj, List.map_append, List.sum_append]
  simp
theorem sumT_none {sh : Int} : ∀ {ts : List (Int × Int)}, (∀ s ∈ ts, s.1 ≠ sh) → sumT sh ts = 0
  | [], _ => rfl
  | s :: ts, h => by
    have e : sumT sh (s :: ts) = (if s.1 = sh then s.2 else 0) + sumT sh ts := by simp [sumT]
    rw [e, if_neg (h s List.mem_cons_self), sumT_none fun x hx => h x (List.mem_cons_of_mem _ hx)]
    rfl
theorem sumT_fnd (o : Og) : ∀ {ts : List (Int × Int)}, TkOk ts → sumT o.shot ts = (fndK (cuK o) ts).2
  | [], _ => rfl
  | s :: ts, h => by
    have e : sumT o.shot (s :: ts) = (if s.1 = o.shot then s.2 else 0) + sumT o.shot ts := by simp [sumT]
    obtain ⟨hn, hp⟩ := List.pairwise_cons.1 h.ne
    rw [e]
    unfold fndK
    rw [List.find?_cons]
    by_cases hs : s.1 = o.shot
    · have hc : cuK o s = true := by simp [cuK, hs]
      rw [if_pos hs, hc, sumT_none fun x hx => by rw [← hs]; exact fun e => hn x hx e.symm]
      simp
    · have hc : cuK o s = false := by simp [cuK, hs]
      rw [if_neg hs, hc, sumT_fnd o ⟨fun x hx => h.pos x (List.mem_cons_of_mem _ hx), hp⟩, Int.zero_add]
      rfl
theorem sumT_bnd (sh : Int) {ts : List (Int × Int)} (h : TkOk ts) : 0 ≤ sumT sh ts ∧ sumT sh ts ≤ 30 := by
  have h1 := sumT_fnd ⟨0, 0, sh⟩ h
  simp only at h1
  rw [h1]
  unfold fndK
  cases hf : ts.find? (cuK ⟨0, 0, sh⟩) with
  | none => simp [tk0]
  | some s => exact ⟨Int.le_of_lt (h.pos s (List.mem_of_find?_eq_some hf)).1, (h.pos s (List.mem_of_find?_eq_some hf)).2⟩
theorem TkOk.take {ts : List (Int × Int)} (h : TkOk ts) (j : Nat) : TkOk (ts.take j) := ⟨fun s hs => h.pos s (List.mem_of_mem_take hs), h.ne.sublist (List.take_sublist _ _)⟩
def kOf (o : Og) (x : Gv) : Int := if cuG o x = true then sumT o.shot (takenVal x.g o.cut) else 0
def sumG (o : Og) (l : List Gv) : Int := (l.map (kOf o)).sum
theorem kOf_bnd (o : Og) (x : Gv) : 0 ≤ kOf o x ∧ kOf o x ≤ 30 := by
  unfold kOf
  split
  · exact sumT_bnd _ (takenVal_ok _ _)
  · omega
theorem sumG_take (o : Og) (l : List Gv) (k : Nat) (hk : k < l.length) : sumG o (l.take (k + 1)) = sumG o (l.take k) + kOf o l[k] := by
  unfold sumG
  rw [List.take_add_one, List.getElem?_eq_getElem hk, List.map_append, List.sum_append]
  simp
theorem sumG_bnd (o : Og) : ∀ l : List Gv, 0 ≤ sumG o l ∧ sumG o l ≤ 30 * l.length
  | [] => by simp [sumG]
  | x :: l => by
    have h1 := sumG_bnd o l
    have h2 := kOf_bnd o x
    have e : sumG o (x :: l) = kOf o x + sumG o l := by simp [sumG]
    rw [e, List.length_cons]
    omega
theorem sumG_zero (o : Og) : ∀ (l : List Gv) (n : Int), byIdL gvId okGv l n = true → o.clone < n → sumG o l = 0
  | [], _, _, _ => rfl
  | x :: l, n, h, hn => by
    simp only [byIdL, Bool.and_eq_true, inR_iff] at h
    have hc : cuG o x = false := by simp only [cuG, decide_eq_false_iff_not]; omega
    have e : sumG o (x :: l) = kOf o x + sumG o l := by simp [sumG]
    rw [e, sumG_zero o l _ h.2.2 (by omega)]
    simp [kOf, hc]
theorem sumG_eq (o : Og) : ∀ (l : List Gv) (n : Int), byIdL gvId okGv l n = true → sumG o l = culmsL l o
  | [], _, _ => rfl
  | x :: l, n, h => by
    simp only [byIdL, Bool.and_eq_true, inR_iff] at h
    have e : sumG o (x :: l) = kOf o x + sumG o l := by simp [sumG]
    rw [e]
    cases hc : cuG o x
    · have e2 : culmsL (x :: l) o = culmsL l o := by simp only [culmsL, List.find?_cons, hc]
      rw [e2, sumG_eq o l _ h.2.2]
      simp [kOf, hc]
    · have e2 : culmsL (x :: l) o = if standErr x.g o.cut = 0 then (fndK (cuK o) (takenVal x.g o.cut)).2 else 0 := by simp only [culmsL, List.find?_cons, hc]
      have hz : sumG o l = 0 := sumG_zero o l _ h.2.2 (by simp only [cuG, decide_eq_true_eq] at hc; omega)
      rw [e2, hz, kOf, if_pos hc, Int.add_zero]
      by_cases hs : standErr x.g o.cut = 0
      · rw [if_pos hs]
        exact sumT_fnd o (takenVal_ok _ _)
      · rw [if_neg hs, taken_err hs]
        rfl
theorem byId_ge {x : Gv} : ∀ (l : List Gv) (n : Int), byIdL gvId okGv l n = true → x ∈ l → n ≤ gvId x
  | [], _, _, hx => by cases hx
  | z :: l, n, h, hx => by
    simp only [byIdL, Bool.and_eq_true, inR_iff] at h
    rcases List.mem_cons.1 hx with rfl | hx
    · exact h.1.1
    · have := byId_ge l _ h.2.2 hx
      omega
theorem sumG_at {x : Gv} (y sh : Int) : ∀ (l : List Gv) (n : Int), byIdL gvId okGv l n = true → x ∈ l → sumG ⟨gvId x, y, sh⟩ l = sumT sh (takenVal x.g y)
  | [], _, _, hx => by cases hx
  | z :: l, n, h, hx => by
    simp only [byIdL, Bool.and_eq_true, inR_iff] at h
    have e : sumG ⟨gvId x, y, sh⟩ (z :: l) = kOf ⟨gvId x, y, sh⟩ z + sumG ⟨gvId x, y, sh⟩ l := by simp [sumG]
    rw [e]
    rcases List.mem_cons.1 hx with rfl | hx
    · rw [sumG_zero _ l _ h.2.2 (by simp only; omega)]
      simp [kOf, cuG]
    · have h9 := byId_ge l _ h.2.2 hx
      rw [sumG_at y sh l _ h.2.2 hx]
      have hc : cuG ⟨gvId x, y, sh⟩ z = false := by simp only [cuG, decide_eq_false_iff_not]; omega
      simp [kOf, hc]
theorem sumT_at {s : Int × Int} : ∀ (ts : List (Int × Int)), TkOk ts → s ∈ ts → sumT s.1 ts = s.2
  | [], _, hs => by cases hs
  | t :: ts, hk, hs => by
    have e : sumT s.1 (t :: ts) = (if t.1 = s.1 then t.2 else 0) + sumT s.1 ts := by simp [sumT]
    obtain ⟨hn, hp⟩ := List.pairwise_cons.1 hk.ne
    rw [e]
    rcases List.mem_cons.1 hs with rfl | hs
    · rw [if_pos rfl, sumT_none fun z hz e => hn z hz e.symm, Int.add_zero]
    · rw [if_neg (hn s hs), sumT_at ts ⟨fun z hz => hk.pos z (List.mem_cons_of_mem _ hz), hp⟩ hs, Int.zero_add]
theorem culms_at {l : List Gv} {n : Int} (h : byIdL gvId okGv l n = true) {x : Gv} (hx : x ∈ l) {y : Int} {s : Int × Int} (hs : s ∈ takenVal x.g y) : culmsL l ⟨gvId x, y, s.1⟩ = s.2 ∧ 0 < s.2 := by
  have hk := takenVal_ok x.g y
  refine ⟨?_, (hk.pos s hs).1⟩
  rw [← sumG_eq _ l n h, sumG_at y s.1 l n h hx]
  exact sumT_at _ hk hs

def knO (l : List Gv) (ps : List Pol) (o : Og) : Int := if culmsL l o = 0 then 0 else if culmsL l o < (cntO ps o : Int) then 1 else 2
theorem knO_eq (l : List Gv) (ps : List Pol) (p : Pol) : knT l ps p = knO l ps (orgP p) := rfl
theorem cntO_step5 (ps : List Pol) (o : Og) (j : Nat) (hj : j < ps.length) : cntO (ps.take (j + 1)) o = cntO (ps.take j) o + (if ogEq (orgP ps[j]) o = true then 1 else 0) := by
  unfold cntO
  rw [List.take_add_one, List.getElem?_eq_getElem hj, List.filter_append, List.length_append]
  cases h : ogEq (orgP ps[j]) o <;> simp [h]
theorem cntO_take_le (ps : List Pol) (o : Og) (k : Nat) : cntO (ps.take k) o ≤ cntO ps o := by
  unfold cntO
  exact ((List.take_sublist k ps).filter _).length_le
def sureF (l : List Gv) (ps : List Pol) (k : Nat) : Og → Int := fun o => if knO l ps o = 2 then (cntO (ps.take k) o : Int) else 0
theorem sureF_zero (l : List Gv) (ps : List Pol) : sureF l ps 0 = fun _ => 0 := by
  funext o
  simp [sureF, cntO]
theorem sureF_yes (l : List Gv) (ps : List Pol) (k : Nat) (hk : k < ps.length) (h2 : knO l ps (orgP ps[k]) = 2) : sureF l ps (k + 1) = updO (sureF l ps k) (orgP ps[k]) (sureF l ps k (orgP ps[k]) + 1) := by
  funext q
  unfold updO
  by_cases e : ogEq q (orgP ps[k]) = true
  · rw [if_pos e]
    have hq := ogEq_iff.1 e
    subst hq
    simp only [sureF, if_pos h2]
    rw [cntO_step5 ps _ k hk, if_pos (ogEq_iff.2 rfl)]
    rfl
  · rw [if_neg e]
    simp only [sureF]
    rw [cntO_step5 ps _ k hk, if_neg (fun h => e (ogEq_iff.2 (ogEq_iff.1 h).symm))]
    rfl
theorem sureF_no (l : List Gv) (ps : List Pol) (k : Nat) (hk : k < ps.length) (h2 : knO l ps (orgP ps[k]) ≠ 2) : sureF l ps (k + 1) = sureF l ps k := by
  funext q
  simp only [sureF]
  by_cases e : knO l ps q = 2
  · rw [if_pos e, if_pos e, cntO_step5 ps _ k hk, if_neg (fun h => h2 (by rw [ogEq_iff.1 h]; exact e))]
    rfl
  · rw [if_neg e, if_neg e]
theorem sureF_le (l : List Gv) (ps : List Pol) (k : Nat) (o : Og) (h0 : 0 ≤ culmsL l o) : sureF l ps k o ≤ culmsL l o ∧ 0 ≤ sureF l ps k o ∧ sureF l ps k o ≤ ps.length := by
  simp only [sureF]
  have h1 := cntO_take_le ps o k
  have h3 := cntO_le ps o
  split
  · rename_i h
    unfold knO at h
    split at h
    · cases h
    · split at h
      · cases h
      · omega
  · omega
theorem knO_zero (l : List Gv) (ps : List Pol) (o : Og) : (knO l ps o = 0) ↔ (culmsL l o = 0) := by
  unfold knO
  by_cases h : culmsL l o = 0
  · simp [h]
  · rw [if_neg h]
    split <;> simp [h]

structure InvW (id y : Int) (ts : List (Int × Int)) (i r : Nat) (W : List Pol) : Prop where
  len : W.length ≤ 12
  of : ∀ q ∈ W, q.clone = id ∧ q.cut = y ∧ ∃ s ∈ ts, q.shot = s.1
  cnt : ∀ j (hj : j < ts.length), (cntO W ⟨id, y, ts[j].1⟩ : Int) ≤ if j < i then ts[j].2 else if j = i then r else 0
theorem InvW.start (id y : Int) (ts : List (Int × Int)) : InvW id y ts 0 0 [] := ⟨by simp, fun q hq => (by cases hq), fun j hj => (by simp [cntO])⟩
theorem InvW.done {id y : Int} {ts : List (Int × Int)} {i r : Nat} {W : List Pol} (h : InvW id y ts i r W) (hi : i < ts.length) (hr : (r : Int) ≤ ts[i].2) : InvW id y ts (i + 1) 0 W :=
  ⟨h.len, h.of, fun j hj => by
    have := h.cnt j hj
    by_cases h1 : j < i
    · rw [if_pos h1] at this
      rw [if_pos (by omega)]
      exact this
    · rw [if_neg h1] at this
      by_cases h2 : j = i
      · subst h2
        rw [if_pos rfl] at this
        rw [if_pos (by omega)]
        omega
      · rw [if_neg h2] at this
        rw [if_neg (by omega)]
        split <;> omega⟩
theorem InvW.next {id y : Int} {ts : List (Int × Int)} {i r : Nat} {W : List Pol} (h : InvW id y ts i r W) : InvW id y ts i (r + 1) W :=
  ⟨h.len, h.of, fun j hj => by
    have := h.cnt j hj
    by_cases h1 : j < i
    · rw [if_pos h1] at this ⊢; exact this
    · rw [if_neg h1] at this ⊢
      split at this <;> rename_i h2
      · rw [if_pos h2]; omega
      · rw [if_neg h2]; exact this⟩
theorem InvW.more {id y : Int} {ts : List (Int × Int)} {i r : Nat} {W : List Pol} (h : InvW id y ts i r W) (hk : TkOk ts) (hi : i < ts.length) (hl : W.length < 12) {q : Pol} (h1 : q.clone = id) (h2 : q.cut = y) (h3 : q.shot = ts[i].1) : InvW id y ts i (r + 1) (W ++ [q]) := by
  refine ⟨by simp; omega, fun p hp => ?_, fun j hj => ?_⟩
  · rcases List.mem_append.1 hp with hp | hp
    · exact h.of p hp
    · rw [List.mem_singleton.1 hp]
      exact ⟨h1, h2, ts[i], List.getElem_mem hi, h3⟩
  · have hc := h.cnt j hj
    have e : cntO (W ++ [q]) ⟨id, y, ts[j].1⟩ = cntO W ⟨id, y, ts[j].1⟩ + (if ogEq (orgP q) ⟨id, y, ts[j].1⟩ = true then 1 else 0) := by
      unfold cntO
      rw [List.filter_append, List.length_append]
      cases hh : ogEq (orgP q) ⟨id, y, ts[j].1⟩ <;> simp [hh]
    rw [e]
    by_cases hji : j = i
    · subst hji
      rw [if_neg (Nat.lt_irrefl _), if_pos rfl] at hc ⊢
      split <;> omega
    · have hne : ts[i].1 ≠ ts[j].1 := by
        rcases Nat.lt_or_gt_of_ne hji with hlt | hlt
        · exact fun e => List.pairwise_iff_getElem.1 hk.ne j i hj hi hlt e.symm
        · exact List.pairwise_iff_getElem.1 hk.ne i j hi hj hlt
      have hf : ¬ ogEq (orgP q) ⟨id, y, ts[j].1⟩ = true := by
        intro hh
        have := ogEq_iff.1 hh
        simp only [orgP, Og.mk.injEq] at this
        exact hne (h3.symm.trans this.2.2)
      rw [if_neg hf, Nat.add_zero]
      rw [if_neg hji] at hc ⊢
      exact hc
theorem InvW.known {l : List Gv} {n : Int} (hb : byIdL gvId okGv l n = true) {x : Gv} (hx : x ∈ l) {y : Int} {W : List Pol} (h : InvW (gvId x) y (takenVal x.g y) (takenVal x.g y).length 0 W) : ∀ q ∈ W, knT l W q = 2 := by
  intro q hq
  obtain ⟨h1, h2, s, hs, h3⟩ := h.of q hq
  obtain ⟨j, hj, rfl⟩ := List.getElem_of_mem hs
  have hc := culms_at hb hx hs
  have ho : orgP q = ⟨gvId x, y, (takenVal x.g y)[j].1⟩ := by simp [orgP, h1, h2, h3]
  have hn := h.cnt j hj
  rw [if_pos hj] at hn
  rw [knO_eq, knO, ho, hc.1, if_neg (by omega), if_neg (by omega)]

end Go.Proofs.YtpnnlmaipcjkmaaGreat
