/-
  GuF
-/
import Derived.Test.YtddpebnmjfmgdaaGreatQT1
import Derived.Test.YtddpebnmjfmgdaaGreatQT4
set_option linter.all false
namespace Go.Proofs.YtddpebnmjfmgdaaGreat
open Go.RowKit
open R6 (done done_ne done_me upd_ne upd_me)

structure InT (w : World) (b6 : Nat) (ps : List Pol) (R : List Ts) (m : Nat) (A1 : Option Addr) (c1 : Nat) (A : Option Addr) (c : Nat) (W : World) : Prop where
  bel : Below w.heap.size w W
  o1 : W.ownsRow w.heap.size 56 12 (.slice A1 ps.length c1) ps.length (ps.flatMap pcl)
  o2 : W.ownsRow w.heap.size 58 5 (.slice A m c) m (R.flatMap tcl)
  box : W.heap[b6]? = some (.cells [.slice A1 ps.length c1, .slice A m c].toArray 25 (0, 0))
  le : w.heap.size ≤ b6
section
variable {w W W' : World} {b6 m c1 c g : Nat} {ps : List Pol} {R R' : List Ts} {A1 A : Option Addr}
theorem InT.grows (h : InT w b6 ps R m A1 c1 A c W) (hg : Grows W W') : InT w b6 ps R m A1 c1 A c W' :=
  ⟨h.bel.trans (hg.mono h.bel.size), own_grows h.o1 hg, own_grows h.o2 hg, (hg.block _ (lt_of_heap h.box)).trans h.box, h.le⟩
theorem InT.arr (h : InT w b6 ps R m A1 c1 A c W) (hm : 0 < m) : ∃ (g : Nat) (L : List Value), A = some ⟨g, 0, none⟩ ∧ w.heap.size ≤ g ∧ W.heap[g]? = some (.cells L.toArray 58 (0, 0)) ∧ L.take (m * 5) = R.flatMap tcl ∧ m * 5 ≤ L.length := by
  rcases h.o2.2 with ⟨_, e⟩ | ⟨g, cap, cur, hv, hb, hh, h1, h2, hsz, hcs⟩
  · omega
  · simp only [Value.slice.injEq] at hv
    refine ⟨g, cur.toList, hv.1, hb, by simpa using hh, hcs, ?_⟩
    have : cur.toList.length = cap * 5 := by simpa using hsz
    omega
theorem InT.step (h : InT w b6 ps R m A1 c1 (some ⟨g, 0, none⟩) c W) {L : List Value} (hcur : W.heap[g]? = some (.cells L.toArray 58 (0, 0))) (j : Nat) (v : Value) (h1 : At1 w W g 58 (L.set j v) W') (hR : (R.flatMap tcl).set j v = R'.flatMap tcl) :
    InT w b6 ps R' m A1 c1 (some ⟨g, 0, none⟩) c W' := by
  refine ⟨h1.bel, own_at h.o1 (fun g' hg' => ?_), ?_, (h1.oth _ (lt_of_heap h.box) (fun e => ?_)).trans h.box, h.le⟩
  · obtain ⟨cur', hc', _⟩ := own_bt h.o1 hg'
    refine h1.oth g' (lt_of_heap hc') (fun e => ?_)
    rw [e, hcur] at hc'
    simp at hc'
  · refine ⟨by rw [← hR, List.length_set]; exact h.o2.1, ?_⟩
    rcases h.o2.2 with ⟨e, _⟩ | ⟨g', cap, cur', hv, hb, hh, h2, h3, hsz, hcs⟩
    · cases e
    · have hv' := hv
      simp only [Value.slice.injEq, Option.some.injEq, Addr.mk.injEq, and_true] at hv'
      obtain ⟨⟨rfl, _⟩, _, _⟩ := hv'
      rw [hcur] at hh
      simp only [Option.some.injEq, Obj.cells.injEq, and_true] at hh
      subst hh
      exact .inr ⟨g, cap, (L.set j v).toArray, hv, hb, h1.own, h2, h3, by simpa using hsz, by rw [List.toList_toArray, List.take_set]; rw [List.toList_toArray] at hcs; rw [hcs, hR]⟩
  · have := h.box
    rw [e, hcur] at this
    simp at this
end
/-- The tests when the first ones have been told anew. -/
def tsH (f : Ts → Ts) (ts : List Ts) (i : Nat) : List Ts := (ts.take i).map f ++ ts.drop i
theorem tsH_zero (f : Ts → Ts) (ts : List Ts) : tsH f ts 0 = ts := by simp [tsH]
theorem tsH_all (f : Ts → Ts) (ts : List Ts) : tsH f ts ts.length = ts.map f := by simp [tsH]
theorem tsH_len (f : Ts → Ts) (ts : List Ts) (i : Nat) : (tsH f ts i).length = ts.length := by simp [tsH]; omega
theorem tsH_at (f : Ts → Ts) (ts : List Ts) {i : Nat} (hi : i < ts.length) : (tsH f ts i)[i]? = some ts[i] := by
  unfold tsH
  rw [List.getElem?_append_right (by simp [Nat.min_eq_left (Nat.le_of_lt hi)])]
  simp [Nat.min_eq_left (Nat.le_of_lt hi), hi]
theorem tsH_step (f : Ts → Ts) (ts : List Ts) {i : Nat} (hi : i < ts.length) : (tsH f ts i).set i (f ts[i]) = tsH f ts (i + 1) := by
  unfold tsH
  have hl : ((ts.take i).map f).length = i := by simp [Nat.min_eq_left (Nat.le_of_lt hi)]
  have hd : ts.drop i = ts[i] :: ts.drop (i + 1) := List.drop_eq_getElem_cons hi
  rw [List.set_append, if_neg (by omega), List.take_add_one, List.getElem?_eq_getElem hi, hl, Nat.sub_self, List.map_append, hd, List.set_cons_zero, List.append_assoc]
  rfl
theorem flat_set (v : Value) : ∀ (R : List Ts) (i : Nat) (t u : Ts), R[i]? = some t → tcl u = (tcl t).set 4 v → (R.flatMap tcl).set (i * 5 + 4) v = (R.set i u).flatMap tcl
  | [], i, _, _, h, _ => by simp at h
  | x :: R, 0, t, u, h, hu => by
    simp only [List.getElem?_cons_zero, Option.some.injEq] at h
    subst h
    simp only [List.set_cons_zero, List.flatMap_cons, hu]
    rw [List.set_append, if_pos (by simp [tcl])]
  | x :: R, i + 1, t, u, h, hu => by
    simp only [List.getElem?_cons_succ] at h
    simp only [List.set_cons_succ, List.flatMap_cons]
    rw [List.set_append, if_neg (by simp [tcl]; omega), ← flat_set v R i t u h hu]
    congr 2
    rw [tcl_len]
    omega

theorem At1D.cell {w0 wq W : World} {b : Nat} {ty : TypeId} {L : List Value} {js : Nat} {v : Value} {ks : Nat} {D : Nat → Bool} (h : At1D w0 wq b ty L (L.set js v) ks D W) {j : Nat} (hne : j ≠ js) : W.cell? ⟨b, j, none⟩ = L[j]? := by
  have h1 := h.own
  rw [cell_of_row W b j _ _ _ h1, List.getElem?_toArray]
  split
  · exact List.getElem?_set_ne (by omega)
  · rfl
/-- What a test of a valid sheet speaks of. -/
theorem tstF {gs : List Gd} {vary : Int} {ps : List Pol} {ts : List Ts} (hc : gChk gs vary ps ts = 0) (b : List Int) {t : Ts} (ht : t ∈ ts) : ∃ (i k : Nat) (hi : i < ps.length), k < 3 ∧ t.sec = (k : Int) ∧ idxL (fun p : Pol => decide (p.id = t.pole)) ps 0 = (i : Int) ∧ (1 ≤ t.force ∧ t.force ≤ 1000000) ∧
    hT gs vary b ps t = ⟨t.id, t.pole, t.sec, t.force, decide (1000 * t.force ≤ stI gs vary b i ps[i] k * ar ps[i] k)⟩ := by
  obtain ⟨h1, h2⟩ := gChk_ok hc
  simp only [okSheet, okTsL, Bool.and_eq_true, decide_eq_true_eq] at h2
  have h3 := ((byIdL_upT _ _ _ h2.2.2).2 t ht).2.2
  simp only [okTs, Bool.and_eq_true, inR_iff] at h3
  obtain ⟨h4, h5, h6⟩ := h3
  obtain ⟨k, hk⟩ := Int.eq_ofNat_of_zero_le h5.1
  rcases at_cases ps t.pole with ⟨h, _⟩ | ⟨i, _, e, hi, ei⟩
  · rw [h] at h4; cases h4
  · refine ⟨i, k, hi, by omega, hk, e, h6, ?_⟩
    unfold hT atN
    rw [e, ← ei, hk, Int.toNat_natCast, Int.toNat_natCast]
theorem stI_bnd {gs : List Gd} {vary : Int} {ps : List Pol} {ts : List Ts} (hc : gChk gs vary ps ts = 0) (b : List Int) {i : Nat} (hi : i < ps.length) {k : Nat} (hk : k < 3) : 0 ≤ stI gs vary b i ps[i] k ∧ stI gs vary b i ps[i] k ≤ 200000 := by
  have hg := grOk_of hc
  by_cases h0 : gOf gs ps[i] = 0
  · unfold stI; rw [if_pos h0]; omega
  · have h1 := (fitS_of hc b).inn i hi k hk h0
    have h2 := st_ends hg.ok h0 hk
    have e : ps[i]?.getD ⟨0, 0, 0, 0, 0, 0, 0, 0, 0, 0, 0, 0⟩ = ps[i] := by simp [hi]
    simp only [e] at h1
    omega

end Go.Proofs.YtddpebnmjfmgdaaGreat
