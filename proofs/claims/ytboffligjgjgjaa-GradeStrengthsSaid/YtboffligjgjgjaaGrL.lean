/-
  Areas; spans that are cut; stresses as three spans: cut, wider, empty.
-/
import Derived.Test.YtboffligjgjgjaaGrK
namespace Go.Proofs.Ytboffligjgjgjaa
open Go.RowKit
open R6 (done done_ne done_me upd_ne upd_me)

attribute [local go_sem] gives

set_option maxRecDepth 100000 in
set_option maxHeartbeats 4000000 in
theorem grArea_any (p : Pol) (k : Nat) (hk : k < 3) (hs : okSecs p = true) (w : World) :
    Calls Try.prog 25 #[.agg (pcl p).toArray, .int .i64 (k : Int)] w fun e w' => e = .returned (.int .i64 (ar p k)) ∧ Below w.heap.size w w' := by
  have ha := ar_pos hs k
  simp only [okSecs, okSec, Bool.and_eq_true, inR_iff, decide_eq_true_eq] at hs
  obtain ⟨⟨a1, a2, a3⟩, ⟨b1, b2, b3⟩, ⟨c1, c2, c3⟩⟩ := hs
  unfold pcl
  unfold ar at ha ⊢
  have h3 : k = 0 ∨ k = 1 ∨ k = 2 := by omega
  rcases h3 with rfl | rfl | rfl
  · simp only [gg, ww, if_true] at ha ⊢
    go_enter Try.func25, Try.ntmps25
    go_wp2
    go_ret
    exact ⟨rfl, grow1 _ _⟩
  · simp only [gg, ww, if_true, Nat.one_ne_zero, if_false] at ha ⊢
    go_enter Try.func25, Try.ntmps25
    go_wp2
    go_ret
    exact ⟨rfl, grow1 _ _⟩
  · simp only [gg, ww, show ¬ (2 : Nat) = 0 by omega, show ¬ (2 : Nat) = 1 by omega, if_false] at ha ⊢
    go_enter Try.func25, Try.ntmps25
    go_wp2
    go_ret
    exact ⟨rfl, grow1 _ _⟩

theorem cutL_step (s : Int × Int) (l : List (Int × Int)) (k : Nat) (hk : k < l.length) : cutL s (l.take (k + 1)) = cut1 (cutL s (l.take k)) l[k] := by
  unfold cutL
  rw [List.take_add_one, List.foldl_append, List.getElem?_eq_getElem hk]
  rfl
theorem sp2_one (s : Int × Int) : ∀ v ∈ sp2 s, v.oneCell' = true := by
  intro v hv
  simp only [sp2, List.mem_cons, List.not_mem_nil, or_false] at hv
  rcases hv with rfl | rfl <;> rfl

set_option maxRecDepth 100000 in
set_option maxHeartbeats 4000000 in
theorem grCut_any (s : Int × Int) (A : Option Addr) (cap : Nat) (l : List (Int × Int)) (B : Nat) (w : World) (hB : B ≤ w.heap.size) (hz : Vals w B A (l.flatMap sp2)) (hl : l.length ≤ 1000000) :
    Calls Try.prog 65 #[.agg (sp2 s).toArray, .slice A l.length cap] w fun e w' => e = .returned (.agg (sp2 (cutL s l)).toArray) ∧ Below w.heap.size w w' := by
  obtain ⟨w1, hw1⟩ : ∃ w1, (w.alloc (.cells (sp2 s).toArray 38)).alloc (.cells #[.int .i64 0, .int .i64 0] 38) = w1 := ⟨_, rfl⟩
  have hb1 : Below w.heap.size w w1 := by rw [← hw1]; exact grow2 _ _ _
  have hm1 : w1.heap[w.heap.size]? = some (.cells (sp2 s).toArray 38 (0, 0)) := by rw [← hw1]; exact alloc2_at0 _ _ _
  have hm2 : w1.heap[w.heap.size + 1]? = some (.cells [Value.int .i64 0, .int .i64 0].toArray 38 (0, 0)) := by rw [← hw1]; exact alloc2_at1 _ _ _
  have HZ := Lib.hid (And.intro hz hB)
  have H1 := Lib.hid (And.intro hb1 (And.intro hm1 hm2))
  clear hz hb1 hm1 hm2
  go_enter Try.func65, Try.ntmps65
  go_wp2
  go_loopg [9] l.length (fun gg s9 wx => ∃ k : Nat, k + gg = l.length ∧ s9 = .int .i64 k ∧ Hid (wx.heap[w.heap.size]? = some (.cells (sp2 (cutL s (l.take k))).toArray 38 (0, 0)) ∧ wx.heap[w.heap.size + 1]? = some (.cells [Value.int .i64 0, .int .i64 0].toArray 38 (0, 0)) ∧ Below w.heap.size w wx))
  case atStart => exact ⟨0, by omega, rfl, H1.out.2.1, H1.out.2.2, H1.out.1⟩
  case round =>
    obtain ⟨k, hkg, rfl, hM⟩ := hrel
    cases gk with
    | zero =>
      have hM' := hM.out
      obtain rfl : k = l.length := by omega
      rw [List.take_length] at hM'
      obtain ⟨z, hze⟩ : ∃ z, z = cutL s l := ⟨_, rfl⟩
      rw [← hze] at hM'
      have HZE := Lib.hid hze
      have HM := Lib.hid hM'
      clear hM' hze
      go_wp2_with (first
        | (show wpList _ _ _ (Oper.mk (some 25) _ _ _ _ _ :: _) _ _
           refine wpList_load_blk 38 (.tmp 2) rfl rfl rfl HM.out.1 (sp2 z) at0 rowSpan5 ?_)
        | (show wpList _ _ _ (Oper.mk none (Op.store _ (Operand.tmp 4) (Operand.tmp 25)) _ _ _ _ :: _) _ _
           refine wpList_store_blk 38 (.tmp 4) (.tmp 25) rfl rfl rfl rfl rfl HM.out.2.1 (Nat.le_of_ble_eq_true rfl) (sp2_one z) rowSpan5 ?_
           intro w3 hP3 hM3
           rw [splice_whole (by rfl)] at hM3
           have H3 := Lib.hid (And.intro (HM.out.2.2.trans (hP3.below (by omega))) hM3)
           clear hP3 hM3))
      refine bodyPost_ret (v := .agg (sp2 z).toArray) (results_cell1 Try.results65 rfl H3.out.2 rowSpan5) rfl ⟨by rw [HZE.out], H3.out.1⟩
    | succ gg =>
      have hk : k < l.length := by omega
      have hkz : (k : Int) < l.length := by omega
      obtain ⟨c, off, hA, hcB, hc⟩ := vals_elem sp2_len HZ.out.1 (by decide) hk
      subst hA
      have hc' : ∀ j v, (sp2 l[k])[j]? = some v → wr.cell? ⟨c, off + k * 2 + j, none⟩ = some v := fun j v hv => (hM.out.2.2.cell (p := ⟨c, off + k * 2 + j, none⟩) (by have := HZ.out.2; simp; omega)).trans (hc j v hv)
      have hst := cutL_step s l k hk
      generalize l[k] = y at hc' hst
      have hM' := hM.out
      generalize cutL s (l.take k) = z at hM' hst
      have HST := Lib.hid hst
      have HCC := Lib.hid hc'
      have HM := Lib.hid hM'
      clear hc hc' hst hM'
      obtain ⟨y1, y2⟩ := y
      obtain ⟨z1, z2⟩ := z
      go_wp2_with (first
        | (show wpList _ _ _ (Oper.mk (some 12) _ _ _ _ _ :: _) _ _
           refine wpList_load_at 38 (.tmp 11) rfl rfl rfl (sp2 (y1, y2)) HCC.out rowSpan5 ?_)
        | (show wpList _ _ _ (Oper.mk none (Op.store _ (Operand.tmp 6) (Operand.tmp 12)) _ _ _ _ :: _) _ _
           refine wpList_store_blk 38 (.tmp 6) (.tmp 12) rfl rfl rfl rfl rfl (alloc_at0 wr _) (Nat.le_of_ble_eq_true rfl) (sp2_one _) rowSpan5 ?_
           intro w5 hP5 hM5
           rw [splice_whole (by rfl)] at hM5
           have hb5 : Below wr.heap.size wr w5 := (grow1 wr _).trans (hP5.below (Nat.le_refl _))
           have hx2 := (hb5.block _ (lt_of_heap HM.out.1)).trans HM.out.1
           have hx4 := (hb5.block _ (lt_of_heap HM.out.2.1)).trans HM.out.2.1
           have f0 : w5.cell? ⟨wr.heap.size, 0, none⟩ = some (.int .i64 y1) := cell_of_row w5 _ 0 _ _ _ hM5
           have f1 : w5.cell? ⟨wr.heap.size, 1, none⟩ = some (.int .i64 y2) := cell_of_row w5 _ 1 _ _ _ hM5
           have f2 : w5.cell? ⟨w.heap.size, 0, none⟩ = some (.int .i64 z1) := cell_of_row w5 _ 0 _ _ _ hx2
           have f3 : w5.cell? ⟨w.heap.size, 1, none⟩ = some (.int .i64 z2) := cell_of_row w5 _ 1 _ _ _ hx2
           have H5 := Lib.hid (And.intro hx2 (And.intro hx4 (HM.out.2.2.trans (hb5.mono HM.out.2.2.size))))
           clear hP5 hM5 hb5 hx2 hx4)
        | (show wpList _ _ _ (Oper.mk none (Op.store _ (Operand.tmp 2) (Operand.tmp 23)) _ _ _ _ :: _) _ _
           refine wpList_store_blk 38 (.tmp 2) (.tmp 23) rfl rfl rfl rfl (cs := sp2 (cut1 (z1, z2) (y1, y2))) rfl H5.out.1 (Nat.le_of_ble_eq_true rfl) (sp2_one _) rowSpan5 ?_
           intro w7 hP7 hM7
           rw [splice_whole (by rfl)] at hM7
           have H7 := Lib.hid (And.intro hM7 (And.intro ((hP7.other _ (by omega)).trans H5.out.2.1) (H5.out.2.2.trans (hP7.below (Nat.le_refl _)))))
           clear hP7 hM7))
      go_roundg gg
      case measure => omega
      case rel => exact ⟨k + 1, by omega, by go_num, by rw [HST.out]; exact H7.out.1, H7.out.2.1, H7.out.2.2⟩

/-! ### Three spans -/
def st6 (f : Nat → Int × Int) : List Value := sp2 (f 0) ++ (sp2 (f 1) ++ sp2 (f 2))
theorem st6_len (f : Nat → Int × Int) : (st6 f).length = 6 := rfl
theorem st6_one (f : Nat → Int × Int) : ∀ v ∈ st6 f, v.oneCell' = true := by
  intro v hv
  simp only [st6, List.mem_append] at hv
  rcases hv with h | h | h
  · exact sp2_one _ v h
  · exact sp2_one _ v h
  · exact sp2_one _ v h
theorem st6_at (f : Nat → Int × Int) {k : Nat} (hk : k < 3) : ∀ j v, (sp2 (f k))[j]? = some v → (st6 f).toArray[k * 2 + j]? = some v := by
  intro j v hv
  have hj : j < 2 := (List.getElem?_eq_some_iff.1 hv).1
  rw [List.getElem?_toArray]
  have h3 : k = 0 ∨ k = 1 ∨ k = 2 := by omega
  have h2 : j = 0 ∨ j = 1 := by omega
  rcases h3 with rfl | rfl | rfl <;> rcases h2 with rfl | rfl <;> exact hv
def updF (f : Nat → Int × Int) (k : Nat) (z : Int × Int) : Nat → Int × Int := fun i => if i = k then z else f i
theorem st6_set (f : Nat → Int × Int) {k : Nat} (hk : k < 3) (z : Int × Int) : splice (st6 f) (k * 2) (sp2 z) = st6 (updF f k z) := by
  have h3 : k = 0 ∨ k = 1 ∨ k = 2 := by omega
  rcases h3 with rfl | rfl | rfl <;> rfl
theorem st6_congr {f g : Nat → Int × Int} (h : ∀ i, i < 3 → f i = g i) : st6 f = st6 g := by unfold st6; rw [h 0 (by omega), h 1 (by omega), h 2 (by omega)]
/-- The first k are new. -/
def mixF (s n : Nat → Int × Int) (k : Nat) : Nat → Int × Int := fun i => if i < k then n i else s i
theorem mixF_zero (s n : Nat → Int × Int) : st6 (mixF s n 0) = st6 s := st6_congr fun i _ => by simp [mixF]
theorem mixF_all (s n : Nat → Int × Int) : st6 (mixF s n 3) = st6 n := st6_congr fun i hi => by simp [mixF, hi]
theorem mixF_at (s n : Nat → Int × Int) (k : Nat) : mixF s n k k = s k := by simp [mixF]
theorem mixF_set (s n : Nat → Int × Int) (k : Nat) : st6 (updF (mixF s n k) k (n k)) = st6 (mixF s n (k + 1)) := st6_congr fun i _ => by
  unfold updF mixF
  by_cases h1 : i = k
  · subst h1; simp
  · by_cases h2 : i < k
    · rw [if_neg h1, if_pos h2, if_pos (by omega)]
    · rw [if_neg h1, if_neg h2, if_neg (by omega)]
theorem rowStress : RowTy Try.prog 70 6 := ⟨⟨_, Try.underlying70, rfl⟩, by kernel_rfl⟩
theorem rowSpans3 : RowTy Try.prog 69 6 := ⟨⟨_, Try.underlying69, rfl⟩, by kernel_rfl⟩

/-- Boxes of two stresses, of which the first one is written at the end; a list of one span. -/
structure BothC (w0 : World) (b2 b3 : Nat) (X Y : List Value) (K : List (Nat × Obj)) (ko ks kt : Nat) (z : Int × Int) (D : Nat → Bool) (σ : Nat → Value) (W : World) : Prop where
  bel : Below w0.heap.size w0 W
  hX : D ks = false → W.heap[b2]? = some (.cells X.toArray 70 (0, 0))
  hY : D ks = true → W.heap[b2]? = some (.cells Y.toArray 70 (0, 0))
  lt : b2 < W.heap.size
  box : keptK K W
  new : D ko = true → ∃ b, b ≠ b2 ∧ σ kt = .slice (some ⟨b, 0, none⟩) 1 1 ∧ W.heap[b]? = some (.cells (sp2 z).toArray 38 (0, 0))
def bothK (ko ks kt k : Nat) (d : Option Nat) : Bool := !(k == ko || k == ks || d == some kt)
section
variable {w0 W W' : World} {b2 b3 : Nat} {X Y : List Value} {K : List (Nat × Obj)} {ko ks kt : Nat} {z : Int × Int} {D : Nat → Bool} {σ : Nat → Value}
theorem BothC.move {k : Nat} {d : Option Nat} {v : Value} (h : BothC w0 b2 b3 X Y K ko ks kt z D σ W) (hk : bothK ko ks kt k d = true) : BothC w0 b2 b3 X Y K ko ks kt z (done D k) (R4.upd σ d v) W := by
  simp only [bothK, Bool.not_eq_true', Bool.or_eq_false_iff, beq_eq_false_iff_ne, ne_eq] at hk
  obtain ⟨⟨h1, h2⟩, h3⟩ := hk
  have e1 := done_ne (D := D) (k := k) (j := ko) (by omega)
  have e2 := done_ne (D := D) (k := k) (j := ks) (by omega)
  have u1 := upd_ne (ρ := σ) (v := v) h3
  exact ⟨h.bel, by rw [e2]; exact h.hX, by rw [e2]; exact h.hY, h.lt, h.box, by rw [e1, u1]; exact h.new⟩
theorem BothC.next (h : BothC w0 b2 b3 X Y K ko ks kt z D σ W) (hg : Grows W W') : BothC w0 b2 b3 X Y K ko ks kt z D σ W' :=
  ⟨h.bel.trans (hg.mono h.bel.size), fun e => (hg.block _ h.lt).trans (h.hX e), fun e => (hg.block _ h.lt).trans (h.hY e), Nat.lt_of_lt_of_le h.lt hg.size, h.box.next hg, fun e => let ⟨b, h0, h1, h2⟩ := h.new e; ⟨b, h0, h1, (hg.block _ (lt_of_heap h2)).trans h2⟩⟩
theorem BothC.made {cs : Array Value} (h : BothC w0 b2 b3 X Y K ko ks kt z D σ W) (hne : (ko == ks) = false) (hc : cs = (sp2 z).toArray) :
    BothC w0 b2 b3 X Y K ko ks kt z (done D ko) (R4.upd σ (some kt) (.slice (some ⟨W.heap.size, 0, none⟩) 1 1)) (W.alloc (.cells cs 38)) := by
  subst hc
  have h' := h.next (grow1 W (.cells (sp2 z).toArray 38))
  have e2 := done_ne (D := D) (k := ko) (j := ks) (by simp at hne; omega)
  exact ⟨h'.bel, by rw [e2]; exact h'.hX, by rw [e2]; exact h'.hY, h'.lt, h'.box, fun _ => ⟨_, by have := h.lt; omega, upd_me, alloc_at0 _ _⟩⟩
end

set_option maxHeartbeats 1000000 in
theorem grNone_any (f : Nat → Int × Int) (w : World) :
    Calls Try.prog 43 #[.agg (st6 f).toArray] w fun e w' => e = .returned (.bool (!(List.range 3).all fun k => decide ((f k).1 ≤ (f k).2))) ∧ Below w.heap.size w w' := by
  obtain ⟨w1, hw1⟩ : ∃ w1, w.alloc (.cells (st6 f).toArray 70) = w1 := ⟨_, rfl⟩
  have hb1 : Below w.heap.size w w1 := by rw [← hw1]; exact grow1 _ _
  have hm1 : w1.heap[w.heap.size]? = some (.cells (st6 f).toArray 70 (0, 0)) := by rw [← hw1]; exact alloc_at0 _ _
  have hv : Vals w1 w1.heap.size (some ⟨w.heap.size, 0, none⟩) ([f 0, f 1, f 2].flatMap sp2) := fun _ => ⟨w.heap.size, 0, rfl, lt_of_heap hm1, fun j u hj => by
    rw [Nat.zero_add, cell_of_row w1 _ j _ _ _ hm1, List.getElem?_toArray]
    exact hj⟩
  have h := grEm_contains (fun s => decide (s.2 < s.1)) (some ⟨w.heap.size, 0, none⟩) 3 [f 0, f 1, f 2] w1.heap.size w1 (Nat.le_refl _) hv (by simp) (fun y W _ _ => grEmpty_any y.1 y.2 W)
  have e : ([f 0, f 1, f 2].any fun s => decide (s.2 < s.1)) = !(List.range 3).all fun k => decide ((f k).1 ≤ (f k).2) := by
    rw [Bool.eq_iff_iff]
    simp [List.range_succ]
  rw [e] at h
  generalize (!(List.range 3).all fun k => decide ((f k).1 ≤ (f k).2)) = v at h
  have H := Lib.hid h
  have HB := Lib.hid hb1
  clear h hv hm1 e hb1
  go_enter Try.func43, Try.ntmps43
  go_wp2_with (go_at_call 66; refine H.out.mono ?_; rintro e w2 ⟨rfl, hB2⟩; have H2 := Lib.hid hB2; clear hB2)
  go_ret
  exact ⟨rfl, HB.out.trans (H2.out.mono HB.out.size)⟩

end Go.Proofs.Ytboffligjgjgjaa
