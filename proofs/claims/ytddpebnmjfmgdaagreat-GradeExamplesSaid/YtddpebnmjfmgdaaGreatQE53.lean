/-
  The chapter's examples in blocks that are known whole, and what they tell.
-/
import Derived.Test.YtddpebnmjfmgdaaGreatQE49
import Derived.Test.YtddpebnmjfmgdaaGreatQE40
import Derived.Test.YtddpebnmjfmgdaaGreatQE52
set_option linter.all false
namespace Go.Proofs.YtddpebnmjfmgdaaGreat
open Go.RowKit
open R6 (done done_ne done_me upd_ne upd_me)

def ShtB (w : World) (e : Ending) (w' : World) : Prop := ∃ b, e = .returned (.agg #[.slice (some ⟨b, 0, none⟩) 3 3, .slice (some ⟨b + 1, 0, none⟩) 2 2]) ∧ w.heap.size ≤ b ∧ w'.heap[b]? = some (.cells (exPs.flatMap pcl).toArray 56 (0, 0)) ∧ w'.heap[b + 1]? = some (.cells (exTs.flatMap tcl).toArray 58 (0, 0)) ∧ Below w.heap.size w w'
def GrdB (w : World) (e : Ending) (w' : World) : Prop := ∃ b, e = .returned (.agg #[.slice (some ⟨b, 0, none⟩) 2 2, .int .i64 5000]) ∧ w.heap.size ≤ b ∧ w'.heap[b]? = some (.cells (exGs.flatMap gcl).toArray 53 (0, 0)) ∧ Below w.heap.size w w'

set_option maxRecDepth 100000 in
set_option maxHeartbeats 4000000 in
theorem exSheetB_any (w : World) : Calls Tryz.prog 23 #[] w (ShtB w) := by
  obtain ⟨w1, hw1⟩ : ∃ w1, w.alloc (.cells #[.slice none 0 0, .slice none 0 0] 25) = w1 := ⟨_, rfl⟩
  have m1 : w1.heap[w.heap.size]? = some (.cells [Value.slice none 0 0, .slice none 0 0].toArray 25 (0, 0)) := by rw [← hw1]; exact alloc_at0 _ _
  have hb1 : Below w.heap.size w w1 := by rw [← hw1]; exact grow1 _ _
  have H1 := Lib.hid (And.intro hb1 m1)
  clear m1 hb1
  unfold ShtB
  have hp := fun (i s : Int) W => exPole_any i s W
  unfold pcl exPol at hp
  have HP := Lib.hid hp
  clear hp
  go_enter Tryz.func23, Tryz.ntmps23
  go_wp2_with (first
    | (show wpList _ _ _ (Oper.mk none (Op.store _ (Operand.tmp 0) (Operand.tmp 12)) _ _ _ _ :: _) _ _
       obtain ⟨w5, hw5⟩ : ∃ w5, (w4.alloc (.cells #[.int .i64 1, .int .i64 7, .int .i64 105, .int .i64 102, .int .i64 100, .int .i64 80, .int .i64 60, .int .i64 10, .int .i64 8, .int .i64 8, .int .i64 0, .int .i64 0, .int .i64 2, .int .i64 7, .int .i64 105, .int .i64 102, .int .i64 100, .int .i64 80, .int .i64 60, .int .i64 10, .int .i64 8, .int .i64 8, .int .i64 0, .int .i64 0, .int .i64 3, .int .i64 7, .int .i64 105, .int .i64 103, .int .i64 100, .int .i64 80, .int .i64 60, .int .i64 10, .int .i64 8, .int .i64 8, .int .i64 0, .int .i64 0] 56)).alloc (.cells #[.int .i64 4, .int .i64 1, .int .i64 0, .int .i64 135000, .bool true, .int .i64 5, .int .i64 2, .int .i64 0, .int .i64 162000, .bool false] 58) = w5 := ⟨_, rfl⟩
       have hb5 : Below w4.heap.size w4 w5 := by rw [← hw5]; exact grow2 _ _ _
       have mp : w5.heap[w4.heap.size]? = some (.cells #[.int .i64 1, .int .i64 7, .int .i64 105, .int .i64 102, .int .i64 100, .int .i64 80, .int .i64 60, .int .i64 10, .int .i64 8, .int .i64 8, .int .i64 0, .int .i64 0, .int .i64 2, .int .i64 7, .int .i64 105, .int .i64 102, .int .i64 100, .int .i64 80, .int .i64 60, .int .i64 10, .int .i64 8, .int .i64 8, .int .i64 0, .int .i64 0, .int .i64 3, .int .i64 7, .int .i64 105, .int .i64 103, .int .i64 100, .int .i64 80, .int .i64 60, .int .i64 10, .int .i64 8, .int .i64 8, .int .i64 0, .int .i64 0] 56 (0, 0)) := by rw [← hw5]; exact alloc2_at0 _ _ _
       have mt : w5.heap[w4.heap.size + 1]? = some (.cells #[.int .i64 4, .int .i64 1, .int .i64 0, .int .i64 135000, .bool true, .int .i64 5, .int .i64 2, .int .i64 0, .int .i64 162000, .bool false] 58 (0, 0)) := by rw [← hw5]; exact alloc2_at1 _ _ _
       have ms := (hb5.block _ (lt_of_heap H4.out.2)).trans H4.out.2
       rw [hw5]
       refine wpList_store_blk 25 (.tmp 0) (.tmp 12) (cs := [.slice (some ⟨w4.heap.size, 0, none⟩) 3 3, .slice (some ⟨w4.heap.size + 1, 0, none⟩) 2 2]) rfl rfl rfl rfl rfl ms (Nat.le_of_ble_eq_true rfl) (by intro v hv; simp only [List.mem_cons, List.not_mem_nil, or_false] at hv; rcases hv with rfl | rfl <;> rfl) rowSheetP ?_
       intro w9 hP hM
       rw [splice_whole (by rfl)] at hM
       have hlt := lt_of_heap H4.out.2
       have H9 := Lib.hid (And.intro ((H4.out.1.trans (hb5.mono H4.out.1.size)).trans (hP.below (Nat.le_refl _))) (And.intro hM (And.intro ((hP.other _ (by omega)).trans mp) ((hP.other _ (by omega)).trans mt))))
       have HZ := Lib.hid H4.out.1.size
       clear hP hM hw5 hb5 mp mt ms hlt)
    | (go_at_call 53
       refine (HP.out 3 103 w3).mono ?_
       rintro e w4 ⟨rfl, hB⟩
       have H4 := Lib.hid (And.intro (H3.out.1.trans (hB.mono H3.out.1.size)) ((hB.block _ (lt_of_heap H3.out.2)).trans H3.out.2))
       clear hB)
    | (go_at_call 53
       refine (HP.out 2 102 w2).mono ?_
       rintro e w3 ⟨rfl, hB⟩
       have H3 := Lib.hid (And.intro (H2.out.1.trans (hB.mono H2.out.1.size)) ((hB.block _ (lt_of_heap H2.out.2)).trans H2.out.2))
       clear hB)
    | (go_at_call 53
       refine (HP.out 1 102 w1).mono ?_
       rintro e w2 ⟨rfl, hB⟩
       have H2 := Lib.hid (And.intro (H1.out.1.trans (hB.mono H1.out.1.size)) ((hB.block _ (lt_of_heap H1.out.2)).trans H1.out.2))
       clear hB))
  refine bodyPost_ret (v := .agg #[.slice (some ⟨w4.heap.size, 0, none⟩) 3 3, .slice (some ⟨w4.heap.size + 1, 0, none⟩) 2 2]) (results_cell1 (cs := [.slice (some ⟨w4.heap.size, 0, none⟩) 3 3, .slice (some ⟨w4.heap.size + 1, 0, none⟩) 2 2]) Tryz.results23 rfl H9.out.2.1 rowSheetP) rfl ⟨w4.heap.size, rfl, HZ.out, H9.out.2.2.1, H9.out.2.2.2, H9.out.1⟩

set_option maxRecDepth 100000 in
set_option maxHeartbeats 4000000 in
theorem exGradingB_any (w : World) : Calls Tryz.prog 22 #[] w (GrdB w) := by
  obtain ⟨w1, hw1⟩ : ∃ w1, w.alloc (.cells #[.slice none 0 0, .int .i64 0] 28) = w1 := ⟨_, rfl⟩
  have m1 : w1.heap[w.heap.size]? = some (.cells [Value.slice none 0 0, .int .i64 0].toArray 28 (0, 0)) := by rw [← hw1]; exact alloc_at0 _ _
  have hb1 : Below w.heap.size w w1 := by rw [← hw1]; exact grow1 _ _
  have H1 := Lib.hid (And.intro hb1 m1)
  clear m1 hb1
  unfold GrdB
  have hp := fun (i s : Int) W => exAll_any i s W
  unfold st6c at hp
  have HP := Lib.hid hp
  clear hp
  go_enter Tryz.func22, Tryz.ntmps22
  go_wp2_with (first
    | (show wpList _ _ _ (Oper.mk none (Op.store _ (Operand.tmp 0) (Operand.tmp 6)) _ _ _ _ :: _) _ _
       obtain ⟨w5, hw5⟩ : ∃ w5, w3.alloc (.cells #[.int .i64 2, .int .i64 4, .int .i64 20000, .int .i64 60000, .int .i64 20000, .int .i64 60000, .int .i64 20000, .int .i64 60000, .int .i64 3, .int .i64 8, .int .i64 40000, .int .i64 90000, .int .i64 40000, .int .i64 90000, .int .i64 40000, .int .i64 90000] 53) = w5 := ⟨_, rfl⟩
       have hb5 : Below w3.heap.size w3 w5 := by rw [← hw5]; exact grow1 _ _
       have mp : w5.heap[w3.heap.size]? = some (.cells #[.int .i64 2, .int .i64 4, .int .i64 20000, .int .i64 60000, .int .i64 20000, .int .i64 60000, .int .i64 20000, .int .i64 60000, .int .i64 3, .int .i64 8, .int .i64 40000, .int .i64 90000, .int .i64 40000, .int .i64 90000, .int .i64 40000, .int .i64 90000] 53 (0, 0)) := by rw [← hw5]; exact alloc_at0 _ _
       have ms := (hb5.block _ (lt_of_heap H3.out.2)).trans H3.out.2
       rw [hw5]
       refine wpList_store_blk 28 (.tmp 0) (.tmp 6) (cs := [.slice (some ⟨w3.heap.size, 0, none⟩) 2 2, .int .i64 5000]) rfl rfl rfl rfl rfl ms (Nat.le_of_ble_eq_true rfl) (by intro v hv; simp only [List.mem_cons, List.not_mem_nil, or_false] at hv; rcases hv with rfl | rfl <;> rfl) rowGradingP ?_
       intro w9 hP hM
       rw [splice_whole (by rfl)] at hM
       have hlt := lt_of_heap H3.out.2
       have H9 := Lib.hid (And.intro ((H3.out.1.trans (hb5.mono H3.out.1.size)).trans (hP.below (Nat.le_refl _))) (And.intro hM ((hP.other _ (by omega)).trans mp)))
       have HZ := Lib.hid H3.out.1.size
       clear hP hM hw5 hb5 mp ms hlt)
    | (go_at_call 52
       refine (HP.out 40000 90000 w2).mono ?_
       rintro e w3 ⟨rfl, hB⟩
       have H3 := Lib.hid (And.intro (H2.out.1.trans (hB.mono H2.out.1.size)) ((hB.block _ (lt_of_heap H2.out.2)).trans H2.out.2))
       clear hB)
    | (go_at_call 52
       refine (HP.out 20000 60000 w1).mono ?_
       rintro e w2 ⟨rfl, hB⟩
       have H2 := Lib.hid (And.intro (H1.out.1.trans (hB.mono H1.out.1.size)) ((hB.block _ (lt_of_heap H1.out.2)).trans H1.out.2))
       clear hB))
  refine bodyPost_ret (v := .agg #[.slice (some ⟨w3.heap.size, 0, none⟩) 2 2, .int .i64 5000]) (results_cell1 (cs := [.slice (some ⟨w3.heap.size, 0, none⟩) 2 2, .int .i64 5000]) Tryz.results22 rfl H9.out.2.1 rowGradingP) rfl ⟨w3.heap.size, rfl, HZ.out, H9.out.2.2, H9.out.1⟩

def wdGs : List Gd := [⟨2, 4, 20000, 60000, 20000, 60000, 20000, 60000⟩, ⟨3, 3, 40000, 90000, 40000, 90000, 40000, 90000⟩]
def tkPs : List Pol := [⟨1, 7, 105, 102, 100, 80, 60, 10, 8, 31, 0, 0⟩, exPol 2 102, exPol 3 103]
def ygPs : List Pol := [exPol 1 102, exPol 2 102, exPol 3 104]
def exSk (a b : Nat) (h : Int) : Sk := ⟨bt0 200 200, sl0 a, some ⟨b, 0, none⟩, 1, h⟩
theorem xFit (a b : Nat) : sFit exGs 5000 exPs exTs [exSk a b 5] = ([2, 2, 2], 0) := by kernel_rfl
theorem xFit2 (a b : Nat) : sFit exGs 5000 exPs exTs [exSk a b 301] = ([], 54) := by kernel_rfl
theorem xGrade : sGrade exGs 5000 exPs exTs 4 = (0, 6) := by decide +kernel
theorem xStr : sStr exGs 5000 exPs exTs 1 3 = ((0, 0), 2) := by decide +kernel
theorem xWeak : sStr exGs 5000 exPs (exTs ++ [exT6]) 3 0 = ((0, 0), 52) := by decide +kernel
theorem xYoung : sStr exGs 5000 ygPs exTs 3 0 = ((0, 0), 8) := by decide +kernel
theorem xWild : gChk wdGs 5000 exPs exTs = 50 := by decide +kernel
theorem xThick : gChk exGs 5000 tkPs exTs = 51 := by decide +kernel
theorem xTrace (p1 p2 q1 q2 : Nat) : sTrace exGs 5000 exPs exTs [⟨exGr, some ⟨p1, 0, none⟩, 4, some ⟨p2, 0, none⟩, 1⟩, ⟨exGr, some ⟨q1, 0, none⟩, 4, some ⟨q2, 0, none⟩, 1⟩] = ([], 53) := by kernel_rfl

theorem shAt_blk {W : World} {b c : Nat} {ps : List Pol} {ts : List Ts} (h1 : W.heap[b]? = some (.cells (ps.flatMap pcl).toArray 56 (0, 0))) (h2 : W.heap[c]? = some (.cells (ts.flatMap tcl).toArray 58 (0, 0))) (l1 : ps.length ≤ 1000000) (l2 : ts.length ≤ 1000000) : ShAt W W.heap.size ps ts (some ⟨b, 0, none⟩) (some ⟨c, 0, none⟩) :=
  ⟨(vals_mk5 h1).mono (lt_of_heap h1), (vals_mk5 h2).mono (lt_of_heap h2), l1, l2⟩
theorem gdAt_blk {W : World} {b : Nat} {gs : List Gd} (h1 : W.heap[b]? = some (.cells (gs.flatMap gcl).toArray 53 (0, 0))) (l1 : gs.length ≤ 1000000) : GdAt W W.heap.size gs (some ⟨b, 0, none⟩) :=
  ⟨(vals_mk5 h1).mono (lt_of_heap h1), l1⟩
theorem keptK.four {W : World} {K : List (Nat × Obj)} (h : keptK K W) (a b c d : Obj) : keptK ((W.heap.size, a) :: (W.heap.size + 1, b) :: (W.heap.size + 1 + 1, c) :: (W.heap.size + 1 + 1 + 1, d) :: K) ((((W.alloc a).alloc b).alloc c).alloc d) := by
  have g1 := grow2 W a b
  have g2 := grow2 ((W.alloc a).alloc b) c d
  have hs : ((W.alloc a).alloc b).heap.size = W.heap.size + 1 + 1 := by simp
  have a0 := alloc2_at0 W a b
  have a1 := alloc2_at1 W a b
  have a2 := alloc2_at0 ((W.alloc a).alloc b) c d
  have a3 := alloc2_at1 ((W.alloc a).alloc b) c d
  rw [hs] at a2 a3
  exact ⟨(g2.block _ (lt_of_heap a0)).trans a0, (g2.block _ (lt_of_heap a1)).trans a1, a2, a3, (h.next g1).next g2⟩

def kindP (w0 : World) (sk : Sk) (r : List Int × Int) : Nat → Value → World → Prop
  | 0, v, W => ∃ b, v = .agg #[.slice (some ⟨b, 0, none⟩) 3 3, .slice (some ⟨b + 1, 0, none⟩) 2 2] ∧ W.heap[b]? = some (.cells (exPs.flatMap pcl).toArray 56 (0, 0)) ∧ W.heap[b + 1]? = some (.cells (exTs.flatMap tcl).toArray 58 (0, 0))
  | 1, v, W => ∃ b, v = .agg #[.slice (some ⟨b, 0, none⟩) 2 2, .int .i64 5000] ∧ W.heap[b]? = some (.cells (exGs.flatMap gcl).toArray 53 (0, 0))
  | 2, v, W => ∃ b, v = .slice (some ⟨b, 0, none⟩) 1 1 ∧ SksAt W W.heap.size [sk] (some ⟨b, 0, none⟩)
  | 3, v, W => ∃ A c, v = .tuple #[.slice A r.1.length c, .int .i64 r.2] ∧ OwnU W 0 (.slice A r.1.length c) r.1
  | _, v, W => ∃ b, v = .pointer (some ⟨b, 0, none⟩) ∧ w0.heap.size ≤ b ∧ W.heap[b]? = some (.cells [Value.int .i64 0, .int .i64 0].toArray 50 (0, 0))
theorem kindP.grows {w0 W W' : World} {sk : Sk} {r : List Int × Int} {c : Nat} {v : Value} (h : kindP w0 sk r c v W) (hg : Grows W W') : kindP w0 sk r c v W' := by
  unfold kindP at h ⊢
  split at h
  · obtain ⟨b, e, h1, h2⟩ := h; exact ⟨b, e, (hg.block _ (lt_of_heap h1)).trans h1, (hg.block _ (lt_of_heap h2)).trans h2⟩
  · obtain ⟨b, e, h1⟩ := h; exact ⟨b, e, (hg.block _ (lt_of_heap h1)).trans h1⟩
  · obtain ⟨b, e, h1⟩ := h; exact ⟨b, e, (h1.below hg).mono hg.size⟩
  · obtain ⟨A, c, e, h1⟩ := h; exact ⟨A, c, e, own_grows h1 hg⟩
  · obtain ⟨b, e, hb, h1⟩ := h; exact ⟨b, e, hb, (hg.block _ (lt_of_heap h1)).trans h1⟩

structure ResN (w0 : World) (sk : Sk) (r : List Int × Int) (kst : Nat) (I : List (Nat × Nat × Nat)) (D : Nat → Bool) (σ : Nat → Value) (W : World) : Prop where
  bel : Below w0.heap.size w0 W
  res : (kst = 99 ∨ D kst = false) → ∀ f ∈ I, D f.1 = true → kindP w0 sk r f.2.2 (σ f.2.1) W
def resK (I : List (Nat × Nat × Nat)) (k : Nat) (d : Option Nat) : Bool := I.all fun f => f.1 != k && d != some f.2.1
def madeN (I : List (Nat × Nat × Nat)) (k d c : Nat) : Bool := I.all fun f => (f.1 == k && f.2.1 == d && f.2.2 == c) || (f.1 != k && f.2.1 != d)
section
variable {w0 W W' : World} {sk : Sk} {r : List Int × Int} {kst : Nat} {I : List (Nat × Nat × Nat)} {D : Nat → Bool} {σ : Nat → Value}
theorem kst_old {k : Nat} (h : kst = 99 ∨ done D k kst = false) : kst = 99 ∨ D kst = false := by
  rcases h with h | h
  · exact .inl h
  · unfold done at h
    simp only [Bool.or_eq_false_iff] at h
    exact .inr h.1
theorem ResN.next {k : Nat} {d : Option Nat} {v : Value} (h : ResN w0 sk r kst I D σ W) (hg : Grows W W') (hk : resK I k d = true) : ResN w0 sk r kst I (done D k) (R4.upd σ d v) W' := by
  refine ⟨h.bel.trans (hg.mono h.bel.size), fun h0 f hf hd => ?_⟩
  have hf2 := List.all_eq_true.1 hk f hf
  simp only [Bool.and_eq_true, bne_iff_ne, ne_eq] at hf2
  rw [done_ne hf2.1] at hd
  rw [upd_ne hf2.2]
  exact (h.res (kst_old h0) f hf hd).grows hg
theorem ResN.move {k : Nat} {d : Option Nat} {v : Value} (h : ResN w0 sk r kst I D σ W) (hk : resK I k d = true) : ResN w0 sk r kst I (done D k) (R4.upd σ d v) W := h.next (Below.refl _ _) hk
theorem ResN.made {k d c : Nat} {v : Value} (h : ResN w0 sk r kst I D σ W) (hg : Grows W W') (hk : madeN I k d c = true) (hv : kindP w0 sk r c v W') : ResN w0 sk r kst I (done D k) (R4.upd σ (some d) v) W' := by
  refine ⟨h.bel.trans (hg.mono h.bel.size), fun h0 f hf hd => ?_⟩
  have hf2 := List.all_eq_true.1 hk f hf
  simp only [Bool.or_eq_true, Bool.and_eq_true, beq_iff_eq, bne_iff_ne, ne_eq] at hf2
  rcases hf2 with ⟨⟨_, h2⟩, h3⟩ | ⟨h1, h2⟩
  · rw [h2, h3, upd_me]; exact hv
  · rw [done_ne h1] at hd
    rw [upd_ne (fun e => h2 (Option.some.inj e).symm)]
    exact (h.res (kst_old h0) f hf hd).grows hg
theorem ResN.put {d : Option Nat} {v : Value} {b : Nat} (h : ResN w0 sk r kst I D σ W) (h99 : kst ≠ 99) (hP : Put W W' b) (hb : w0.heap.size ≤ b) : ResN w0 sk r kst I (done D kst) (R4.upd σ d v) W' :=
  ⟨h.bel.trans (hP.below hb), fun h0 => by rcases h0 with h0 | h0; · exact absurd h0 h99
                                           · rw [done_me] at h0; cases h0⟩
theorem ResN.get (h : ResN w0 sk r 99 I D σ W) {k d c : Nat} (hm : (k, d, c) ∈ I) (hd : D k = true) : kindP w0 sk r c (σ d) W := h.res (.inl rfl) (k, d, c) hm hd
theorem ResN.get7 (h : ResN w0 sk r kst I D σ W) (h7 : D kst = false) {k d c : Nat} (hm : (k, d, c) ∈ I) (hd : D k = true) : kindP w0 sk r c (σ d) W := h.res (.inr h7) (k, d, c) hm hd
theorem ResN.start (hD : ∀ k, D k = false) : ResN w0 sk r kst I D σ w0.drew := ⟨(Below.refl _ _).drew, fun _ f _ h => by rw [hD] at h; cases h⟩
end

end Go.Proofs.YtddpebnmjfmgdaaGreat
