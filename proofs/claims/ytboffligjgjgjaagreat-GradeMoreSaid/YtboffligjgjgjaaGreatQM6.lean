/-
  A pole by its Id; results of several values, some of them out of blocks.
-/
import Derived.Test.YtboffligjgjgjaaGreatQM5
set_option linter.all false
namespace Go.Proofs.YtboffligjgjgjaaGreat
open Go.RowKit

section
variable {P : Program} {fn : Func} {tmps : Array Value} {w : World}
theorem results_cell1 {t b : Nat} {ty tt : TypeId} {cs : List Value} {fr : Nat × Nat} (hr : fn.results = #[.cell t ty]) (ht : tmps.getD t undef = .pointer (some ⟨b, 0, none⟩))
    (hb : w.heap[b]? = some (.cells cs.toArray tt fr)) (hty : RowTy P ty cs.length) : (results fn tmps).run P w = .ok (.agg cs.toArray) w := by
  obtain ⟨⟨d, hu, hd⟩, hi⟩ := hty
  have hl := run_loadVar_mid (P := P) w b 0 ty cs d (fun j v hv => by
    rw [Nat.zero_add, cell_of_row w b j _ _ _ hb, List.getElem?_toArray]; exact hv) hu hd hi
  rw [Array.getD_eq_getD_getElem?] at ht
  unfold results
  rw [hr]
  simp [ht, asAddr, hl]
theorem results_cell_tmp {t s b : Nat} {ty tt : TypeId} {cs : List Value} {v : Value} {fr : Nat × Nat} (hr : fn.results = #[.cell t ty, .tmp s]) (ht : tmps.getD t undef = .pointer (some ⟨b, 0, none⟩))
    (hb : w.heap[b]? = some (.cells cs.toArray tt fr)) (hty : RowTy P ty cs.length) (hs : tmps.getD s undef = v) : (results fn tmps).run P w = .ok (.tuple #[.agg cs.toArray, v]) w := by
  obtain ⟨⟨d, hu, hd⟩, hi⟩ := hty
  have hl := run_loadVar_mid (P := P) w b 0 ty cs d (fun j v hv => by
    rw [Nat.zero_add, cell_of_row w b j _ _ _ hb, List.getElem?_toArray]; exact hv) hu hd hi
  rw [Array.getD_eq_getD_getElem?] at ht hs
  unfold results
  rw [hr]
  simp [ht, asAddr, hl, hs]
theorem results_cell2_tmp {t t2 s b b2 : Nat} {ty ty2 tt tt2 : TypeId} {cs cs2 : List Value} {v : Value} {fr fr2 : Nat × Nat} (hr : fn.results = #[.cell t ty, .cell t2 ty2, .tmp s]) (ht : tmps.getD t undef = .pointer (some ⟨b, 0, none⟩))
    (hb : w.heap[b]? = some (.cells cs.toArray tt fr)) (hty : RowTy P ty cs.length) (ht2 : tmps.getD t2 undef = .pointer (some ⟨b2, 0, none⟩))
    (hb2 : w.heap[b2]? = some (.cells cs2.toArray tt2 fr2)) (hty2 : RowTy P ty2 cs2.length) (hs : tmps.getD s undef = v) : (results fn tmps).run P w = .ok (.tuple #[.agg cs.toArray, .agg cs2.toArray, v]) w := by
  obtain ⟨⟨d, hu, hd⟩, hi⟩ := hty
  obtain ⟨⟨d2, hu2, hd2⟩, hi2⟩ := hty2
  have hl := run_loadVar_mid (P := P) w b 0 ty cs d (fun j v hv => by
    rw [Nat.zero_add, cell_of_row w b j _ _ _ hb, List.getElem?_toArray]; exact hv) hu hd hi
  have hl2 := run_loadVar_mid (P := P) w b2 0 ty2 cs2 d2 (fun j v hv => by
    rw [Nat.zero_add, cell_of_row w b2 j _ _ _ hb2, List.getElem?_toArray]; exact hv) hu2 hd2 hi2
  rw [Array.getD_eq_getD_getElem?] at ht ht2 hs
  unfold results
  rw [hr]
  simp [ht, ht2, asAddr, hl, hl2, hs]
end

theorem idxL_find {α : Type} {P : α → Bool} : ∀ (l : List α) (i : Nat), (idxL P l i = -1 ∧ l.find? P = none ∧ l.any P = false) ∨ ∃ (k : Nat) (x : α), idxL P l i = ((i + k : Nat) : Int) ∧ l[k]? = some x ∧ l.find? P = some x ∧ l.any P = true
  | [], i => .inl ⟨rfl, rfl, rfl⟩
  | x :: l, i => by
    by_cases h : P x = true
    · exact .inr ⟨0, x, by simp [idxL, h], rfl, by simp [h], by simp [h]⟩
    · have h' : P x = false := by simpa using h
      rcases idxL_find (P := P) l (i + 1) with ⟨h1, h2, h3⟩ | ⟨k, y, h1, h2, h3, h4⟩
      · exact .inl ⟨by simp [idxL, h', h1], by simp [h', h2], by simp [h', h3]⟩
      · exact .inr ⟨k + 1, y, by simp only [idxL, h', Bool.false_eq_true, if_false, h1]; congr 1; omega, by simpa using h2, by simp [h', h3], by simp [h', h4]⟩

def pol0 : Pol := ⟨0, 0, 0, 0, 0, 0, 0, 0, 0, 0, 0, 0⟩
def fndP (ps : List Pol) (id : Int) : Pol := (ps.find? fun p => decide (p.id = id)).getD pol0

theorem grPW1_any (id : Int) (b : Nat) (y : Pol) (w : World) (hb : w.heap[b]? = some (.cells #[.int .i64 id] 3 (0, 0))) :
    Calls Tryz.prog 135 #[.agg (pcl y).toArray, .pointer (some ⟨b, 0, none⟩)] w fun e w' => e = .returned (.bool (decide (y.id = id))) ∧ Below w.heap.size w w' := by
  have hlt := lt_of_heap hb
  have hc : (w.alloc (.cells (pcl y).toArray 56)).cell? ⟨b, 0, none⟩ = some (.int .i64 id) := cell_of_row _ b 0 _ _ _ (((grow1 w _).block b hlt).trans hb)
  have HB := Lib.hid hb
  clear hb
  unfold pcl at hc ⊢
  go_enter Tryz.func135, Tryz.ntmps135
  go_wp2
  go_ret
  exact ⟨rfl, grow1 _ _⟩

set_option maxRecDepth 100000 in
set_option maxHeartbeats 4000000 in
theorem grFirstP_any (id : Int) (b : Nat) (A : Option Addr) (cap : Nat) (ps : List Pol) (B : Nat) (w : World) (hB : B ≤ w.heap.size) (hz : Vals w B A (ps.flatMap pcl)) (hl : ps.length ≤ 1000000) (hb : w.heap[b]? = some (.cells #[.int .i64 id] 3 (0, 0))) :
    Calls Tryz.prog 134 #[.slice A ps.length cap, .func (.func 135) #[] #[.pointer (some ⟨b, 0, none⟩)]] w
      fun e w' => e = .returned (.tuple #[.agg (pcl (fndP ps id)).toArray, .bool (hasPol ps id)]) ∧ Below w.heap.size w w' := by
  have H := fun (W : World) (hW : Below w.heap.size w W) => grPW_index (fun p => decide (p.id = id)) b A cap ps B W (Nat.le_trans hB hW.size) (hz.below (hW.mono hB)) hl (fun y W' _ h' => grPW1_any id b y W' ((h'.block b (by have := lt_of_heap hb; have := hW.size; omega)).trans ((hW.block b (lt_of_heap hb)).trans hb)))
  obtain ⟨Z, hZ⟩ : ∃ Z : List Value, Z = pcl pol0 := ⟨_, rfl⟩
  have hZl : Z.length = 12 := by rw [hZ]; rfl
  have hZ1 : ∀ v ∈ Z, v.oneCell' = true := by rw [hZ]; exact fun v hv => pcl_one [pol0] v (by simpa using hv)
  obtain ⟨w1, hw1⟩ : ∃ w1, w.alloc (.cells #[.int .i64 0, .int .i64 0, .int .i64 0, .int .i64 0, .int .i64 0, .int .i64 0, .int .i64 0, .int .i64 0, .int .i64 0, .int .i64 0, .int .i64 0, .int .i64 0] 56) = w1 := ⟨_, rfl⟩
  have hb1 : Below w.heap.size w w1 := by rw [← hw1]; exact grow1 _ _
  have hm1 : w1.heap[w.heap.size]? = some (.cells Z.toArray 56 (0, 0)) := by rw [← hw1, hZ]; exact alloc_at0 _ _
  have hi := H w1 hb1
  have H1 := Lib.hid (And.intro hb1 hm1)
  have HZZ := Lib.hid (And.intro hZl hZ1)
  have HVZ := Lib.hid (And.intro hz hB)
  clear hb1 hm1 H hZ1 hZl hz hB
  rcases idxL_find (P := fun p : Pol => decide (p.id = id)) ps 0 with ⟨e1, e2, e3⟩ | ⟨k, x, e1, e2, e3, e4⟩
  · have r1 : fndP ps id = pol0 := by simp [fndP, e2]
    have r2 : hasPol ps id = false := e3
    rw [r1, r2, ← hZ]
    rw [e1] at hi
    have HI := Lib.hid hi
    clear hi e1 e2 e3 r1 r2 hZ
    go_enter Tryz.func134, Tryz.ntmps134
    go_wp2_with (first
      | (go_at_call 169
         refine HI.out.mono ?_
         rintro e w2 ⟨rfl, hB2⟩
         have H2 := Lib.hid (And.intro (H1.out.1.trans (hB2.mono H1.out.1.size)) ((hB2.block _ (lt_of_heap H1.out.2)).trans H1.out.2))
         clear hB2)
      | (show wpList _ _ _ (Oper.mk (some 12) _ _ _ _ _ :: _) _ _
         refine wpList_load_blk 56 (.tmp 4) rfl rfl rfl H2.out.2 Z at0 (by rw [HZZ.out.1]; exact rowPole) ?_)
      | (show wpList _ _ _ (Oper.mk none (Op.store _ (Operand.tmp 4) (Operand.tmp 12)) _ _ _ _ :: _) _ _
         refine wpList_store_blk 56 (.tmp 4) (.tmp 12) rfl rfl rfl rfl rfl H2.out.2 (by omega) HZZ.out.2 (by rw [HZZ.out.1]; exact rowPole) ?_
         intro w3 hP3 hM3
         rw [splice_whole rfl] at hM3
         have H3 := Lib.hid (And.intro (H2.out.1.trans (hP3.below (Nat.le_refl _))) hM3)
         clear hP3 hM3))
    refine bodyPost_ret (v := .tuple #[.agg Z.toArray, .bool false]) (results_cell_tmp Tryz.results134 rfl H3.out.2 (by rw [HZZ.out.1]; exact rowPole) rfl) rfl ⟨rfl, H3.out.1⟩
  · have r1 : fndP ps id = x := by simp [fndP, e3]
    have r2 : hasPol ps id = true := e4
    rw [r1, r2]
    rw [e1, Nat.zero_add] at hi
    have hk : k < ps.length := (List.getElem?_eq_some_iff.1 e2).1
    have hx : ps[k] = x := (List.getElem?_eq_some_iff.1 e2).2
    have HI := Lib.hid hi
    obtain ⟨c, off, hA, hcB, hc⟩ := vals_elem pcl_len HVZ.out.1 (by decide) hk
    rw [hx] at hc
    subst hA
    have hkz : (k : Int) < ps.length := by omega
    have HCC := Lib.hid (And.intro hc hcB)
    clear hi e1 e2 e3 e4 r1 r2 hZ hx hc
    go_enter Tryz.func134, Tryz.ntmps134
    go_wp2_with (first
      | (go_at_call 169
         refine HI.out.mono ?_
         rintro e w2 ⟨rfl, hB2⟩
         have hb2 := H1.out.1.trans (hB2.mono H1.out.1.size)
         have hc2 : ∀ j v, (pcl x)[j]? = some v → w2.cell? ⟨c, off + k * 12 + j, none⟩ = some v := fun j v hv => (hb2.cell (p := ⟨c, off + k * 12 + j, none⟩) (by have := HVZ.out.2; simp; omega)).trans (HCC.out.1 j v hv)
         have H2 := Lib.hid (And.intro hb2 (And.intro ((hB2.block _ (lt_of_heap H1.out.2)).trans H1.out.2) hc2))
         clear hB2 hb2 hc2)
      | (show wpList _ _ _ (Oper.mk (some 16) _ _ _ _ _ :: _) _ _
         refine wpList_load_at 56 (.tmp 15) rfl rfl rfl (pcl x) H2.out.2.2 rowPole ?_)
      | (show wpList _ _ _ (Oper.mk none (Op.store _ (Operand.tmp 4) (Operand.tmp 16)) _ _ _ _ :: _) _ _
         refine wpList_store_blk 56 (.tmp 4) (.tmp 16) rfl rfl rfl rfl rfl H2.out.2.1 (by rw [HZZ.out.1]; exact Nat.le_refl _) (fun v hv => pcl_one [x] v (by simpa using hv)) rowPole ?_
         intro w3 hP3 hM3
         rw [splice_whole HZZ.out.1] at hM3
         have H3 := Lib.hid (And.intro (H2.out.1.trans (hP3.below (Nat.le_refl _))) hM3)
         clear hP3 hM3))
    refine bodyPost_ret (v := .tuple #[.agg (pcl x).toArray, .bool true]) (results_cell_tmp Tryz.results134 rfl H3.out.2 rowPole rfl) rfl ⟨rfl, H3.out.1⟩

set_option maxRecDepth 100000 in
set_option maxHeartbeats 4000000 in
theorem grPoleWith_any (id : Int) (A : Option Addr) (cap : Nat) (ps : List Pol) (B : Nat) (w : World) (hB : B ≤ w.heap.size) (hz : Vals w B A (ps.flatMap pcl)) (hl : ps.length ≤ 1000000) :
    Calls Tryz.prog 91 #[.slice A ps.length cap, .int .i64 id] w
      fun e w' => e = .returned (.tuple #[.agg (pcl (fndP ps id)).toArray, .bool (hasPol ps id)]) ∧ Below w.heap.size w w' := by
  obtain ⟨Z, hZ⟩ : ∃ Z : List Value, Z = pcl pol0 := ⟨_, rfl⟩
  have hZl : Z.length = 12 := by rw [hZ]; rfl
  obtain ⟨w1, hw1⟩ : ∃ w1, w.alloc (.cells #[.int .i64 id] 3) = w1 := ⟨_, rfl⟩
  obtain ⟨w2, hw2⟩ : ∃ w2, w1.alloc (.cells #[.int .i64 0, .int .i64 0, .int .i64 0, .int .i64 0, .int .i64 0, .int .i64 0, .int .i64 0, .int .i64 0, .int .i64 0, .int .i64 0, .int .i64 0, .int .i64 0] 56) = w2 := ⟨_, rfl⟩
  have hs1 : w1.heap.size = w.heap.size + 1 := by rw [← hw1]; simp
  have hb2 : Below w.heap.size w w2 := by rw [← hw2, ← hw1]; exact grow2 _ _ _
  have hm1 : w2.heap[w.heap.size]? = some (.cells #[.int .i64 id] 3 (0, 0)) := by rw [← hw2, ← hw1]; exact alloc2_at0 _ _ _
  have hm2 : w2.heap[w1.heap.size]? = some (.cells Z.toArray 56 (0, 0)) := by rw [← hw2, hZ]; exact alloc_at0 _ _
  have hf := grFirstP_any id w.heap.size A cap ps B w2 (Nat.le_trans hB hb2.size) (hz.below (hb2.mono hB)) hl hm1
  generalize fndP ps id = x at hf ⊢
  generalize hasPol ps id = v at hf ⊢
  have HF := Lib.hid hf
  have H2 := Lib.hid (And.intro hb2 (And.intro hm2 hs1))
  have HZL := Lib.hid hZl
  clear hf hb2 hm1 hm2 hs1 hZ hZl hz
  go_enter Tryz.func91, Tryz.ntmps91
  go_wp2_with (first
    | (go_at_call 134
       refine HF.out.mono ?_
       rintro e w3 ⟨rfl, hB3⟩
       have H3 := Lib.hid (And.intro (H2.out.1.trans (hB3.mono H2.out.1.size)) ((hB3.block _ (lt_of_heap H2.out.2.1)).trans H2.out.2.1))
       clear hB3)
    | (show wpList _ _ _ (Oper.mk none (Op.store _ (Operand.tmp 4) (Operand.tmp 9)) _ _ _ _ :: _) _ _
       refine wpList_store_blk 56 (.tmp 4) (.tmp 9) rfl rfl rfl rfl rfl H3.out.2 (by rw [HZL.out]; exact Nat.le_refl _) (fun v hv => pcl_one [x] v (by simpa using hv)) rowPole ?_
       intro w4 hP4 hM4
       rw [splice_whole HZL.out] at hM4
       have H4 := Lib.hid (And.intro (H3.out.1.trans (hP4.below (by have := H2.out.2.2; omega))) hM4)
       clear hP4 hM4))
  refine bodyPost_ret (v := .tuple #[.agg (pcl x).toArray, .bool v]) (results_cell_tmp Tryz.results91 rfl H4.out.2 rowPole rfl) rfl ⟨rfl, H4.out.1⟩

end Go.Proofs.YtboffligjgjgjaaGreat
