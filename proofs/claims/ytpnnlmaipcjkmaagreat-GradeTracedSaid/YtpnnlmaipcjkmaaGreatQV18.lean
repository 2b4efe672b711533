/-
  How many culms of an origin were cut by the books (the program's): the walk.
-/
import Derived.Test.YtpnnlmaipcjkmaaGreatQV13
import Derived.Test.YtpnnlmaipcjkmaaGreatQV17
set_option linter.all false
namespace Go.Proofs.YtpnnlmaipcjkmaaGreat
open Go.RowKit
open R6 (done done_ne done_me upd_ne upd_me)

attribute [local go_sem] gives

def hab0 : Hab := ⟨0, 0, 0, 0, 0, 0⟩
def gv0 : Gv := ⟨⟨0, hab0, 0, [], []⟩, none, 0, none, 0⟩
def tk0 : Int × Int := (0, 0)
def fndG (P : Gv → Bool) (l : List Gv) : Gv := (l.find? P).getD gv0
def fndK (P : Int × Int → Bool) (l : List (Int × Int)) : Int × Int := (l.find? P).getD tk0
def tkl (s : Int × Int) : List Value := [.int .i64 s.1, .int .i64 s.2]
theorem tkl_len (s : Int × Int) : (tkl s).length = 2 := rfl
theorem tkl_one (l : List (Int × Int)) : ∀ v ∈ l.flatMap tkl, v.oneCell' = true := by
  intro v hv
  obtain ⟨p, -, hv⟩ := List.mem_flatMap.1 hv
  simp only [tkl, List.mem_cons, List.not_mem_nil, or_false] at hv
  rcases hv with rfl | rfl <;> rfl
theorem rowTakeA : RowTy Tryz.prog 101 2 := ⟨⟨_, Tryz.underlying101, rfl⟩, by kernel_rfl⟩
structure Og where
  clone : Int
  cut : Int
  shot : Int
def ogl (o : Og) : List Value := [.int .i64 o.clone, .int .i64 o.cut, .int .i64 o.shot]
theorem rowOrigin : RowTy Tryz.prog 162 3 := ⟨⟨_, Tryz.underlying162, rfl⟩, by kernel_rfl⟩
def cuG (o : Og) (x : Gv) : Bool := decide (gvId x = o.clone)
def cuK (o : Og) (t : Int × Int) : Bool := decide (t.1 = o.shot)

theorem gtCu1_any (o : Og) (b : Nat) (y : Gv) (w : World) (hb : w.heap[b]? = some (.cells (ogl o).toArray 162 (0, 0))) :
    Calls Tryz.prog 125 #[.agg (gvl y).toArray, .pointer (some ⟨b, 0, none⟩)] w fun e w' => e = .returned (.bool (cuG o y)) ∧ Below w.heap.size w w' := by
  have hlt := lt_of_heap hb
  have hc : (w.alloc (.cells (gvl y).toArray 74)).cell? ⟨b, 0, none⟩ = some (.int .i64 o.clone) := cell_of_row _ b 0 _ _ _ (((grow1 w _).block b hlt).trans hb)
  have HB := Lib.hid hb
  clear hb
  unfold cuG gvId
  unfold gvl at hc ⊢
  go_enter Tryz.func125, Tryz.ntmps125
  go_wp2
  go_ret
  exact ⟨rfl, grow1 _ _⟩
theorem gtCu2_any (o : Og) (b : Nat) (y : Int × Int) (w : World) (hb : w.heap[b]? = some (.cells (ogl o).toArray 162 (0, 0))) :
    Calls Tryz.prog 127 #[.agg (tkl y).toArray, .pointer (some ⟨b, 0, none⟩)] w fun e w' => e = .returned (.bool (cuK o y)) ∧ Below w.heap.size w w' := by
  have hlt := lt_of_heap hb
  have hc : (w.alloc (.cells (tkl y).toArray 101)).cell? ⟨b, 2, none⟩ = some (.int .i64 o.shot) := cell_of_row _ b 2 _ _ _ (((grow1 w _).block b hlt).trans hb)
  have HB := Lib.hid hb
  clear hb
  unfold cuK
  unfold tkl at hc ⊢
  go_enter Tryz.func127, Tryz.ntmps127
  go_wp2
  go_ret
  exact ⟨rfl, grow1 _ _⟩

set_option maxHeartbeats 2000000 in
theorem gtG_index (P : Gv → Bool) (b : Nat) (A : Option Addr) (cap : Nat) (l : List Gv) (B : Nat) (w : World) (hB : B ≤ w.heap.size) (hz : Vals w B A (l.flatMap gvl)) (hl : l.length ≤ 1000000)
    (HF : ∀ (y : Gv) (W : World), y ∈ l → Below w.heap.size w W → Calls Tryz.prog 125 #[.agg (gvl y).toArray, .pointer (some ⟨b, 0, none⟩)] W fun e w' => e = .returned (.bool (P y)) ∧ Below W.heap.size W w') :
    Calls Tryz.prog 166 #[.slice A l.length cap, .func (.func 125) #[] #[.pointer (some ⟨b, 0, none⟩)]] w fun e w' => e = .returned (.int .i64 (idxL P l 0)) ∧ Below w.heap.size w w' := by
  have HZ := Lib.hid hz
  have HFF := Lib.hid HF
  clear hz HF
  go_enter Tryz.func166, Tryz.ntmps166
  go_wp2
  go_loopg [8] l.length (fun gg s8 wx => ∃ k : Nat, k + gg = l.length ∧ s8 = .int .i64 k ∧ Hid (idxL P (l.drop k) k = idxL P l 0) ∧ Hid (Below w.heap.size w wx))
  case atStart => exact ⟨0, by omega, rfl, rfl, Below.refl _ _⟩
  case round =>
    obtain ⟨k, hkg, rfl, hI, hBr⟩ := hrel
    cases gk with
    | zero =>
      obtain rfl : k = l.length := by omega
      go_wp2
      go_ret
      refine ⟨?_, hBr.out⟩
      rw [← hI.out, List.drop_length]
      rfl
    | succ gg =>
      have hk : k < l.length := by omega
      have hkz : (k : Int) < l.length := by omega
      obtain ⟨c, off, hA, hcB, hc⟩ := vals_elem gvl_len HZ.out (by decide) hk
      subst hA
      have hc' : ∀ j v, (gvl l[k])[j]? = some v → wr.cell? ⟨c, off + k * 10 + j, none⟩ = some v := fun j v hv => (hBr.out.cell (p := ⟨c, off + k * 10 + j, none⟩) (by simp; omega)).trans (hc j v hv)
      have hst := idxL_step (P := P) hk
      rw [hI.out] at hst
      have hy := HFF.out l[k] wr (List.getElem_mem hk) hBr.out
      generalize l[k] = y at hc' hst hy
      have HY := Lib.hid hy
      have HST := Lib.hid hst
      have HCC := Lib.hid hc'
      clear hc hc' hst hy
      cases hp : P y
      all_goals
        rw [hp] at HY HST
        clear hp
        go_wp2_with (first
          | (show wpList _ _ _ (Oper.mk (some 15) _ _ _ _ _ :: _) _ _
             refine wpList_load_at 74 (.tmp 14) rfl rfl rfl (gvl y) HCC.out rowGroveA ?_)
          | (go_at_call 125; refine HY.out.mono ?_; rintro e w' ⟨rfl, hB1⟩; have HB1 := Lib.hid hB1; clear hB1))
      rotate_left
      · go_ret
        exact ⟨by rw [HST.out]; rfl, hBr.out.trans (HB1.out.mono hBr.out.size)⟩
      · go_roundg gg
        case measure => omega
        case rel => exact ⟨k + 1, by omega, by go_num, by rw [HST.out]; rfl, hBr.out.trans (HB1.out.mono hBr.out.size)⟩

set_option maxRecDepth 100000 in
set_option maxHeartbeats 4000000 in
theorem gtFirstG_any (P : Gv → Bool) (b : Nat) (A : Option Addr) (cap : Nat) (ps : List Gv) (B : Nat) (w : World) (hB : B ≤ w.heap.size) (hz : Vals w B A (ps.flatMap gvl)) (hl : ps.length ≤ 1000000)
    (HF : ∀ (y : Gv) (W : World), y ∈ ps → Below w.heap.size w W → Calls Tryz.prog 125 #[.agg (gvl y).toArray, .pointer (some ⟨b, 0, none⟩)] W fun e w' => e = .returned (.bool (P y)) ∧ Below W.heap.size W w') :
    Calls Tryz.prog 124 #[.slice A ps.length cap, .func (.func 125) #[] #[.pointer (some ⟨b, 0, none⟩)]] w
      fun e w' => e = .returned (.tuple #[.agg (gvl (fndG P ps)).toArray, .bool (ps.any P)]) ∧ Below w.heap.size w w' := by
  have H := fun (W : World) (hW : Below w.heap.size w W) => gtG_index P b A cap ps B W (Nat.le_trans hB hW.size) (hz.below (hW.mono hB)) hl (fun y W' hy h' => HF y W' hy (hW.trans (h'.mono hW.size)))
  obtain ⟨Z, hZ⟩ : ∃ Z : List Value, Z = gvl gv0 := ⟨_, rfl⟩
  have hZl : Z.length = 10 := by rw [hZ]; rfl
  have hZ1 : ∀ v ∈ Z, v.oneCell' = true := by rw [hZ]; exact fun v hv => gvl_one [gv0] v (by simpa using hv)
  obtain ⟨w1, hw1⟩ : ∃ w1, w.alloc (.cells #[.int .i64 0, .int .i64 0, .int .i64 0, .int .i64 0, .int .i64 0, .int .i64 0, .int .i64 0, .int .i64 0, .slice none 0 0, .slice none 0 0] 74) = w1 := ⟨_, rfl⟩
  have hb1 : Below w.heap.size w w1 := by rw [← hw1]; exact grow1 _ _
  have hm1 : w1.heap[w.heap.size]? = some (.cells Z.toArray 74 (0, 0)) := by rw [← hw1, hZ]; exact alloc_at0 _ _
  have hi := H w1 hb1
  have H1 := Lib.hid (And.intro hb1 hm1)
  have HZZ := Lib.hid (And.intro hZl hZ1)
  have HVZ := Lib.hid (And.intro hz hB)
  clear hb1 hm1 H hZ1 hZl hz hB HF
  rcases idxL_find (P := P) ps 0 with ⟨e1, e2, e3⟩ | ⟨k, x, e1, e2, e3, e4⟩
  · have r1 : fndG P ps = gv0 := by simp [fndG, e2]
    have r2 : ps.any P = false := e3
    rw [r1, r2, ← hZ]
    rw [e1] at hi
    have HI := Lib.hid hi
    clear hi e1 e2 e3 r1 r2 hZ
    go_enter Tryz.func124, Tryz.ntmps124
    go_wp2_with (first
      | (go_at_call 166
         refine HI.out.mono ?_
         rintro e w2 ⟨rfl, hB2⟩
         have H2 := Lib.hid (And.intro (H1.out.1.trans (hB2.mono H1.out.1.size)) ((hB2.block _ (lt_of_heap H1.out.2)).trans H1.out.2))
         clear hB2)
      | (show wpList _ _ _ (Oper.mk (some 12) _ _ _ _ _ :: _) _ _
         refine wpList_load_blk 74 (.tmp 4) rfl rfl rfl H2.out.2 Z at0 (by rw [HZZ.out.1]; exact rowGroveA) ?_)
      | (show wpList _ _ _ (Oper.mk none (Op.store _ (Operand.tmp 4) (Operand.tmp 12)) _ _ _ _ :: _) _ _
         refine wpList_store_blk 74 (.tmp 4) (.tmp 12) rfl rfl rfl rfl rfl H2.out.2 (by omega) HZZ.out.2 (by rw [HZZ.out.1]; exact rowGroveA) ?_
         intro w3 hP3 hM3
         rw [splice_whole rfl] at hM3
         have H3 := Lib.hid (And.intro (H2.out.1.trans (hP3.below (Nat.le_refl _))) hM3)
         clear hP3 hM3))
    refine bodyPost_ret (v := .tuple #[.agg Z.toArray, .bool false]) (results_cell_tmp Tryz.results124 rfl H3.out.2 (by rw [HZZ.out.1]; exact rowGroveA) rfl) rfl ⟨rfl, H3.out.1⟩
  · have r1 : fndG P ps = x := by simp [fndG, e3]
    have r2 : ps.any P = true := e4
    rw [r1, r2]
    rw [e1, Nat.zero_add] at hi
    have hk : k < ps.length := (List.getElem?_eq_some_iff.1 e2).1
    have hx : ps[k] = x := (List.getElem?_eq_some_iff.1 e2).2
    have HI := Lib.hid hi
    obtain ⟨c, off, hA, hcB, hc⟩ := vals_elem gvl_len HVZ.out.1 (by decide) hk
    rw [hx] at hc
    subst hA
    have hkz : (k : Int) < ps.length := by omega
    have HCC := Lib.hid (And.intro hc hcB)
    clear hi e1 e2 e3 e4 r1 r2 hZ hx hc
    go_enter Tryz.func124, Tryz.ntmps124
    go_wp2_with (first
      | (go_at_call 166
         refine HI.out.mono ?_
         rintro e w2 ⟨rfl, hB2⟩
         have hb2 := H1.out.1.trans (hB2.mono H1.out.1.size)
         have hc2 : ∀ j v, (gvl x)[j]? = some v → w2.cell? ⟨c, off + k * 10 + j, none⟩ = some v := fun j v hv => (hb2.cell (p := ⟨c, off + k * 10 + j, none⟩) (by have := HVZ.out.2; simp; omega)).trans (HCC.out.1 j v hv)
         have H2 := Lib.hid (And.intro hb2 (And.intro ((hB2.block _ (lt_of_heap H1.out.2)).trans H1.out.2) hc2))
         clear hB2 hb2 hc2)
      | (show wpList _ _ _ (Oper.mk (some 16) _ _ _ _ _ :: _) _ _
         refine wpList_load_at 74 (.tmp 15) rfl rfl rfl (gvl x) H2.out.2.2 rowGroveA ?_)
      | (show wpList _ _ _ (Oper.mk none (Op.store _ (Operand.tmp 4) (Operand.tmp 16)) _ _ _ _ :: _) _ _
         refine wpList_store_blk 74 (.tmp 4) (.tmp 16) rfl rfl rfl rfl rfl H2.out.2.1 (by rw [HZZ.out.1]; exact Nat.le_refl _) (fun v hv => gvl_one [x] v (by simpa using hv)) rowGroveA ?_
         intro w3 hP3 hM3
         rw [splice_whole HZZ.out.1] at hM3
         have H3 := Lib.hid (And.intro (H2.out.1.trans (hP3.below (Nat.le_refl _))) hM3)
         clear hP3 hM3))
    refine bodyPost_ret (v := .tuple #[.agg (gvl x).toArray, .bool true]) (results_cell_tmp Tryz.results124 rfl H3.out.2 rowGroveA rfl) rfl ⟨rfl, H3.out.1⟩

set_option maxHeartbeats 2000000 in
theorem gtK_index (P : (Int × Int) → Bool) (b : Nat) (A : Option Addr) (cap : Nat) (l : List (Int × Int)) (B : Nat) (w : World) (hB : B ≤ w.heap.size) (hz : Vals w B A (l.flatMap tkl)) (hl : l.length ≤ 1000000)
    (HF : ∀ (y : (Int × Int)) (W : World), y ∈ l → Below w.heap.size w W → Calls Tryz.prog 127 #[.agg (tkl y).toArray, .pointer (some ⟨b, 0, none⟩)] W fun e w' => e = .returned (.bool (P y)) ∧ Below W.heap.size W w') :
    Calls Tryz.prog 167 #[.slice A l.length cap, .func (.func 127) #[] #[.pointer (some ⟨b, 0, none⟩)]] w fun e w' => e = .returned (.int .i64 (idxL P l 0)) ∧ Below w.heap.size w w' := by
  have HZ := Lib.hid hz
  have HFF := Lib.hid HF
  clear hz HF
  go_enter Tryz.func167, Tryz.ntmps167
  go_wp2
  go_loopg [8] l.length (fun gg s8 wx => ∃ k : Nat, k + gg = l.length ∧ s8 = .int .i64 k ∧ Hid (idxL P (l.drop k) k = idxL P l 0) ∧ Hid (Below w.heap.size w wx))
  case atStart => exact ⟨0, by omega, rfl, rfl, Below.refl _ _⟩
  case round =>
    obtain ⟨k, hkg, rfl, hI, hBr⟩ := hrel
    cases gk with
    | zero =>
      obtain rfl : k = l.length := by omega
      go_wp2
      go_ret
      refine ⟨?_, hBr.out⟩
      rw [← hI.out, List.drop_length]
      rfl
    | succ gg =>
      have hk : k < l.length := by omega
      have hkz : (k : Int) < l.length := by omega
      obtain ⟨c, off, hA, hcB, hc⟩ := vals_elem tkl_len HZ.out (by decide) hk
      subst hA
      have hc' : ∀ j v, (tkl l[k])[j]? = some v → wr.cell? ⟨c, off + k * 2 + j, none⟩ = some v := fun j v hv => (hBr.out.cell (p := ⟨c, off + k * 2 + j, none⟩) (by simp; omega)).trans (hc j v hv)
      have hst := idxL_step (P := P) hk
      rw [hI.out] at hst
      have hy := HFF.out l[k] wr (List.getElem_mem hk) hBr.out
      generalize l[k] = y at hc' hst hy
      have HY := Lib.hid hy
      have HST := Lib.hid hst
      have HCC := Lib.hid hc'
      clear hc hc' hst hy
      cases hp : P y
      all_goals
        rw [hp] at HY HST
        clear hp
        go_wp2_with (first
          | (show wpList _ _ _ (Oper.mk (some 15) _ _ _ _ _ :: _) _ _
             refine wpList_load_at 101 (.tmp 14) rfl rfl rfl (tkl y) HCC.out rowTakeA ?_)
          | (go_at_call 127; refine HY.out.mono ?_; rintro e w' ⟨rfl, hB1⟩; have HB1 := Lib.hid hB1; clear hB1))
      rotate_left
      · go_ret
        exact ⟨by rw [HST.out]; rfl, hBr.out.trans (HB1.out.mono hBr.out.size)⟩
      · go_roundg gg
        case measure => omega
        case rel => exact ⟨k + 1, by omega, by go_num, by rw [HST.out]; rfl, hBr.out.trans (HB1.out.mono hBr.out.size)⟩

set_option maxRecDepth 100000 in
set_option maxHeartbeats 4000000 in
theorem gtFirstK_any (P : (Int × Int) → Bool) (b : Nat) (A : Option Addr) (cap : Nat) (ps : List (Int × Int)) (B : Nat) (w : World) (hB : B ≤ w.heap.size) (hz : Vals w B A (ps.flatMap tkl)) (hl : ps.length ≤ 1000000)
    (HF : ∀ (y : (Int × Int)) (W : World), y ∈ ps → Below w.heap.size w W → Calls Tryz.prog 127 #[.agg (tkl y).toArray, .pointer (some ⟨b, 0, none⟩)] W fun e w' => e = .returned (.bool (P y)) ∧ Below W.heap.size W w') :
    Calls Tryz.prog 126 #[.slice A ps.length cap, .func (.func 127) #[] #[.pointer (some ⟨b, 0, none⟩)]] w
      fun e w' => e = .returned (.tuple #[.agg (tkl (fndK P ps)).toArray, .bool (ps.any P)]) ∧ Below w.heap.size w w' := by
  have H := fun (W : World) (hW : Below w.heap.size w W) => gtK_index P b A cap ps B W (Nat.le_trans hB hW.size) (hz.below (hW.mono hB)) hl (fun y W' hy h' => HF y W' hy (hW.trans (h'.mono hW.size)))
  obtain ⟨Z, hZ⟩ : ∃ Z : List Value, Z = tkl tk0 := ⟨_, rfl⟩
  have hZl : Z.length = 2 := by rw [hZ]; rfl
  have hZ1 : ∀ v ∈ Z, v.oneCell' = true := by rw [hZ]; exact fun v hv => tkl_one [tk0] v (by simpa using hv)
  obtain ⟨w1, hw1⟩ : ∃ w1, w.alloc (.cells #[.int .i64 0, .int .i64 0] 101) = w1 := ⟨_, rfl⟩
  have hb1 : Below w.heap.size w w1 := by rw [← hw1]; exact grow1 _ _
  have hm1 : w1.heap[w.heap.size]? = some (.cells Z.toArray 101 (0, 0)) := by rw [← hw1, hZ]; exact alloc_at0 _ _
  have hi := H w1 hb1
  have H1 := Lib.hid (And.intro hb1 hm1)
  have HZZ := Lib.hid (And.intro hZl hZ1)
  have HVZ := Lib.hid (And.intro hz hB)
  clear hb1 hm1 H hZ1 hZl hz hB HF
  rcases idxL_find (P := P) ps 0 with ⟨e1, e2, e3⟩ | ⟨k, x, e1, e2, e3, e4⟩
  · have r1 : fndK P ps = tk0 := by simp [fndK, e2]
    have r2 : ps.any P = false := e3
    rw [r1, r2, ← hZ]
    rw [e1] at hi
    have HI := Lib.hid hi
    clear hi e1 e2 e3 r1 r2 hZ
    go_enter Tryz.func126, Tryz.ntmps126
    go_wp2_with (first
      | (go_at_call 167
         refine HI.out.mono ?_
         rintro e w2 ⟨rfl, hB2⟩
         have H2 := Lib.hid (And.intro (H1.out.1.trans (hB2.mono H1.out.1.size)) ((hB2.block _ (lt_of_heap H1.out.2)).trans H1.out.2))
         clear hB2)
      | (show wpList _ _ _ (Oper.mk (some 12) _ _ _ _ _ :: _) _ _
         refine wpList_load_blk 101 (.tmp 4) rfl rfl rfl H2.out.2 Z at0 (by rw [HZZ.out.1]; exact rowTakeA) ?_)
      | (show wpList _ _ _ (Oper.mk none (Op.store _ (Operand.tmp 4) (Operand.tmp 12)) _ _ _ _ :: _) _ _
         refine wpList_store_blk 101 (.tmp 4) (.tmp 12) rfl rfl rfl rfl rfl H2.out.2 (by omega) HZZ.out.2 (by rw [HZZ.out.1]; exact rowTakeA) ?_
         intro w3 hP3 hM3
         rw [splice_whole rfl] at hM3
         have H3 := Lib.hid (And.intro (H2.out.1.trans (hP3.below (Nat.le_refl _))) hM3)
         clear hP3 hM3))
    refine bodyPost_ret (v := .tuple #[.agg Z.toArray, .bool false]) (results_cell_tmp Tryz.results126 rfl H3.out.2 (by rw [HZZ.out.1]; exact rowTakeA) rfl) rfl ⟨rfl, H3.out.1⟩
  · have r1 : fndK P ps = x := by simp [fndK, e3]
    have r2 : ps.any P = true := e4
    rw [r1, r2]
    rw [e1, Nat.zero_add] at hi
    have hk : k < ps.length := (List.getElem?_eq_some_iff.1 e2).1
    have hx : ps[k] = x := (List.getElem?_eq_some_iff.1 e2).2
    have HI := Lib.hid hi
    obtain ⟨c, off, hA, hcB, hc⟩ := vals_elem tkl_len HVZ.out.1 (by decide) hk
    rw [hx] at hc
    subst hA
    have hkz : (k : Int) < ps.length := by omega
    have HCC := Lib.hid (And.intro hc hcB)
    clear hi e1 e2 e3 e4 r1 r2 hZ hx hc
    go_enter Tryz.func126, Tryz.ntmps126
    go_wp2_with (first
      | (go_at_call 167
         refine HI.out.mono ?_
         rintro e w2 ⟨rfl, hB2⟩
         have hb2 := H1.out.1.trans (hB2.mono H1.out.1.size)
         have hc2 : ∀ j v, (tkl x)[j]? = some v → w2.cell? ⟨c, off + k * 2 + j, none⟩ = some v := fun j v hv => (hb2.cell (p := ⟨c, off + k * 2 + j, none⟩) (by have := HVZ.out.2; simp; omega)).trans (HCC.out.1 j v hv)
         have H2 := Lib.hid (And.intro hb2 (And.intro ((hB2.block _ (lt_of_heap H1.out.2)).trans H1.out.2) hc2))
         clear hB2 hb2 hc2)
      | (show wpList _ _ _ (Oper.mk (some 16) _ _ _ _ _ :: _) _ _
         refine wpList_load_at 101 (.tmp 15) rfl rfl rfl (tkl x) H2.out.2.2 rowTakeA ?_)
      | (show wpList _ _ _ (Oper.mk none (Op.store _ (Operand.tmp 4) (Operand.tmp 16)) _ _ _ _ :: _) _ _
         refine wpList_store_blk 101 (.tmp 4) (.tmp 16) rfl rfl rfl rfl rfl H2.out.2.1 (by rw [HZZ.out.1]; exact Nat.le_refl _) (fun v hv => tkl_one [x] v (by simpa using hv)) rowTakeA ?_
         intro w3 hP3 hM3
         rw [splice_whole HZZ.out.1] at hM3
         have H3 := Lib.hid (And.intro (H2.out.1.trans (hP3.below (Nat.le_refl _))) hM3)
         clear hP3 hM3))
    refine bodyPost_ret (v := .tuple #[.agg (tkl x).toArray, .bool true]) (results_cell_tmp Tryz.results126 rfl H3.out.2 rowTakeA rfl) rfl ⟨rfl, H3.out.1⟩


def culmsL (l : List Gv) (o : Og) : Int :=
  match l.find? (cuG o) with
  | some x => if standErr x.g o.cut = 0 then (fndK (cuK o) (takenVal x.g o.cut)).2 else 0
  | none => 0
theorem takenVal_len (g : Gr) (y : Int) : (takenVal g y).length ≤ 7 := by
  unfold takenVal
  split
  · rename_i h
    have h1 := h.1
    simp only [okGrove, okPre, Bool.and_eq_true, decide_eq_true_eq] at h1
    have hd := (okHab_iff.1 h1.1.1.1.1.1.1.2).2.2.1
    have := takesTo_len y (goneAt g (y - g.first).toNat) g.start.length
    omega
  · simp
end Go.Proofs.YtpnnlmaipcjkmaaGreat

namespace Go.Proofs.YtpnnlmaipcjkmaaGreat
open Go.RowKit
open R6 (done done_ne done_me upd_ne upd_me)

attribute [local go_sem] gives

set_option maxRecDepth 100000 in
set_option maxHeartbeats 8000000 in
theorem gtCulms_any (l : List Gv) (o : Og) (A : Option Addr) (cap : Nat) (B : Nat) (w : World) (hB : B ≤ w.heap.size) (hz : GvsAt w B l A) (hl : l.length ≤ 1000000) :
    Calls Tryz.prog 80 #[.agg (ogl o).toArray, .slice A l.length cap] w fun e w' => e = .returned (.int .i64 (culmsL l o)) ∧ Below w.heap.size w w' := by
  have hfg := fun (W : World) (hW : Below w.heap.size w W) (hb : W.heap[w.heap.size]? = some (.cells (ogl o).toArray 162 (0, 0))) =>
    gtFirstG_any (cuG o) w.heap.size A cap l B W (Nat.le_trans hB hW.size) (hz.v.below (hW.mono hB)) hl (fun y W' _ hW' => gtCu1_any o w.heap.size y W' ((hW'.block _ (lt_of_heap hb)).trans hb))
  have hfk := fun (ts : List (Int × Int)) (hts : ts.length ≤ 1000000) (A4 : Option Addr) (c4 : Nat) (W : World) (_ : Below w.heap.size w W) (hb : W.heap[w.heap.size]? = some (.cells (ogl o).toArray 162 (0, 0))) (hv : Vals W W.heap.size A4 (pairs ts)) =>
    gtFirstK_any (cuK o) w.heap.size A4 c4 ts W.heap.size W (Nat.le_refl _) hv hts (fun y W' _ hW' => gtCu2_any o w.heap.size y W' ((hW'.block _ (lt_of_heap hb)).trans hb))
  have htk := fun (x : Gv) (hx : x ∈ l) (W : World) (hW : Below w.heap.size w W) => taken_any x.g o.cut x.A1 x.c1 x.A2 x.c2 B W (Nat.le_trans hB hW.size) ((hz.at_ x hx).below (hW.mono hB))
  obtain ⟨w1, hw1⟩ : ∃ w1, w.alloc (.cells (ogl o).toArray 162) = w1 := ⟨_, rfl⟩
  have hb1 : Below w.heap.size w w1 := by rw [← hw1]; exact grow1 _ _
  have m1 : w1.heap[w.heap.size]? = some (.cells (ogl o).toArray 162 (0, 0)) := by rw [← hw1]; exact alloc_at0 _ _
  have H1 := Lib.hid (And.intro hb1 m1)
  have hcase : (l.any (cuG o) = true ∧ ∃ x, fndG (cuG o) l = x ∧ x ∈ l ∧ culmsL l o = if standErr x.g o.cut = 0 then (fndK (cuK o) (takenVal x.g o.cut)).2 else 0) ∨ (l.any (cuG o) = false ∧ fndG (cuG o) l = gv0 ∧ culmsL l o = 0) := by
    rcases idxL_find (P := cuG o) l 0 with ⟨_, e2, e3⟩ | ⟨k, x, _, e1, e3, e4⟩
    · exact .inr ⟨e3, by simp [fndG, e2], by simp only [culmsL, e2]⟩
    · exact .inl ⟨e4, x, by simp [fndG, e3], List.mem_of_getElem? e1, by simp only [culmsL, e3]⟩
  clear hb1 m1 hz
  rcases hcase with ⟨ha, x, hx, hm, hc⟩ | ⟨ha, hx, hc⟩
  rotate_left
  · rw [hc]
    rw [hx, ha] at hfg
    have HFG := Lib.hid hfg
    clear hfg hfk htk ha hx hc
    unfold ogl at hw1 ⊢
    go_enter Tryz.func80, Tryz.ntmps80
    go_wp2_with (first
      | (go_at_call 124
         refine (HFG.out w1 H1.out.1 H1.out.2).mono ?_
         rintro e w2 ⟨rfl, hB2⟩
         have H2 := Lib.hid (And.intro (H1.out.1.trans (hB2.mono H1.out.1.size)) ((hB2.block _ (lt_of_heap H1.out.2)).trans H1.out.2))
         clear hB2)
      | (show wpList _ _ _ (Oper.mk none (Op.store _ (Operand.tmp 5) (Operand.tmp 15)) _ _ _ _ :: _) _ _
         have hm : (w2.alloc (.cells #[.int .i64 0, .int .i64 0, .int .i64 0, .int .i64 0, .int .i64 0, .int .i64 0, .int .i64 0, .int .i64 0, .slice none 0 0, .slice none 0 0] 74)).heap[w2.heap.size]? = some (.cells (gvl gv0).toArray 74 (0, 0)) := alloc_at0 _ _
         refine wpList_store_blk 74 (.tmp 5) (.tmp 15) (cs := gvl gv0) rfl rfl rfl rfl rfl hm (Nat.le_refl _) (fun v hv => gvl_one [gv0] v (by simpa using hv)) rowGroveA ?_
         intro w3 hP hM
         rw [splice_whole (by rfl)] at hM
         have hb := (grow1 w2 _).trans (hP.below (Nat.le_refl _))
         have H3 := Lib.hid (And.intro (H2.out.1.trans (hb.mono H2.out.1.size)) (And.intro ((hb.block _ (lt_of_heap H2.out.2)).trans H2.out.2) hM))
         have f1 : w3.cell? ⟨w.heap.size, 1, none⟩ = some (.int .i64 o.cut) := cell_of_row w3 _ 1 _ _ _ H3.out.2.1
         clear hP hM hm hb))
    go_ret
    exact ⟨rfl, H3.out.1⟩
  rw [hc]
  rw [hx, ha] at hfg
  have htx := htk x hm
  unfold TakePost at htx
  simp only [← gvl_grv] at htx
  have hfx := hfk (takenVal x.g o.cut) (by have := takenVal_len x.g o.cut; omega)
  generalize takenVal x.g o.cut = ts at htx hfx ⊢
  generalize standErr x.g o.cut = er at htx ⊢
  clear hfk htk hx hm hc ha
  have HFG := Lib.hid hfg
  have HTK := Lib.hid htx
  clear hfg htx
  by_cases he : er = 0
  rotate_left
  · rw [if_neg he]
    have hce : (er == 0) = false := by simpa using he
    have hcn : (er != 0) = true := by simpa using he
    clear he hfx
    unfold ogl at hw1 ⊢
    go_enter Tryz.func80, Tryz.ntmps80
    go_wp2_with (first
      | (go_at_call 38
         refine (HTK.out w3 H3.out.1).mono ?_
         rintro e w4 ⟨A4, c4, rfl, hv4, hB4⟩
         have H4 := Lib.hid (And.intro (H3.out.1.trans (hB4.mono H3.out.1.size)) (And.intro ((hB4.block _ (lt_of_heap H3.out.2.1)).trans H3.out.2.1) hv4))
         clear hB4 hv4)
      | (show wpList _ _ _ (Oper.mk (some 20) _ _ _ _ _ :: _) _ _
         refine wpList_load_blk 74 (.tmp 5) rfl rfl rfl H3.out.2.2 (gvl x) at0 rowGroveA ?_)
      | (go_at_call 124
         refine (HFG.out w1 H1.out.1 H1.out.2).mono ?_
         rintro e w2 ⟨rfl, hB2⟩
         have H2 := Lib.hid (And.intro (H1.out.1.trans (hB2.mono H1.out.1.size)) ((hB2.block _ (lt_of_heap H1.out.2)).trans H1.out.2))
         clear hB2)
      | (show wpList _ _ _ (Oper.mk none (Op.store _ (Operand.tmp 5) (Operand.tmp 15)) _ _ _ _ :: _) _ _
         have hm : (w2.alloc (.cells #[.int .i64 0, .int .i64 0, .int .i64 0, .int .i64 0, .int .i64 0, .int .i64 0, .int .i64 0, .int .i64 0, .slice none 0 0, .slice none 0 0] 74)).heap[w2.heap.size]? = some (.cells (gvl gv0).toArray 74 (0, 0)) := alloc_at0 _ _
         refine wpList_store_blk 74 (.tmp 5) (.tmp 15) (cs := gvl x) rfl rfl rfl rfl rfl hm (Nat.le_refl _) (fun v hv => gvl_one [x] v (by simpa using hv)) rowGroveA ?_
         intro w3 hP hM
         rw [splice_whole (by rfl)] at hM
         have hb := (grow1 w2 _).trans (hP.below (Nat.le_refl _))
         have H3 := Lib.hid (And.intro (H2.out.1.trans (hb.mono H2.out.1.size)) (And.intro ((hb.block _ (lt_of_heap H2.out.2)).trans H2.out.2) hM))
         have f1 : w3.cell? ⟨w.heap.size, 1, none⟩ = some (.int .i64 o.cut) := cell_of_row w3 _ 1 _ _ _ H3.out.2.1
         clear hP hM hm hb))
    go_ret
    exact ⟨rfl, H4.out.1⟩
  subst he
  rw [if_pos rfl]
  generalize fndK (cuK o) ts = k at hfx ⊢
  generalize ts.any (cuK o) = v at hfx
  have HFK := Lib.hid hfx
  clear hfx
  unfold ogl at hw1 ⊢
  go_enter Tryz.func80, Tryz.ntmps80
  go_wp2_with (first
    | (go_at_call 126
       refine (HFK.out A4 c4 w4 H4.out.1 H4.out.2.1 H4.out.2.2).mono ?_
       rintro e w5 ⟨rfl, hB5⟩
       have H5 := Lib.hid (H4.out.1.trans (hB5.mono H4.out.1.size))
       clear hB5)
    | (show wpList _ _ _ (Oper.mk none (Op.store _ (Operand.tmp 9) (Operand.tmp 32)) _ _ _ _ :: _) _ _
       have hm : (w5.alloc (.cells #[.int .i64 0, .int .i64 0] 101)).heap[w5.heap.size]? = some (.cells (tkl tk0).toArray 101 (0, 0)) := alloc_at0 _ _
       refine wpList_store_blk 101 (.tmp 9) (.tmp 32) (cs := tkl k) rfl rfl rfl rfl rfl hm (Nat.le_refl _) (fun v hv => tkl_one [k] v (by simpa using hv)) rowTakeA ?_
       intro w6 hP hM
       rw [splice_whole (by rfl)] at hM
       have hb := (grow1 w5 _).trans (hP.below (Nat.le_refl _))
       have H6 := Lib.hid (H5.out.trans (hb.mono H5.out.size))
       have f6 : w6.cell? ⟨w5.heap.size, 1, none⟩ = some (.int .i64 k.2) := cell_of_row w6 _ 1 _ _ _ hM
       clear hP hM hm hb)
    | (go_at_call 38
       refine (HTK.out w3 H3.out.1).mono ?_
       rintro e w4 ⟨A4, c4, rfl, hv4, hB4⟩
       have H4 := Lib.hid (And.intro (H3.out.1.trans (hB4.mono H3.out.1.size)) (And.intro ((hB4.block _ (lt_of_heap H3.out.2.1)).trans H3.out.2.1) hv4))
       clear hB4 hv4)
    | (show wpList _ _ _ (Oper.mk (some 20) _ _ _ _ _ :: _) _ _
       refine wpList_load_blk 74 (.tmp 5) rfl rfl rfl H3.out.2.2 (gvl x) at0 rowGroveA ?_)
    | (go_at_call 124
       refine (HFG.out w1 H1.out.1 H1.out.2).mono ?_
       rintro e w2 ⟨rfl, hB2⟩
       have H2 := Lib.hid (And.intro (H1.out.1.trans (hB2.mono H1.out.1.size)) ((hB2.block _ (lt_of_heap H1.out.2)).trans H1.out.2))
       clear hB2)
    | (show wpList _ _ _ (Oper.mk none (Op.store _ (Operand.tmp 5) (Operand.tmp 15)) _ _ _ _ :: _) _ _
       have hm : (w2.alloc (.cells #[.int .i64 0, .int .i64 0, .int .i64 0, .int .i64 0, .int .i64 0, .int .i64 0, .int .i64 0, .int .i64 0, .slice none 0 0, .slice none 0 0] 74)).heap[w2.heap.size]? = some (.cells (gvl gv0).toArray 74 (0, 0)) := alloc_at0 _ _
       refine wpList_store_blk 74 (.tmp 5) (.tmp 15) (cs := gvl x) rfl rfl rfl rfl rfl hm (Nat.le_refl _) (fun v hv => gvl_one [x] v (by simpa using hv)) rowGroveA ?_
       intro w3 hP hM
       rw [splice_whole (by rfl)] at hM
       have hb := (grow1 w2 _).trans (hP.below (Nat.le_refl _))
       have H3 := Lib.hid (And.intro (H2.out.1.trans (hb.mono H2.out.1.size)) (And.intro ((hb.block _ (lt_of_heap H2.out.2)).trans H2.out.2) hM))
       have f1 : w3.cell? ⟨w.heap.size, 1, none⟩ = some (.int .i64 o.cut) := cell_of_row w3 _ 1 _ _ _ H3.out.2.1
       clear hP hM hm hb))
  go_ret
  exact ⟨rfl, H6.out⟩

end Go.Proofs.YtpnnlmaipcjkmaaGreat
