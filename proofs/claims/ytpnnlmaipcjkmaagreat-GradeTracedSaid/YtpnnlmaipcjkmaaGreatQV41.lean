/-
  The chapter's examples as the statements make them.
-/
import Derived.Test.YtpnnlmaipcjkmaaGreatQV25
import Derived.Test.YtpnnlmaipcjkmaaGreatQV24
import Derived.Test.YtpnnlmaipcjkmaaGreatQV27
set_option linter.all false
namespace Go.Proofs.YtpnnlmaipcjkmaaGreat
open Go.RowKit

theorem ownU_weak {W : World} {b b' : Nat} {v : Value} {zs : List Int} (h : OwnU W b v zs) (hb : b' ≤ b) : OwnU W b' v zs := ⟨h.1, h.2.imp_right fun ⟨g, cap, cur, a, c, r⟩ => ⟨g, cap, cur, a, Nat.le_trans hb c, r⟩⟩
def sTrace (gs : List Gd) (vary : Int) (ps : List Pol) (ts : List Ts) (l : List Gv) : List Int × Int := if gChk gs vary ps ts = 0 then (if okGvs l = true then (traceL l ps, 0) else ([], 53)) else ([], gChk gs vary ps ts)
def KnownPost (w : World) (r : List Int × Int) (e : Ending) (w' : World) : Prop := ∃ A c, e = .returned (.tuple #[.slice A r.1.length c, .int .i64 r.2]) ∧ OwnU w' w.heap.size (.slice A r.1.length c) r.1 ∧ Below w.heap.size w w'
theorem ownU_nil (w : World) (b : Nat) : OwnU w b (.slice none 0 0) [] := ⟨rfl, .inl ⟨rfl, rfl⟩⟩

set_option maxRecDepth 100000 in
set_option maxHeartbeats 4000000 in
theorem gtTrace_any (ps : List Pol) (ts : List Ts) (gs : List Gd) (vary : Int) (l : List Gv) (AP : Option Addr) (cp : Nat) (AT : Option Addr) (ct : Nat) (AG : Option Addr) (cg : Nat) (AL : Option Addr) (cl : Nat) (B : Nat) (w : World) (hB : B ≤ w.heap.size) (hz : ShAt w B ps ts AP AT) (hg : GdAt w B gs AG) (hv : GvsAt w B l AL) (hl : l.length ≤ 1000000) :
    Calls Tryz.prog 14 #[.agg #[.slice AP ps.length cp, .slice AT ts.length ct], .agg #[.slice AG gs.length cg, .int .i64 vary], .slice AL l.length cl] w (KnownPost w (sTrace gs vary ps ts l)) := by
  have hchk := fun (W : World) (hW : Below w.heap.size w W) => grCheck_any ps ts gs vary AP cp AT ct AG cg B W (Nat.le_trans hB hW.size) (hz.below (hW.mono hB)) (hg.below (hW.mono hB))
  unfold shl gdl at hchk
  have hvg := fun (W : World) (hW : Below w.heap.size w W) => gtValidGroves_any l AL cl B W (Nat.le_trans hB hW.size) (hv.below (hW.mono hB)) hl
  obtain ⟨w1, hw1⟩ : ∃ w1, (w.alloc (.cells #[.slice AP ps.length cp, .slice AT ts.length ct] 25)).alloc (.cells #[.slice AG gs.length cg, .int .i64 vary] 28) = w1 := ⟨_, rfl⟩
  have hb1 : Below w.heap.size w w1 := by rw [← hw1]; exact grow2 _ _ _
  have m1 : w1.heap[w.heap.size]? = some (.cells [.slice AP ps.length cp, .slice AT ts.length ct].toArray 25 (0, 0)) := by rw [← hw1]; exact alloc2_at0 _ _ _
  have m2 : w1.heap[w.heap.size + 1]? = some (.cells [.slice AG gs.length cg, .int .i64 vary].toArray 28 (0, 0)) := by rw [← hw1]; exact alloc2_at1 _ _ _
  have H1 := Lib.hid (And.intro hb1 (And.intro m1 m2))
  clear hb1 m1 m2
  unfold sTrace
  by_cases hck : gChk gs vary ps ts = 0
  rotate_left
  · rw [if_neg hck]
    generalize gChk gs vary ps ts = ck at hchk hck ⊢
    have HC1 := Lib.hid hchk
    have hce : (ck == 0) = false := by simpa using hck
    have hcn : (ck != 0) = true := by simpa using hck
    clear hchk hz hg hv hvg hck
    go_enter Tryz.func14, Tryz.ntmps14
    go_wp2_with (first
      | (go_at_call 28
         refine (HC1.out w1 H1.out.1).mono ?_
         rintro e w2 ⟨rfl, hB2⟩
         have H2 := Lib.hid (And.intro (H1.out.1.trans (hB2.mono H1.out.1.size)) (And.intro ((hB2.block _ (lt_of_heap H1.out.2.1)).trans H1.out.2.1) ((hB2.block _ (lt_of_heap H1.out.2.2)).trans H1.out.2.2)))
         have f2 : w2.cell? ⟨w.heap.size, 0, none⟩ = some (.slice AP ps.length cp) := cell_of_row w2 _ 0 _ _ _ H2.out.2.1
         clear hB2)
      | (show wpList _ _ _ (Oper.mk (some 9) _ _ _ _ _ :: _) _ _
         refine wpList_load_blk 25 (.tmp 3) rfl rfl rfl H1.out.2.1 [.slice AP ps.length cp, .slice AT ts.length ct] at0 rowSheetP ?_)
      | (show wpList _ _ _ (Oper.mk (some 10) _ _ _ _ _ :: _) _ _
         refine wpList_load_blk 28 (.tmp 4) rfl rfl rfl H1.out.2.2 [.slice AG gs.length cg, .int .i64 vary] at0 rowGradingP ?_))
    go_ret2
    exact ⟨none, 0, rfl, ownU_nil _ _, H2.out.1⟩
  rw [if_pos hck]
  rw [hck] at hchk
  have hk := grOk_of hck
  have HC1 := Lib.hid hchk
  clear hchk
  cases hok : okGvs l
  · rw [hok] at hvg
    rw [if_neg (by decide)]
    have HVG := Lib.hid hvg
    clear hvg hok hk hz hg hv hck
    go_enter Tryz.func14, Tryz.ntmps14
    go_wp2_with (first
      | (go_at_call 44
         refine (HVG.out w2 H2.out.1).mono ?_
         rintro e w3 ⟨rfl, hB3⟩
         have H3 := Lib.hid (H2.out.1.trans (hB3.mono H2.out.1.size))
         have f3 : w3.cell? ⟨w.heap.size, 0, none⟩ = some (.slice AP ps.length cp) := cell_of_row w3 _ 0 _ _ _ ((hB3.block _ (lt_of_heap H2.out.2.1)).trans H2.out.2.1)
         clear hB3)
      | (go_at_call 28
         refine (HC1.out w1 H1.out.1).mono ?_
         rintro e w2 ⟨rfl, hB2⟩
         have H2 := Lib.hid (And.intro (H1.out.1.trans (hB2.mono H1.out.1.size)) (And.intro ((hB2.block _ (lt_of_heap H1.out.2.1)).trans H1.out.2.1) ((hB2.block _ (lt_of_heap H1.out.2.2)).trans H1.out.2.2)))
         have f2 : w2.cell? ⟨w.heap.size, 0, none⟩ = some (.slice AP ps.length cp) := cell_of_row w2 _ 0 _ _ _ H2.out.2.1
         clear hB2)
      | (show wpList _ _ _ (Oper.mk (some 9) _ _ _ _ _ :: _) _ _
         refine wpList_load_blk 25 (.tmp 3) rfl rfl rfl H1.out.2.1 [.slice AP ps.length cp, .slice AT ts.length ct] at0 rowSheetP ?_)
      | (show wpList _ _ _ (Oper.mk (some 10) _ _ _ _ _ :: _) _ _
         refine wpList_load_blk 28 (.tmp 4) rfl rfl rfl H1.out.2.2 [.slice AG gs.length cg, .int .i64 vary] at0 rowGradingP ?_))
    go_ret2
    exact ⟨none, 0, rfl, ownU_nil _ _, H3.out⟩
  · rw [hok] at hvg
    rw [if_pos rfl]
    have HVG := Lib.hid hvg
    have htr := fun (W : World) (hW : Below w.heap.size w W) => gtTraced_any l ps AP cp AL cl B W (Nat.le_trans hB hW.size) (hz.p.below (hW.mono hB)) (hv.below (hW.mono hB)) hl (by have := hk.p12; omega) (fun p hp => okPol_og (hk.po p hp).2)
    unfold TracePost at htr
    generalize traceL l ps = L at htr ⊢
    have HTR := Lib.hid htr
    clear hvg hok hk hz hg hv hck htr
    go_enter Tryz.func14, Tryz.ntmps14
    go_wp2_with (first
      | (go_at_call 45
         refine (HTR.out w3 H3.out).mono ?_
         rintro e w4 ⟨A4, c4, rfl, hO4, hB4⟩
         have H4 := Lib.hid (And.intro hO4 (H3.out.trans (hB4.mono H3.out.size)))
         have HS4 := Lib.hid H3.out.size
         clear hB4 hO4)
      | (go_at_call 44
         refine (HVG.out w2 H2.out.1).mono ?_
         rintro e w3 ⟨rfl, hB3⟩
         have H3 := Lib.hid (H2.out.1.trans (hB3.mono H2.out.1.size))
         have f3 : w3.cell? ⟨w.heap.size, 0, none⟩ = some (.slice AP ps.length cp) := cell_of_row w3 _ 0 _ _ _ ((hB3.block _ (lt_of_heap H2.out.2.1)).trans H2.out.2.1)
         clear hB3)
      | (go_at_call 28
         refine (HC1.out w1 H1.out.1).mono ?_
         rintro e w2 ⟨rfl, hB2⟩
         have H2 := Lib.hid (And.intro (H1.out.1.trans (hB2.mono H1.out.1.size)) (And.intro ((hB2.block _ (lt_of_heap H1.out.2.1)).trans H1.out.2.1) ((hB2.block _ (lt_of_heap H1.out.2.2)).trans H1.out.2.2)))
         have f2 : w2.cell? ⟨w.heap.size, 0, none⟩ = some (.slice AP ps.length cp) := cell_of_row w2 _ 0 _ _ _ H2.out.2.1
         clear hB2)
      | (show wpList _ _ _ (Oper.mk (some 9) _ _ _ _ _ :: _) _ _
         refine wpList_load_blk 25 (.tmp 3) rfl rfl rfl H1.out.2.1 [.slice AP ps.length cp, .slice AT ts.length ct] at0 rowSheetP ?_)
      | (show wpList _ _ _ (Oper.mk (some 10) _ _ _ _ _ :: _) _ _
         refine wpList_load_blk 28 (.tmp 4) rfl rfl rfl H1.out.2.2 [.slice AG gs.length cg, .int .i64 vary] at0 rowGradingP ?_))
    go_ret2
    exact ⟨A4, c4, rfl, ownU_weak H4.out.1 HS4.out, H4.out.2⟩

theorem gtSameKnown_any (L : List Int) (v1 v2 : Value) (b1 b2 : Nat) (w : World) (h1 : OwnU w b1 v1 L) (h2 : OwnU w b2 v2 L) :
    Calls Tryz.prog 18 #[v1, v2] w fun e w' => e = .returned (.bool true) ∧ w = w' := by
  obtain ⟨A1, c1, rfl⟩ := own_slice h1
  obtain ⟨A2, c2, rfl⟩ := own_slice h2
  have e1 := conv_u8 h1
  have e2 := conv_u8 h2
  clear h1 h2
  go_enter Tryz.func18, Tryz.ntmps18
  go_wp2
  go_ret
  exact ⟨rfl, rfl⟩

end Go.Proofs.YtpnnlmaipcjkmaaGreat

namespace Go.Proofs.YtpnnlmaipcjkmaaGreat
open Go.RowKit

def exPol (id shot : Int) : Pol := ⟨id, 7, 105, shot, 100, 80, 60, 10, 8, 8, 0, 0⟩
def exPs : List Pol := [exPol 1 102, exPol 2 102, exPol 3 103]
def exT4 : Ts := ⟨4, 1, 0, 135000, true⟩
def exT5 : Ts := ⟨5, 2, 0, 162000, false⟩
def exT6 : Ts := ⟨6, 2, 0, 118800, false⟩
def exTs : List Ts := [exT4, exT5]
def exGs : List Gd := [⟨2, 4, 20000, 60000, 20000, 60000, 20000, 60000⟩, ⟨3, 8, 40000, 90000, 40000, 90000, 40000, 90000⟩]
theorem own_lit {w : World} {base g : Nat} {e : TypeId} {size n : Nat} {cs : Array Value} {xs : List Value} (h : w.heap[g]? = some (.cells cs e (0, 0))) (hb : base ≤ g) (hc : cs = xs.toArray) (hl : xs.length = n * size) (hn : n ≤ maxLen) : w.ownsRow base e size (.slice (some ⟨g, 0, none⟩) n n) n xs := by
  subst hc
  exact ⟨hl, .inr ⟨g, n, xs.toArray, rfl, hb, h, Nat.le_refl _, hn, by simp [hl], by simp [← hl]⟩⟩

theorem exSpan_any (a b : Int) (w : World) : Calls Tryz.prog 24 #[.int .i64 a, .int .i64 b] w fun e w' => e = .returned (.agg (sp2 (a, b)).toArray) ∧ Below w.heap.size w w' := by
  unfold sp2
  go_enter Tryz.func24, Tryz.ntmps24
  go_wp2
  refine bodyPost_ret (v := .agg #[.int .i64 a, .int .i64 b]) (by simp [results, Tryz.results24, go_sem]) rfl ⟨rfl, ?_⟩
  exact (Below.refl _ _).alloc (Nat.le_refl _) _

set_option maxRecDepth 100000 in
theorem exPole_any (id shot : Int) (w : World) : Calls Tryz.prog 53 #[.int .i64 id, .int .i64 shot] w fun e w' => e = .returned (.agg (pcl (exPol id shot)).toArray) ∧ Below w.heap.size w w' := by
  unfold pcl exPol
  go_enter Tryz.func53, Tryz.ntmps53
  go_wp2
  refine bodyPost_ret (v := .agg #[.int .i64 id, .int .i64 7, .int .i64 105, .int .i64 shot, .int .i64 100, .int .i64 80, .int .i64 60, .int .i64 10, .int .i64 8, .int .i64 8, .int .i64 0, .int .i64 0]) (by simp [results, Tryz.results53, go_sem]) rfl ⟨rfl, ?_⟩
  exact (Below.refl _ _).alloc (Nat.le_refl _) _
def st6c (a b : Int) : List Value := [.int .i64 a, .int .i64 b, .int .i64 a, .int .i64 b, .int .i64 a, .int .i64 b]
set_option maxRecDepth 100000 in
theorem exAll_any (a b : Int) (w : World) : Calls Tryz.prog 52 #[.int .i64 a, .int .i64 b] w fun e w' => e = .returned (.agg (st6c a b).toArray) ∧ Below w.heap.size w w' := by
  obtain ⟨w1, hw1⟩ : ∃ w1, w.alloc (.cells #[.int .i64 0, .int .i64 0, .int .i64 0, .int .i64 0, .int .i64 0, .int .i64 0] 51) = w1 := ⟨_, rfl⟩
  have m1 : w1.heap[w.heap.size]? = some (.cells [Value.int .i64 0, .int .i64 0, .int .i64 0, .int .i64 0, .int .i64 0, .int .i64 0].toArray 51 (0, 0)) := by rw [← hw1]; exact alloc_at0 _ _
  have hb1 : Below w.heap.size w w1 := by rw [← hw1]; exact grow1 _ _
  have H1 := Lib.hid (And.intro hb1 m1)
  clear m1 hb1
  unfold st6c
  have hs := fun W => exSpan_any a b W
  unfold sp2 at hs
  have HS := Lib.hid hs
  clear hs
  go_enter Tryz.func52, Tryz.ntmps52
  go_wp2_with (first
    | (show wpList _ _ _ (Oper.mk none (Op.store _ (Operand.tmp 4) (Operand.tmp 14)) _ _ _ _ :: _) _ _
       refine wpList_store_blk 51 (.tmp 4) (.tmp 14) (cs := [.int .i64 a, .int .i64 b, .int .i64 a, .int .i64 b, .int .i64 a, .int .i64 b]) rfl rfl rfl rfl rfl H4.out.2 (Nat.le_of_ble_eq_true rfl) (by intro v hv; simp only [List.mem_cons, List.not_mem_nil, or_false] at hv; rcases hv with rfl | rfl | rfl | rfl | rfl | rfl <;> rfl) rowSpans3 ?_
       intro w9 hP hM
       rw [splice_whole (by rfl)] at hM
       have H9 := Lib.hid (And.intro (H4.out.1.trans (hP.below (Nat.le_refl _))) hM)
       clear hP hM)
    | (go_at_call 24
       refine (HS.out w3).mono ?_
       rintro e w4 ⟨rfl, hB⟩
       have H4 := Lib.hid (And.intro (H3.out.1.trans (hB.mono H3.out.1.size)) ((hB.block _ (lt_of_heap H3.out.2)).trans H3.out.2))
       clear hB)
    | (go_at_call 24
       refine (HS.out w2).mono ?_
       rintro e w3 ⟨rfl, hB⟩
       have H3 := Lib.hid (And.intro (H2.out.1.trans (hB.mono H2.out.1.size)) ((hB.block _ (lt_of_heap H2.out.2)).trans H2.out.2))
       clear hB)
    | (go_at_call 24
       refine (HS.out w1).mono ?_
       rintro e w2 ⟨rfl, hB⟩
       have H2 := Lib.hid (And.intro (H1.out.1.trans (hB.mono H1.out.1.size)) ((hB.block _ (lt_of_heap H1.out.2)).trans H1.out.2))
       clear hB))
  refine bodyPost_ret (v := .agg #[.int .i64 a, .int .i64 b, .int .i64 a, .int .i64 b, .int .i64 a, .int .i64 b]) (results_cell1 (cs := [.int .i64 a, .int .i64 b, .int .i64 a, .int .i64 b, .int .i64 a, .int .i64 b]) Tryz.results52 rfl H9.out.2 rowSpans3) rfl ⟨rfl, H9.out.1⟩

set_option maxRecDepth 100000 in
set_option maxHeartbeats 4000000 in
theorem exSheet_any (w : World) : Calls Tryz.prog 23 #[] w (TwinPost w exPs exTs) := by
  obtain ⟨w1, hw1⟩ : ∃ w1, w.alloc (.cells #[.slice none 0 0, .slice none 0 0] 25) = w1 := ⟨_, rfl⟩
  have m1 : w1.heap[w.heap.size]? = some (.cells [Value.slice none 0 0, .slice none 0 0].toArray 25 (0, 0)) := by rw [← hw1]; exact alloc_at0 _ _
  have hb1 : Below w.heap.size w w1 := by rw [← hw1]; exact grow1 _ _
  have H1 := Lib.hid (And.intro hb1 m1)
  clear m1 hb1
  unfold TwinPost
  have hp := fun (i s : Int) W => exPole_any i s W
  unfold pcl exPol at hp
  have HP := Lib.hid hp
  clear hp
  go_enter Tryz.func23, Tryz.ntmps23
  go_wp2_with (first
    | (show wpList _ _ _ (Oper.mk none (Op.store _ (Operand.tmp 0) (Operand.tmp 12)) _ _ _ _ :: _) _ _
       obtain ⟨w5, hw5⟩ : ∃ w5, (w4.alloc (.cells #[.int .i64 1, .int .i64 7, .int .i64 105, .int .i64 102, .int .i64 100, .int .i64 80, .int .i64 60, .int .i64 10, .int .i64 8, .int .i64 8, .int .i64 0, .int .i64 0, .int .i64 2, .int .i64 7, .int .i64 105, .int .i64 102, .int .i64 100, .int .i64 80, .int .i64 60, .int .i64 10, .int .i64 8, .int .i64 8, .int .i64 0, .int .i64 0, .int .i64 3, .int .i64 7, .int .i64 105, .int .i64 103, .int .i64 100, .int .i64 80, .int .i64 60, .int .i64 10, .int .i64 8, .int .i64 8, .int .i64 0, .int .i64 0] 56)).alloc (.cells #[.int .i64 4, .int .i64 1, .int .i64 0, .int .i64 135000, .bool true, .int .i64 5, .int .i64 2, .int .i64 0, .int .i64 162000, .bool false] 58) = w5 := ⟨_, rfl⟩
       have hb5 : Below w4.heap.size w4 w5 := by rw [← hw5]; exact grow2 _ _ _
       have mp : w5.heap[w4.heap.size]? = some (.cells #[.int .i64 1, .int .i64 7, .int .i64 105, .int .i64 102, .int .i64 100, .int .i64 80, .int .i64 60, .int .i64 10, .int .i64 8, .int .i64 8, .int .i64 0, .int .i64 0, .int .i64 2, .int .i64 7, .int .i64 105, .int .i64 102, .int .i64 100, .int .i64 80, .int .i64 60, .int .i64 10, .int .i64 8, .int .i64 8, .int .i64 0, .int .i64 0, .int .i64 3, .int .i64 7, .int .i64 105, .int .i64 103, .int .i64 100, .int .i64 80, .int .i64 60, .int .i64 10, .int .i64 8, .int .i64 8, .int .i64 0, .int .i64 0] 56 (0, 0)) := by rw [← hw5]; exact alloc2_at0 _ _ _
       have mt : w5.heap[w4.heap.size + 1]? = some (.cells #[.int .i64 4, .int .i64 1, .int .i64 0, .int .i64 135000, .bool true, .int .i64 5, .int .i64 2, .int .i64 0, .int .i64 162000, .bool false] 58 (0, 0)) := by rw [← hw5]; exact alloc2_at1 _ _ _
       have ms := (hb5.block _ (lt_of_heap H4.out.2)).trans H4.out.2
       rw [hw5]
       refine wpList_store_blk 25 (.tmp 0) (.tmp 12) (cs := [.slice (some ⟨w4.heap.size, 0, none⟩) 3 3, .slice (some ⟨w4.heap.size + 1, 0, none⟩) 2 2]) rfl rfl rfl rfl rfl ms (Nat.le_of_ble_eq_true rfl) (by intro v hv; simp only [List.mem_cons, List.not_mem_nil, or_false] at hv; rcases hv with rfl | rfl <;> rfl) rowSheetP ?_
       intro w9 hP hM
       rw [splice_whole (by rfl)] at hM
       have hlt := lt_of_heap H4.out.2
       have H9 := Lib.hid (And.intro ((H4.out.1.trans (hb5.mono H4.out.1.size)).trans (hP.below (Nat.le_refl _))) (And.intro hM (And.intro ((hP.other _ (by omega)).trans mp) ((hP.other _ (by omega)).trans mt))))
       have HZ := Lib.hid H4.out.1.size
       clear hP hM hw5 hb5 mp mt ms hlt)
    | (go_at_call 53
       refine (HP.out 3 103 w3).mono ?_
       rintro e w4 ⟨rfl, hB⟩
       have H4 := Lib.hid (And.intro (H3.out.1.trans (hB.mono H3.out.1.size)) ((hB.block _ (lt_of_heap H3.out.2)).trans H3.out.2))
       clear hB)
    | (go_at_call 53
       refine (HP.out 2 102 w2).mono ?_
       rintro e w3 ⟨rfl, hB⟩
       have H3 := Lib.hid (And.intro (H2.out.1.trans (hB.mono H2.out.1.size)) ((hB.block _ (lt_of_heap H2.out.2)).trans H2.out.2))
       clear hB)
    | (go_at_call 53
       refine (HP.out 1 102 w1).mono ?_
       rintro e w2 ⟨rfl, hB⟩
       have H2 := Lib.hid (And.intro (H1.out.1.trans (hB.mono H1.out.1.size)) ((hB.block _ (lt_of_heap H1.out.2)).trans H1.out.2))
       clear hB))
  refine bodyPost_ret (v := .agg #[.slice (some ⟨w4.heap.size, 0, none⟩) 3 3, .slice (some ⟨w4.heap.size + 1, 0, none⟩) 2 2]) (results_cell1 (cs := [.slice (some ⟨w4.heap.size, 0, none⟩) 3 3, .slice (some ⟨w4.heap.size + 1, 0, none⟩) 2 2]) Tryz.results23 rfl H9.out.2.1 rowSheetP) rfl ⟨_, _, rfl, ⟨own_lit H9.out.2.2.1 HZ.out rfl rfl (by decide), own_lit H9.out.2.2.2 (Nat.le_trans HZ.out (Nat.le_succ _)) rfl rfl (by decide)⟩, H9.out.1⟩

set_option maxRecDepth 100000 in
set_option maxHeartbeats 4000000 in
theorem exGrading_any (w : World) : Calls Tryz.prog 22 #[] w (TwinGPost w exGs 5000) := by
  obtain ⟨w1, hw1⟩ : ∃ w1, w.alloc (.cells #[.slice none 0 0, .int .i64 0] 28) = w1 := ⟨_, rfl⟩
  have m1 : w1.heap[w.heap.size]? = some (.cells [Value.slice none 0 0, .int .i64 0].toArray 28 (0, 0)) := by rw [← hw1]; exact alloc_at0 _ _
  have hb1 : Below w.heap.size w w1 := by rw [← hw1]; exact grow1 _ _
  have H1 := Lib.hid (And.intro hb1 m1)
  clear m1 hb1
  unfold TwinGPost
  have hp := fun (i s : Int) W => exAll_any i s W
  unfold st6c at hp
  have HP := Lib.hid hp
  clear hp
  go_enter Tryz.func22, Tryz.ntmps22
  go_wp2_with (first
    | (show wpList _ _ _ (Oper.mk none (Op.store _ (Operand.tmp 0) (Operand.tmp 6)) _ _ _ _ :: _) _ _
       obtain ⟨w5, hw5⟩ : ∃ w5, w3.alloc (.cells #[.int .i64 2, .int .i64 4, .int .i64 20000, .int .i64 60000, .int .i64 20000, .int .i64 60000, .int .i64 20000, .int .i64 60000, .int .i64 3, .int .i64 8, .int .i64 40000, .int .i64 90000, .int .i64 40000, .int .i64 90000, .int .i64 40000, .int .i64 90000] 53) = w5 := ⟨_, rfl⟩
       have hb5 : Below w3.heap.size w3 w5 := by rw [← hw5]; exact grow1 _ _
       have mp : w5.heap[w3.heap.size]? = some (.cells #[.int .i64 2, .int .i64 4, .int .i64 20000, .int .i64 60000, .int .i64 20000, .int .i64 60000, .int .i64 20000, .int .i64 60000, .int .i64 3, .int .i64 8, .int .i64 40000, .int .i64 90000, .int .i64 40000, .int .i64 90000, .int .i64 40000, .int .i64 90000] 53 (0, 0)) := by rw [← hw5]; exact alloc_at0 _ _
       have ms := (hb5.block _ (lt_of_heap H3.out.2)).trans H3.out.2
       rw [hw5]
       refine wpList_store_blk 28 (.tmp 0) (.tmp 6) (cs := [.slice (some ⟨w3.heap.size, 0, none⟩) 2 2, .int .i64 5000]) rfl rfl rfl rfl rfl ms (Nat.le_of_ble_eq_true rfl) (by intro v hv; simp only [List.mem_cons, List.not_mem_nil, or_false] at hv; rcases hv with rfl | rfl <;> rfl) rowGradingP ?_
       intro w9 hP hM
       rw [splice_whole (by rfl)] at hM
       have hlt := lt_of_heap H3.out.2
       have H9 := Lib.hid (And.intro ((H3.out.1.trans (hb5.mono H3.out.1.size)).trans (hP.below (Nat.le_refl _))) (And.intro hM ((hP.other _ (by omega)).trans mp)))
       have HZ := Lib.hid H3.out.1.size
       clear hP hM hw5 hb5 mp ms hlt)
    | (go_at_call 52
       refine (HP.out 40000 90000 w2).mono ?_
       rintro e w3 ⟨rfl, hB⟩
       have H3 := Lib.hid (And.intro (H2.out.1.trans (hB.mono H2.out.1.size)) ((hB.block _ (lt_of_heap H2.out.2)).trans H2.out.2))
       clear hB)
    | (go_at_call 52
       refine (HP.out 20000 60000 w1).mono ?_
       rintro e w2 ⟨rfl, hB⟩
       have H2 := Lib.hid (And.intro (H1.out.1.trans (hB.mono H1.out.1.size)) ((hB.block _ (lt_of_heap H1.out.2)).trans H1.out.2))
       clear hB))
  refine bodyPost_ret (v := .agg #[.slice (some ⟨w3.heap.size, 0, none⟩) 2 2, .int .i64 5000]) (results_cell1 (cs := [.slice (some ⟨w3.heap.size, 0, none⟩) 2 2, .int .i64 5000]) Tryz.results22 rfl H9.out.2.1 rowGradingP) rfl ⟨_, rfl, own_lit H9.out.2.2 HZ.out rfl rfl (by decide), H9.out.1⟩

def exGr : Gr := ⟨7, ⟨0, 0, 0, 1, 3, 0⟩, 104, [0, 2, 1, 0], [(0, 3)]⟩
def BookPost (w : World) (e : Ending) (w' : World) : Prop := ∃ b1 b2, e = .returned (.agg (gvl ⟨exGr, some ⟨b1, 0, none⟩, 4, some ⟨b2, 0, none⟩, 1⟩).toArray) ∧ GrAt w' w'.heap.size exGr (some ⟨b1, 0, none⟩) 4 (some ⟨b2, 0, none⟩) 1 ∧ Below w.heap.size w w'
set_option maxRecDepth 100000 in
set_option maxHeartbeats 4000000 in
theorem exBook_any (w : World) : Calls Tryz.prog 27 #[] w (BookPost w) := by
  obtain ⟨w1, hw1⟩ : ∃ w1, w.alloc (.cells #[.int .i64 0, .int .i64 0, .int .i64 0, .int .i64 0, .int .i64 0, .int .i64 0, .int .i64 0, .int .i64 0, .slice none 0 0, .slice none 0 0] 74) = w1 := ⟨_, rfl⟩
  have m1 : w1.heap[w.heap.size]? = some (.cells (gvl gv0).toArray 74 (0, 0)) := by rw [← hw1]; exact alloc_at0 _ _
  have hb1 : Below w.heap.size w w1 := by rw [← hw1]; exact grow1 _ _
  obtain ⟨w2, hw2⟩ : ∃ w2, (w1.alloc (.cells #[.int .i64 0, .int .i64 2, .int .i64 1, .int .i64 0] 3)).alloc (.cells #[.int .i64 0, .int .i64 3] 130) = w2 := ⟨_, rfl⟩
  have hb2 : Below w1.heap.size w1 w2 := by rw [← hw2]; exact grow2 _ _ _
  have ma : w2.heap[w1.heap.size]? = some (.cells #[.int .i64 0, .int .i64 2, .int .i64 1, .int .i64 0] 3 (0, 0)) := by rw [← hw2]; exact alloc2_at0 _ _ _
  have mb : w2.heap[w1.heap.size + 1]? = some (.cells #[.int .i64 0, .int .i64 3] 130 (0, 0)) := by rw [← hw2]; exact alloc2_at1 _ _ _
  have H2 := Lib.hid (And.intro (hb1.trans (hb2.mono hb1.size)) (And.intro ((hb2.block _ (lt_of_heap m1)).trans m1) (And.intro ma mb)))
  have hlt := lt_of_heap m1
  have HL := Lib.hid hlt
  clear m1 hb1 hb2 ma mb hlt
  unfold BookPost
  go_enter Tryz.func27, Tryz.ntmps27
  go_wp2_with
    (show wpList _ _ _ (Oper.mk none (Op.store _ (Operand.tmp 0) (Operand.tmp 5)) _ _ _ _ :: _) _ _
     refine wpList_store_blk 74 (.tmp 0) (.tmp 5) (cs := gvl ⟨exGr, some ⟨w1.heap.size, 0, none⟩, 4, some ⟨w1.heap.size + 1, 0, none⟩, 1⟩) rfl rfl rfl rfl rfl H2.out.2.1 (Nat.le_of_ble_eq_true rfl) (fun v hv => gvl_one [_] v (by simpa using hv)) rowGroveA ?_
     intro w9 hP hM
     rw [splice_whole (by rfl)] at hM
     have hlt := HL.out
     have H9 := Lib.hid (And.intro (H2.out.1.trans (hP.below (Nat.le_refl _))) (And.intro hM (And.intro ((hP.other _ (by omega)).trans H2.out.2.2.1) ((hP.other _ (by omega)).trans H2.out.2.2.2))))
     clear hP hM hlt)
  refine bodyPost_ret (v := .agg (gvl ⟨exGr, some ⟨w1.heap.size, 0, none⟩, 4, some ⟨w1.heap.size + 1, 0, none⟩, 1⟩).toArray) (results_cell1 (cs := gvl ⟨exGr, some ⟨w1.heap.size, 0, none⟩, 4, some ⟨w1.heap.size + 1, 0, none⟩, 1⟩) Tryz.results27 rfl H9.out.2.1 rowGroveA) rfl
    ⟨w1.heap.size, w1.heap.size + 1, rfl, ⟨ints_lit [0, 2, 1, 0] H9.out.2.2.1 rfl, (vals_mk5 (L := pairs [(0, 3)]) H9.out.2.2.2).mono (lt_of_heap H9.out.2.2.2), by decide, by decide, by decide, by decide⟩, H9.out.1⟩

end Go.Proofs.YtpnnlmaipcjkmaaGreat
