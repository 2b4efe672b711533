/-
  A test more of a sheet of its own: its strength, and whether there is a truth (a closure of the law GradeEnds).
-/
import Derived.Test.YtddpebnmjfmgdaaGreatQC39
import Derived.Test.YtddpebnmjfmgdaaGreatQC33
set_option linter.all false
namespace Go.Proofs.YtddpebnmjfmgdaaGreat
open Go.RowKit

theorem results_cell_tmp2 {P : Program} {fn : Func} {tmps : Array Value} {w : World} {t s s2 b : Nat} {ty tt : TypeId} {cs : List Value} {v v2 : Value} {fr : Nat × Nat} (hr : fn.results = #[.cell t ty, .tmp s, .tmp s2]) (ht : tmps.getD t undef = .pointer (some ⟨b, 0, none⟩))
    (hb : w.heap[b]? = some (.cells cs.toArray tt fr)) (hty : RowTy P ty cs.length) (hs : tmps.getD s undef = v) (hs2 : tmps.getD s2 undef = v2) : (results fn tmps).run P w = .ok (.tuple #[.agg cs.toArray, v, v2]) w := by
  obtain ⟨⟨d, hu, hd⟩, hi⟩ := hty
  have hl := run_loadVar_mid (P := P) w b 0 ty cs d (fun j v hv => by
    rw [Nat.zero_add, cell_of_row w b j _ _ _ hb, List.getElem?_toArray]; exact hv) hu hd hi
  rw [Array.getD_eq_getD_getElem?] at ht hs hs2
  unfold results
  rw [hr]
  simp [ht, asAddr, hl, hs, hs2]

set_option maxRecDepth 100000 in
set_option maxHeartbeats 16000000 in
theorem gtWith_any (ps : List Pol) (ts : List Ts) (gs : List Gd) (vary : Int) (held : Bool) (nx id f : Int) (k : Nat) (Z : Int × Int) (ee : Int) (c : List Int) (AP : Option Addr) (cp : Nat) (AT : Option Addr) (ct : Nat) (AG : Option Addr) (cg : Nat) (bs bn bp bk bf bg B : Nat) (w : World) (hB : B ≤ w.heap.size)
    (hz : ShAt w B ps ts AP AT) (hg : GdAt w B gs AG) (hlp : ps.length ≤ 16) (hlt : ts.length ≤ 26)
    (hbs : w.heap[bs]? = some (.cells #[.slice AP ps.length cp, .slice AT ts.length ct] 25 (0, 0))) (hbg : w.heap[bg]? = some (.cells #[.slice AG gs.length cg, .int .i64 vary] 28 (0, 0)))
    (hbn : w.heap[bn]? = some (.cells #[.int .i64 nx] 3 (0, 0))) (hbp : w.heap[bp]? = some (.cells #[.int .i64 id] 3 (0, 0))) (hbk : w.heap[bk]? = some (.cells #[.int .i64 (k : Int)] 3 (0, 0))) (hbf : w.heap[bf]? = some (.cells #[.int .i64 f] 3 (0, 0)))
    (hS : sStr gs vary ps (ts ++ [(⟨nx, id, k, f, held⟩ : Ts)]) id k = (Z, ee)) (hC : sClash gs vary ps (ts ++ [(⟨nx, id, k, f, held⟩ : Ts)]) = (c, 0)) (he : (ee = 0 ∧ c = []) ∨ (ee = 52 ∧ c ≠ [])) :
    Calls Tryz.prog 35 #[.bool held, .pointer (some ⟨bs, 0, none⟩), .pointer (some ⟨bn, 0, none⟩), .pointer (some ⟨bp, 0, none⟩), .pointer (some ⟨bk, 0, none⟩), .pointer (some ⟨bf, 0, none⟩), .pointer (some ⟨bg, 0, none⟩)] w fun e w' =>
      e = .returned (.tuple #[.agg (sp2 Z).toArray, .bool (ee == 0), .bool true]) ∧ Below w.heap.size w w' := by
  obtain ⟨i2, hi2, hz2, hsz2, hby2⟩ := info_parts infoTest5
  have HI := Lib.hid (And.intro hi2 (And.intro hz2 (And.intro hsz2 hby2)))
  obtain ⟨w1, hw1⟩ : ∃ w1, w.alloc (.cells #[.int .i64 0, .int .i64 0] 50) = w1 := ⟨_, rfl⟩
  have hb1 : Below w.heap.size w w1 := by rw [← hw1]; exact grow1 _ _
  have m1 : w1.heap[w.heap.size]? = some (.cells [Value.int .i64 0, .int .i64 0].toArray 50 (0, 0)) := by rw [← hw1]; exact alloc_at0 _ _
  have htw := rfTwin_any ps ts AP cp AT ct B w1 (Nat.le_trans hB hb1.size) (hz.below (hb1.mono hB)) (by omega) (by omega)
  unfold TwinPost at htw
  have HTW := Lib.hid htw
  have hbx := fun (W : World) (hW : Below w1.heap.size w1 W) =>
    have hb := hb1.trans (hW.mono hb1.size)
    And.intro ((hb.block _ (lt_of_heap hbs)).trans hbs) (And.intro ((hb.block _ (lt_of_heap hbg)).trans hbg) (And.intro ((hW.block _ (lt_of_heap m1)).trans m1) (And.intro (cell_of_row W bn 0 _ _ _ ((hb.block _ (lt_of_heap hbn)).trans hbn)) (And.intro (cell_of_row W bp 0 _ _ _ ((hb.block _ (lt_of_heap hbp)).trans hbp)) (And.intro (cell_of_row W bk 0 _ _ _ ((hb.block _ (lt_of_heap hbk)).trans hbk)) (cell_of_row W bf 0 _ _ _ ((hb.block _ (lt_of_heap hbf)).trans hbf)))))))
  simp only [List.getElem?_toArray, List.getElem?_cons_zero] at hbx
  have HBX := Lib.hid hbx
  have H1 := Lib.hid (And.intro hb1 m1)
  have HZ := Lib.hid (And.intro (And.intro hB hz) hg)
  have HL := Lib.hid (And.intro hlp hlt)
  have HS := Lib.hid (And.intro hS hC)
  clear htw hbx hbs hbg hbn hbp hbk hbf hb1 m1 hz hg hB hlp hlt hS hC hi2 hz2 hsz2 hby2
  rcases he with ⟨rfl, rfl⟩ | ⟨rfl, hc⟩
  · go_enter Tryz.func35, Tryz.ntmps35
    go_wp2_with (first
      | (show wpList _ _ _ (Oper.mk none (Op.store _ (Operand.tmp 8) (Operand.tmp 43)) _ _ _ _ :: _) _ _
         refine wpList_store_blk 50 (.tmp 8) (.tmp 43) rfl rfl rfl rfl (cs := sp2 Z) rfl (HBX.out w11 (H8.out.1.trans (H11.out.1.mono H8.out.1.size))).2.2.1 (Nat.le_of_ble_eq_true rfl) (sp2_one _) rowSpan5 ?_
         intro w12 hP hM
         rw [splice_whole (by rfl)] at hM
         have H12 := Lib.hid (And.intro (((H1.out.1.trans (H8.out.1.mono H1.out.1.size)).trans (H11.out.1.mono (Nat.le_trans H1.out.1.size H8.out.1.size))).trans (hP.below (Nat.le_refl _))) hM)
         clear hP hM)
      | (show wpList _ _ _ (Oper.mk (some 43) _ _ _ _ _ :: _) _ _
         refine wpList_load_blk 50 (.tmp 12) rfl rfl rfl H11.out.2 (sp2 Z) at0 rowSpan5 ?_)
      | (go_at_call 33
         refine (HCL.out w10 H10.out.1).mono ?_
         rintro e w11 ⟨A5, c5, rfl, -, hB11⟩
         have H11 := Lib.hid (And.intro (H10.out.1.trans (hB11.mono H10.out.1.size)) ((hB11.block _ (lt_of_heap H10.out.2)).trans H10.out.2))
         clear hB11)
      | (show wpList _ _ _ (Oper.mk (some 38) _ _ _ _ _ :: _) _ _
         refine wpList_load_blk 25 (.tmp 11) rfl rfl rfl ((H10.out.1.block _ (lt_of_heap H8.out.2)).trans H8.out.2) [.slice A1 ps.length c1, .slice A4 (ts.length + 1) c4] at0 rowSheetP ?_)
      | (show wpList _ _ _ (Oper.mk (some 39) _ _ _ _ _ :: _) _ _
         refine wpList_load_blk 28 (.tmp 6) rfl rfl rfl (HBX.out w10 (H8.out.1.trans (H10.out.1.mono H8.out.1.size))).2.1 [.slice AG gs.length cg, .int .i64 vary] at0 rowGradingP ?_)
      | (show wpList _ _ _ (Oper.mk none (Op.store _ (Operand.tmp 12) (Operand.tmp 35)) _ _ _ _ :: _) _ _
         have hm : (w9.alloc (.cells #[.int .i64 0, .int .i64 0] 50)).heap[w9.heap.size]? = some (.cells [Value.int .i64 0, .int .i64 0].toArray 50 (0, 0)) := alloc_at0 _ _
         refine wpList_store_blk 50 (.tmp 12) (.tmp 35) rfl rfl rfl rfl (cs := sp2 Z) rfl hm (Nat.le_of_ble_eq_true rfl) (sp2_one _) rowSpan5 ?_
         intro w10 hP hM
         rw [splice_whole (by rfl)] at hM
         have hb : Below w9.heap.size w9 w10 := (grow1 w9 _).trans (hP.below (Nat.le_refl _))
         have H10 := Lib.hid (And.intro (H9.out.trans (hb.mono H9.out.size)) hM)
         clear hP hM hm hb)
      | (go_at_call 26
         refine (HST.out w8 (Below.refl _ _)).mono ?_
         rintro e w9 ⟨rfl, hB9⟩
         have H9 := Lib.hid hB9
         clear hB9)
      | (show wpList _ _ _ (Oper.mk (some 30) _ _ _ _ _ :: _) _ _
         refine wpList_load_blk 25 (.tmp 11) rfl rfl rfl (((Below.refl w8.heap.size w8).block _ (lt_of_heap H8.out.2)).trans H8.out.2) [.slice A1 ps.length c1, .slice A4 (ts.length + 1) c4] at0 rowSheetP ?_)
      | (show wpList _ _ _ (Oper.mk (some 31) _ _ _ _ _ :: _) _ _
         refine wpList_load_blk 28 (.tmp 6) rfl rfl rfl (HBX.out w8 H8.out.1).2.1 [.slice AG gs.length cg, .int .i64 vary] at0 rowGradingP ?_)
      | (show wpList _ _ _ (Oper.mk none (Op.store _ (Operand.tmp 28) (Operand.tmp 27)) _ _ _ _ :: _) _ _
         refine wpList_store_v5 23 (.tmp 28) (.tmp 27) (v := .slice A4 (ts.length + 1) c4) rfl rfl rfl rfl rfl rfl rfl (L := [.slice A1 ps.length c1, .slice A2 ts.length c2]) H7.out.2.2.2.1 (Nat.le_of_ble_eq_true rfl) infoTL5 ?_
         intro w8 hP hM
         have hX := H7.out.2.2.2.1
         have hb8 : Below w1.heap.size w1 w8 := H7.out.1.trans (hP.below H7.out.2.2.2.2)
         have o1 := own_put H7.out.2.1 hP hX (by decide)
         have o2 := own_put H7.out.2.2.1 hP hX (by decide)
         have hlen : (ts ++ [(⟨nx, id, k, f, held⟩ : Ts)]).length = ts.length + 1 := by simp
         have hsh : ShAt w8 w8.heap.size ps (ts ++ [(⟨nx, id, k, f, held⟩ : Ts)]) A1 A4 := ⟨Vals.own o1, Vals.own o2, by have := HL.out; omega, by have := HL.out; omega⟩
         have hgd : GdAt w8 w8.heap.size gs AG := (HZ.out.2.below ((H1.out.1.trans (hb8.mono H1.out.1.size)).mono HZ.out.1.1)).mono (Nat.le_trans HZ.out.1.1 (Nat.le_trans H1.out.1.size hb8.size))
         have hst := fun (W : World) (hW : Below w8.heap.size w8 W) => grStrength_any ps (ts ++ [(⟨nx, id, k, f, held⟩ : Ts)]) gs vary id k A1 c1 A4 c4 AG cg w8.heap.size W hW.size (hsh.below hW) (hgd.below hW)
         have hcl := fun (W : World) (hW : Below w8.heap.size w8 W) => grClashP_any ps (ts ++ [(⟨nx, id, k, f, held⟩ : Ts)]) gs vary A1 c1 A4 c4 AG cg w8.heap.size W hW.size (hsh.below hW) (hgd.below hW)
         unfold ClashPost at hcl
         rw [HS.out.2, hlen] at hcl
         rw [HS.out.1, hlen] at hst
         have hM' : w8.heap[w2.heap.size]? = some (.cells [.slice A1 ps.length c1, .slice A4 (ts.length + 1) c4].toArray 25 (0, 0)) := hM
         obtain ⟨-, -, -, f2, f3, f4, f5⟩ := HBX.out w8 hb8
         have HST := Lib.hid hst
         have HCL := Lib.hid hcl
         have H8 := Lib.hid (And.intro hb8 hM')
         clear hP hM hM' hX hb8 o1 o2 hlen hsh hgd hst hcl)
      | (show wpList _ _ _ (Oper.mk (some 27) _ _ _ _ _ :: _) _ _
         obtain ⟨w6, hw6⟩ : ∃ w6, w3.alloc (.cells #[.int .i64 nx, .int .i64 id, .int .i64 k, .int .i64 f, .bool held] 58) = w6 := ⟨_, rfl⟩
         have g6 : Grows w3 w6 := by rw [← hw6]; exact grow1 _ _
         have m6 : w6.heap[w3.heap.size]? = some (.cells (tcl (⟨nx, id, k, f, held⟩ : Ts)).toArray 58 (0, 0)) := by rw [← hw6]; exact alloc_at0 _ _
         have hI6 := H3.out.grows g6
         rw [hw6]
         refine wpl_app rfl (.tmp 19) (.tmp 26) 23 rfl w1.heap.size 58 i2 _ 5 40 Tryz.underlying23 HI.out.1 HI.out.2.1 HI.out.2.2.1 HI.out.2.2.2 rfl (by decide) _ _ _ rfl hI6.o2 _ _ _ _ _ rfl (vals_mk5 m6) rfl (fun v hv => tcl_one [(⟨nx, id, k, f, held⟩ : Ts)] v (by simpa using hv)) (by have := HL.out; simp only [maxLen]; omega) (by have := HL.out; omega) hI6.bel.size ?_
         intro v' w7 ho hgr hob
         have ho' : w7.ownsRow w1.heap.size 58 5 v' (ts.length + 1) ((ts ++ [(⟨nx, id, k, f, held⟩ : Ts)]).flatMap tcl) := by rw [List.flatMap_append]; simpa using ho
         obtain ⟨A4, c4, rfl⟩ := own_slice ho'
         have hX7 := (hgr.block _ (lt_of_heap hI6.box) (own_other hI6.o2 hI6.box (by decide))).trans hI6.box
         have hb := hI6.bel.grown hgr hI6.bel.size (fun q e => by obtain ⟨_, _, hq⟩ := own_bt hI6.o2 e; exact hq)
         have H7 := Lib.hid (And.intro hb (And.intro (own_besides hI6.o1 hI6.o2 (by decide) hgr) (And.intro ho' (And.intro hX7 hI6.le))))
         clear g6 m6 hI6 ho ho' hgr hob hX7 hb hw6)
      | (show wpList _ _ _ (Oper.mk none (Op.store _ (Operand.tmp 11) (Operand.tmp 17)) _ _ _ _ :: _) _ _
         have hm : (w2.alloc (.cells #[.slice none 0 0, .slice none 0 0] 25)).heap[w2.heap.size]? = some (.cells [Value.slice none 0 0, .slice none 0 0].toArray 25 (0, 0)) := alloc_at0 _ _
         refine wpList_store_blk 25 (.tmp 11) (.tmp 17) (cs := [.slice A1 ps.length c1, .slice A2 ts.length c2]) rfl rfl rfl rfl rfl hm (Nat.le_of_ble_eq_true rfl) (by intro v hv; simp only [List.mem_cons, List.not_mem_nil, or_false] at hv; rcases hv with rfl | rfl <;> rfl) rowSheetP ?_
         intro w3 hP hM
         rw [splice_whole (by rfl)] at hM
         have hb := (grow1 w2 _).trans (hP.below (Nat.le_refl _))
         have hO := H2.out.2.grows (grow1 w2 (.cells #[.slice none 0 0, .slice none 0 0] 25))
         have hI : InC w1 w2.heap.size ps ts A1 c1 A2 c2 w3 := ⟨H2.out.1.trans (hb.mono H2.out.1.size), own_put hO.1 hP hm (by decide), own_put hO.2 hP hm (by decide), hM, H2.out.1.size⟩
         have f1 : w3.cell? ⟨w2.heap.size, 1, none⟩ = some (.slice A2 ts.length c2) := cell_of_row w3 _ 1 _ _ _ hI.box
         obtain ⟨-, -, -, f2, f3, f4, f5⟩ := HBX.out w3 hI.bel
         have H3 := Lib.hid hI
         clear hP hM hm hb hO hI)
      | (go_at_call 13
         refine HTW.out.mono ?_
         rintro e w2 ⟨v1, v2, rfl, ho, hB2⟩
         obtain ⟨A1, c1, rfl⟩ := own_slice ho.1
         obtain ⟨A2, c2, rfl⟩ := own_slice ho.2
         have H2 := Lib.hid (And.intro hB2 ho)
         clear hB2 ho)
      | (show wpList _ _ _ (Oper.mk (some 16) _ _ _ _ _ :: _) _ _
         refine wpList_load_blk 25 (.tmp 1) rfl rfl rfl (HBX.out w1 (Below.refl _ _)).1 [.slice AP ps.length cp, .slice AT ts.length ct] at0 rowSheetP ?_))
    refine bodyPost_ret (v := .tuple #[.agg (sp2 Z).toArray, .bool true, .bool true]) (results_cell_tmp2 Tryz.results35 rfl H12.out.2 rowSpan5 rfl rfl) rfl ⟨rfl, H12.out.1⟩
  · have hl : 0 < c.length := List.length_pos_iff.2 hc
    have hl2 : (0 : Int) < (c.length : Int) := by omega
    have hl3 : decide (0 < c.length) = true := decide_eq_true hl
    clear hc
    go_enter Tryz.func35, Tryz.ntmps35
    go_wp2_with (first
      | (show wpList _ _ _ (Oper.mk none (Op.store _ (Operand.tmp 8) (Operand.tmp 43)) _ _ _ _ :: _) _ _
         refine wpList_store_blk 50 (.tmp 8) (.tmp 43) rfl rfl rfl rfl (cs := sp2 Z) rfl (HBX.out w11 (H8.out.1.trans (H11.out.1.mono H8.out.1.size))).2.2.1 (Nat.le_of_ble_eq_true rfl) (sp2_one _) rowSpan5 ?_
         intro w12 hP hM
         rw [splice_whole (by rfl)] at hM
         have H12 := Lib.hid (And.intro (((H1.out.1.trans (H8.out.1.mono H1.out.1.size)).trans (H11.out.1.mono (Nat.le_trans H1.out.1.size H8.out.1.size))).trans (hP.below (Nat.le_refl _))) hM)
         clear hP hM)
      | (show wpList _ _ _ (Oper.mk (some 43) _ _ _ _ _ :: _) _ _
         refine wpList_load_blk 50 (.tmp 12) rfl rfl rfl H11.out.2 (sp2 Z) at0 rowSpan5 ?_)
      | (go_at_call 33
         refine (HCL.out w10 H10.out.1).mono ?_
         rintro e w11 ⟨A5, c5, rfl, -, hB11⟩
         have H11 := Lib.hid (And.intro (H10.out.1.trans (hB11.mono H10.out.1.size)) ((hB11.block _ (lt_of_heap H10.out.2)).trans H10.out.2))
         clear hB11)
      | (show wpList _ _ _ (Oper.mk (some 38) _ _ _ _ _ :: _) _ _
         refine wpList_load_blk 25 (.tmp 11) rfl rfl rfl ((H10.out.1.block _ (lt_of_heap H8.out.2)).trans H8.out.2) [.slice A1 ps.length c1, .slice A4 (ts.length + 1) c4] at0 rowSheetP ?_)
      | (show wpList _ _ _ (Oper.mk (some 39) _ _ _ _ _ :: _) _ _
         refine wpList_load_blk 28 (.tmp 6) rfl rfl rfl (HBX.out w10 (H8.out.1.trans (H10.out.1.mono H8.out.1.size))).2.1 [.slice AG gs.length cg, .int .i64 vary] at0 rowGradingP ?_)
      | (show wpList _ _ _ (Oper.mk none (Op.store _ (Operand.tmp 12) (Operand.tmp 35)) _ _ _ _ :: _) _ _
         have hm : (w9.alloc (.cells #[.int .i64 0, .int .i64 0] 50)).heap[w9.heap.size]? = some (.cells [Value.int .i64 0, .int .i64 0].toArray 50 (0, 0)) := alloc_at0 _ _
         refine wpList_store_blk 50 (.tmp 12) (.tmp 35) rfl rfl rfl rfl (cs := sp2 Z) rfl hm (Nat.le_of_ble_eq_true rfl) (sp2_one _) rowSpan5 ?_
         intro w10 hP hM
         rw [splice_whole (by rfl)] at hM
         have hb : Below w9.heap.size w9 w10 := (grow1 w9 _).trans (hP.below (Nat.le_refl _))
         have H10 := Lib.hid (And.intro (H9.out.trans (hb.mono H9.out.size)) hM)
         clear hP hM hm hb)
      | (go_at_call 26
         refine (HST.out w8 (Below.refl _ _)).mono ?_
         rintro e w9 ⟨rfl, hB9⟩
         have H9 := Lib.hid hB9
         clear hB9)
      | (show wpList _ _ _ (Oper.mk (some 30) _ _ _ _ _ :: _) _ _
         refine wpList_load_blk 25 (.tmp 11) rfl rfl rfl (((Below.refl w8.heap.size w8).block _ (lt_of_heap H8.out.2)).trans H8.out.2) [.slice A1 ps.length c1, .slice A4 (ts.length + 1) c4] at0 rowSheetP ?_)
      | (show wpList _ _ _ (Oper.mk (some 31) _ _ _ _ _ :: _) _ _
         refine wpList_load_blk 28 (.tmp 6) rfl rfl rfl (HBX.out w8 H8.out.1).2.1 [.slice AG gs.length cg, .int .i64 vary] at0 rowGradingP ?_)
      | (show wpList _ _ _ (Oper.mk none (Op.store _ (Operand.tmp 28) (Operand.tmp 27)) _ _ _ _ :: _) _ _
         refine wpList_store_v5 23 (.tmp 28) (.tmp 27) (v := .slice A4 (ts.length + 1) c4) rfl rfl rfl rfl rfl rfl rfl (L := [.slice A1 ps.length c1, .slice A2 ts.length c2]) H7.out.2.2.2.1 (Nat.le_of_ble_eq_true rfl) infoTL5 ?_
         intro w8 hP hM
         have hX := H7.out.2.2.2.1
         have hb8 : Below w1.heap.size w1 w8 := H7.out.1.trans (hP.below H7.out.2.2.2.2)
         have o1 := own_put H7.out.2.1 hP hX (by decide)
         have o2 := own_put H7.out.2.2.1 hP hX (by decide)
         have hlen : (ts ++ [(⟨nx, id, k, f, held⟩ : Ts)]).length = ts.length + 1 := by simp
         have hsh : ShAt w8 w8.heap.size ps (ts ++ [(⟨nx, id, k, f, held⟩ : Ts)]) A1 A4 := ⟨Vals.own o1, Vals.own o2, by have := HL.out; omega, by have := HL.out; omega⟩
         have hgd : GdAt w8 w8.heap.size gs AG := (HZ.out.2.below ((H1.out.1.trans (hb8.mono H1.out.1.size)).mono HZ.out.1.1)).mono (Nat.le_trans HZ.out.1.1 (Nat.le_trans H1.out.1.size hb8.size))
         have hst := fun (W : World) (hW : Below w8.heap.size w8 W) => grStrength_any ps (ts ++ [(⟨nx, id, k, f, held⟩ : Ts)]) gs vary id k A1 c1 A4 c4 AG cg w8.heap.size W hW.size (hsh.below hW) (hgd.below hW)
         have hcl := fun (W : World) (hW : Below w8.heap.size w8 W) => grClashP_any ps (ts ++ [(⟨nx, id, k, f, held⟩ : Ts)]) gs vary A1 c1 A4 c4 AG cg w8.heap.size W hW.size (hsh.below hW) (hgd.below hW)
         unfold ClashPost at hcl
         rw [HS.out.2, hlen] at hcl
         rw [HS.out.1, hlen] at hst
         have hM' : w8.heap[w2.heap.size]? = some (.cells [.slice A1 ps.length c1, .slice A4 (ts.length + 1) c4].toArray 25 (0, 0)) := hM
         obtain ⟨-, -, -, f2, f3, f4, f5⟩ := HBX.out w8 hb8
         have HST := Lib.hid hst
         have HCL := Lib.hid hcl
         have H8 := Lib.hid (And.intro hb8 hM')
         clear hP hM hM' hX hb8 o1 o2 hlen hsh hgd hst hcl)
      | (show wpList _ _ _ (Oper.mk (some 27) _ _ _ _ _ :: _) _ _
         obtain ⟨w6, hw6⟩ : ∃ w6, w3.alloc (.cells #[.int .i64 nx, .int .i64 id, .int .i64 k, .int .i64 f, .bool held] 58) = w6 := ⟨_, rfl⟩
         have g6 : Grows w3 w6 := by rw [← hw6]; exact grow1 _ _
         have m6 : w6.heap[w3.heap.size]? = some (.cells (tcl (⟨nx, id, k, f, held⟩ : Ts)).toArray 58 (0, 0)) := by rw [← hw6]; exact alloc_at0 _ _
         have hI6 := H3.out.grows g6
         rw [hw6]
         refine wpl_app rfl (.tmp 19) (.tmp 26) 23 rfl w1.heap.size 58 i2 _ 5 40 Tryz.underlying23 HI.out.1 HI.out.2.1 HI.out.2.2.1 HI.out.2.2.2 rfl (by decide) _ _ _ rfl hI6.o2 _ _ _ _ _ rfl (vals_mk5 m6) rfl (fun v hv => tcl_one [(⟨nx, id, k, f, held⟩ : Ts)] v (by simpa using hv)) (by have := HL.out; simp only [maxLen]; omega) (by have := HL.out; omega) hI6.bel.size ?_
         intro v' w7 ho hgr hob
         have ho' : w7.ownsRow w1.heap.size 58 5 v' (ts.length + 1) ((ts ++ [(⟨nx, id, k, f, held⟩ : Ts)]).flatMap tcl) := by rw [List.flatMap_append]; simpa using ho
         obtain ⟨A4, c4, rfl⟩ := own_slice ho'
         have hX7 := (hgr.block _ (lt_of_heap hI6.box) (own_other hI6.o2 hI6.box (by decide))).trans hI6.box
         have hb := hI6.bel.grown hgr hI6.bel.size (fun q e => by obtain ⟨_, _, hq⟩ := own_bt hI6.o2 e; exact hq)
         have H7 := Lib.hid (And.intro hb (And.intro (own_besides hI6.o1 hI6.o2 (by decide) hgr) (And.intro ho' (And.intro hX7 hI6.le))))
         clear g6 m6 hI6 ho ho' hgr hob hX7 hb hw6)
      | (show wpList _ _ _ (Oper.mk none (Op.store _ (Operand.tmp 11) (Operand.tmp 17)) _ _ _ _ :: _) _ _
         have hm : (w2.alloc (.cells #[.slice none 0 0, .slice none 0 0] 25)).heap[w2.heap.size]? = some (.cells [Value.slice none 0 0, .slice none 0 0].toArray 25 (0, 0)) := alloc_at0 _ _
         refine wpList_store_blk 25 (.tmp 11) (.tmp 17) (cs := [.slice A1 ps.length c1, .slice A2 ts.length c2]) rfl rfl rfl rfl rfl hm (Nat.le_of_ble_eq_true rfl) (by intro v hv; simp only [List.mem_cons, List.not_mem_nil, or_false] at hv; rcases hv with rfl | rfl <;> rfl) rowSheetP ?_
         intro w3 hP hM
         rw [splice_whole (by rfl)] at hM
         have hb := (grow1 w2 _).trans (hP.below (Nat.le_refl _))
         have hO := H2.out.2.grows (grow1 w2 (.cells #[.slice none 0 0, .slice none 0 0] 25))
         have hI : InC w1 w2.heap.size ps ts A1 c1 A2 c2 w3 := ⟨H2.out.1.trans (hb.mono H2.out.1.size), own_put hO.1 hP hm (by decide), own_put hO.2 hP hm (by decide), hM, H2.out.1.size⟩
         have f1 : w3.cell? ⟨w2.heap.size, 1, none⟩ = some (.slice A2 ts.length c2) := cell_of_row w3 _ 1 _ _ _ hI.box
         obtain ⟨-, -, -, f2, f3, f4, f5⟩ := HBX.out w3 hI.bel
         have H3 := Lib.hid hI
         clear hP hM hm hb hO hI)
      | (go_at_call 13
         refine HTW.out.mono ?_
         rintro e w2 ⟨v1, v2, rfl, ho, hB2⟩
         obtain ⟨A1, c1, rfl⟩ := own_slice ho.1
         obtain ⟨A2, c2, rfl⟩ := own_slice ho.2
         have H2 := Lib.hid (And.intro hB2 ho)
         clear hB2 ho)
      | (show wpList _ _ _ (Oper.mk (some 16) _ _ _ _ _ :: _) _ _
         refine wpList_load_blk 25 (.tmp 1) rfl rfl rfl (HBX.out w1 (Below.refl _ _)).1 [.slice AP ps.length cp, .slice AT ts.length ct] at0 rowSheetP ?_))
    refine bodyPost_ret (v := .tuple #[.agg (sp2 Z).toArray, .bool false, .bool true]) (results_cell_tmp2 Tryz.results35 rfl H12.out.2 rowSpan5 rfl rfl) rfl ⟨rfl, H12.out.1⟩

end Go.Proofs.YtddpebnmjfmgdaaGreat
