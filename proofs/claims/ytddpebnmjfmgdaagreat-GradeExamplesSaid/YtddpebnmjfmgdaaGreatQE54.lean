/-
  The law GradeExamples.
-/
import Derived.Test.YtddpebnmjfmgdaaGreatQE53
import Derived.Test.YtddpebnmjfmgdaaGreatQE32
set_option linter.all false
namespace Go.Proofs.YtddpebnmjfmgdaaGreat
open Go.RowKit
open R6 (done done_ne done_me upd_ne upd_me)

attribute [local go_sem] gives

theorem xBear : sStr exGs 5000 exPs exTs 2 0 = ((121500, 161997), 0) := by decide +kernel
abbrev oG (l : List Gd) : Obj := .cells (l.flatMap gcl).toArray 53 (0, 0)
abbrev oP (l : List Pol) : Obj := .cells (l.flatMap pcl).toArray 56 (0, 0)
abbrev oT (l : List Ts) : Obj := .cells (l.flatMap tcl).toArray 58 (0, 0)
abbrev oX (g : Nat) : Obj := .cells [Value.slice (some ⟨g, 0, none⟩) 2 2, .int .i64 5000].toArray 28 (0, 0)
abbrev oB (p : Nat) : Obj := .cells [Value.slice (some ⟨p, 0, none⟩) 3 3, .slice (some ⟨p + 1, 0, none⟩) 2 2].toArray 25 (0, 0)
abbrev lS (a b q : Nat) (h : Int) : List (Nat × Obj) := [(a, .cells [Value.int .i64 0, .int .i64 0].toArray 3 (0, 0)), (b, .cells [Value.slice (some ⟨a, 0, none⟩) 2 2].toArray 59 (0, 0)), (q, .cells [Value.int .i64 10, .int .i64 1000, .slice (some ⟨b, 0, none⟩) 1 1, .int .i64 200, .int .i64 200, .int .i64 20, .int .i64 h].toArray 65 (0, 0))]
theorem xSet1 : (exGs.flatMap gcl).set 9 (.int .i64 3) = wdGs.flatMap gcl := by kernel_rfl
theorem xSet2 : (exPs.flatMap pcl).set 9 (.int .i64 31) = tkPs.flatMap pcl := by kernel_rfl
theorem xSet3 : (exPs.flatMap pcl).set 27 (.int .i64 104) = ygPs.flatMap pcl := by kernel_rfl
theorem sks_blk {W : World} {a b q : Nat} {h : Int} (ha : W.heap[a]? = some (.cells [Value.int .i64 0, .int .i64 0].toArray 3 (0, 0))) (hb : W.heap[b]? = some (.cells [Value.slice (some ⟨a, 0, none⟩) 2 2].toArray 59 (0, 0))) (hq : W.heap[q]? = some (.cells (skl (exSk a b h)).toArray 65 (0, 0))) : SksAt W W.heap.size [exSk a b h] (some ⟨q, 0, none⟩) :=
  ⟨(vals_mk5 (L := [exSk a b h].flatMap skl) hq).mono (lt_of_heap hq), fun x hx => by
    simp only [List.mem_singleton] at hx
    subst hx
    exact ⟨(vals_mk5 (L := slvs (sl0 a)) hb).mono (lt_of_heap hb), fun s hs => by
      simp only [exSk, sl0, List.mem_singleton] at hs
      subst hs
      exact ints_lit [0, 0] ha rfl⟩, fun x hx => by
    simp only [List.mem_singleton] at hx
    subst hx
    exact short0 a⟩

set_option maxRecDepth 100000 in
set_option maxHeartbeats 16000000 in
theorem gradeExamples_law (w : World) : Calls Tryz.prog 4 #[] w fun e w' => e = .returned (.bool true) ∧ Below w.heap.size w w' := by
  obtain ⟨i2, hi2, hz2, hsz2, hby2⟩ := info_parts infoTest5
  have HI := Lib.hid (And.intro hi2 (And.intro hz2 (And.intro hsz2 hby2)))
  clear hi2 hz2 hsz2 hby2
  have hsp := fun W => exSpan_any 200 200 W
  unfold sp2 at hsp
  have HSP := Lib.hid hsp
  clear hsp
  go_enter Tryz.func4, Tryz.ntmps4
  go_wp2_with (first
    | (show wpList _ _ _ (Oper.mk none (Op.store _ (Operand.tmp 5) (Operand.tmp 53)) _ _ _ _ :: _) _ _
       have hm : (w16.alloc (.cells #[.int .i64 0, .int .i64 0, .slice none 0 0, .int .i64 0, .int .i64 0, .int .i64 0, .int .i64 0] 65)).heap[w16.heap.size]? = some (.cells [Value.int .i64 0, .int .i64 0, .slice none 0 0, .int .i64 0, .int .i64 0, .int .i64 0, .int .i64 0].toArray 65 (0, 0)) := alloc_at0 _ _
       have hg : Below w16.heap.size w16 (w16.alloc (.cells #[.int .i64 0, .int .i64 0, .slice none 0 0, .int .i64 0, .int .i64 0, .int .i64 0, .int .i64 0] 65)) := grow1 _ _
       refine wpList_store_blk 65 (.tmp 5) (.tmp 53) (cs := [Value.int .i64 10, .int .i64 1000, .slice (some ⟨w15.heap.size + 1, 0, none⟩) 1 1, .int .i64 200, .int .i64 200, .int .i64 20, .int .i64 5]) rfl rfl rfl rfl rfl hm (Nat.le_of_ble_eq_true rfl) (skl_one [exSk w15.heap.size (w15.heap.size + 1) 5]) rowSoak ?_
       intro w17 hP hM
       rw [splice_whole (by rfl)] at hM
       have hb := hg.trans (hP.below (Nat.le_refl _))
       have HK := Lib.hid (And.intro (HK.out.1.trans (hb.mono HK.out.1.size)) (keptK.next hb HK.out.2))
       have HS := Lib.hid (show keptK (lS w15.heap.size (w15.heap.size + 1) w16.heap.size 5) w17 from ⟨(hb.block _ (lt_of_heap HS.out.1)).trans HS.out.1, (hb.block _ (lt_of_heap HS.out.2)).trans HS.out.2, hM, trivial⟩)
       have HT := Lib.hid (own_grows HT.out hb)
       clear hP hM hm hg hb)
    | (go_at_call 24
       refine (HSP.out _).mono ?_
       rintro e w16 ⟨rfl, hB⟩
       have hg : Below w15.heap.size w15 w16 := (grow2 w15 _ _).trans (hB.mono (by simp; omega))
       have s1 : w16.heap[w15.heap.size]? = some (.cells [Value.int .i64 0, .int .i64 0].toArray 3 (0, 0)) := (hB.block _ (lt_of_heap (alloc2_at0 w15 _ _))).trans (alloc2_at0 w15 _ _)
       have s2 : w16.heap[w15.heap.size + 1]? = some (.cells [Value.slice (some ⟨w15.heap.size, 0, none⟩) 2 2].toArray 59 (0, 0)) := (hB.block _ (lt_of_heap (alloc2_at1 w15 _ _))).trans (alloc2_at1 w15 _ _)
       have HS := Lib.hid (And.intro s1 s2)
       have HT := Lib.hid (own_grows HT.out hg)
       have HK := Lib.hid (And.intro (HK.out.1.trans (hg.mono HK.out.1.size)) (keptK.next hg HK.out.2))
       have HN5 := Lib.hid (And.intro (lt_of_heap HK.out.2.2.2.2.1) (lt_of_heap s2))
       clear hg s1 s2 hB)
    | (show wpList _ _ _ (Oper.mk none (Op.store _ (Operand.tmp 48) _) _ _ _ _ :: _) _ _
       refine wpList_store_v5 3 (.tmp 48) (.const (.int .i64 104)) (v := .int .i64 104) rfl rfl rfl rfl rfl rfl rfl (L := exPs.flatMap pcl) HK.out.2.2.2.2.2.2.2.2.2.1 (Nat.le_of_ble_eq_true rfl) sizeInt1 ?_
       intro w15 hP hM
       have HT := Lib.hid (own_put HT.out hP HK.out.2.2.2.2.2.2.2.2.2.1 (by decide))
       have hn := HN.out
       have k0 : w15.heap[w4.heap.size]? = some (oX g) := (hP.other _ (by omega)).trans HK.out.2.1
       have k1 : w15.heap[w4.heap.size + 1]? = some (oB p2) := (hP.other _ (by omega)).trans HK.out.2.2.1
       have k2 : w15.heap[w4.heap.size + 1 + 1]? = some (.cells [Value.slice (some ⟨p3, 0, none⟩) 3 3, .slice A4 (exTs ++ [exT6]).length c4].toArray 25 (0, 0)) := (hP.other _ (by omega)).trans HK.out.2.2.2.1
       have k3 : w15.heap[w4.heap.size + 1 + 1 + 1]? = some (oB p4) := (hP.other _ (by omega)).trans HK.out.2.2.2.2.1
       have k4 : w15.heap[g]? = some (oG wdGs) := (hP.other _ (by omega)).trans HK.out.2.2.2.2.2.1
       have k5 : w15.heap[p2]? = some (oP tkPs) := (hP.other _ (by omega)).trans HK.out.2.2.2.2.2.2.1
       have k6 : w15.heap[p2 + 1]? = some (oT exTs) := (hP.other _ (by omega)).trans HK.out.2.2.2.2.2.2.2.1
       have k7 : w15.heap[p3]? = some (oP exPs) := (hP.other _ (by omega)).trans HK.out.2.2.2.2.2.2.2.2.1
       have k8 : w15.heap[p4]? = some (oP ygPs) := (by unfold oP; rw [← xSet3]; exact hM)
       have k9 : w15.heap[p4 + 1]? = some (oT exTs) := (hP.other _ (by omega)).trans HK.out.2.2.2.2.2.2.2.2.2.2.1
       have HK := Lib.hid (And.intro (HK.out.1.trans (hP.below (by omega))) (show keptK [(w4.heap.size, oX g), (w4.heap.size + 1, oB p2), (w4.heap.size + 1 + 1, .cells [Value.slice (some ⟨p3, 0, none⟩) 3 3, .slice A4 (exTs ++ [exT6]).length c4].toArray 25 (0, 0)), (w4.heap.size + 1 + 1 + 1, oB p4), (g, oG wdGs), (p2, oP tkPs), (p2 + 1, oT exTs), (p3, oP exPs), (p4, oP ygPs), (p4 + 1, oT exTs)] w15 from ⟨k0, k1, k2, k3, k4, k5, k6, k7, k8, k9, trivial⟩))
       clear hn hP hM k0 k1 k2 k3 k4 k5 k6 k7 k8 k9
       clear f14)
    | (show wpList _ _ _ (Oper.mk none (Op.store _ (Operand.tmp 44) (Operand.tmp 43)) _ _ _ _ :: _) _ _
       refine wpList_store_v5 23 (.tmp 44) (.tmp 43) rfl rfl rfl rfl rfl rfl rfl (L := [Value.slice (some ⟨p3, 0, none⟩) 3 3, .slice (some ⟨p3 + 1, 0, none⟩) 2 2]) HK.out.2.2.2.1 (Nat.le_of_ble_eq_true rfl) infoTL5 ?_
       intro w14 hP hM
       have HT := Lib.hid (own_put HT.out hP HK.out.2.2.2.1 (by decide))
       have hn := HN.out
       have k0 : w14.heap[w4.heap.size]? = some (oX g) := (hP.other _ (by omega)).trans HK.out.2.1
       have k1 : w14.heap[w4.heap.size + 1]? = some (oB p2) := (hP.other _ (by omega)).trans HK.out.2.2.1
       have k2 : w14.heap[w4.heap.size + 1 + 1]? = some (.cells [Value.slice (some ⟨p3, 0, none⟩) 3 3, .slice A4 (exTs ++ [exT6]).length c4].toArray 25 (0, 0)) := hM
       have k3 : w14.heap[w4.heap.size + 1 + 1 + 1]? = some (oB p4) := (hP.other _ (by omega)).trans HK.out.2.2.2.2.1
       have k4 : w14.heap[g]? = some (oG wdGs) := (hP.other _ (by omega)).trans HK.out.2.2.2.2.2.1
       have k5 : w14.heap[p2]? = some (oP tkPs) := (hP.other _ (by omega)).trans HK.out.2.2.2.2.2.2.1
       have k6 : w14.heap[p2 + 1]? = some (oT exTs) := (hP.other _ (by omega)).trans HK.out.2.2.2.2.2.2.2.1
       have k7 : w14.heap[p3]? = some (oP exPs) := (hP.other _ (by omega)).trans HK.out.2.2.2.2.2.2.2.2.1
       have k8 : w14.heap[p4]? = some (oP exPs) := (hP.other _ (by omega)).trans HK.out.2.2.2.2.2.2.2.2.2.1
       have k9 : w14.heap[p4 + 1]? = some (oT exTs) := (hP.other _ (by omega)).trans HK.out.2.2.2.2.2.2.2.2.2.2.1
       have HK := Lib.hid (And.intro (HK.out.1.trans (hP.below (by omega))) (show keptK [(w4.heap.size, oX g), (w4.heap.size + 1, oB p2), (w4.heap.size + 1 + 1, .cells [Value.slice (some ⟨p3, 0, none⟩) 3 3, .slice A4 (exTs ++ [exT6]).length c4].toArray 25 (0, 0)), (w4.heap.size + 1 + 1 + 1, oB p4), (g, oG wdGs), (p2, oP tkPs), (p2 + 1, oT exTs), (p3, oP exPs), (p4, oP exPs), (p4 + 1, oT exTs)] w14 from ⟨k0, k1, k2, k3, k4, k5, k6, k7, k8, k9, trivial⟩))
       clear hn hP hM k0 k1 k2 k3 k4 k5 k6 k7 k8 k9
       have f14 : w14.cell? ⟨w4.heap.size + 1 + 1 + 1, 0, none⟩ = some (.slice (some ⟨p4, 0, none⟩) 3 3) := cell_of_row w14 _ 0 _ _ _ HK.out.2.2.2.2.1)
    | (show wpList _ _ _ (Oper.mk (some 43) _ _ _ _ _ :: _) _ _
       obtain ⟨w12, hw12⟩ : ∃ w12, w11.alloc (.cells #[.int .i64 6, .int .i64 2, .int .i64 0, .int .i64 118800, .bool false] 58) = w12 := ⟨_, rfl⟩
       have g12 : Grows w11 w12 := by rw [← hw12]; exact grow1 _ _
       have m12 : w12.heap[w11.heap.size]? = some (.cells (tcl exT6).toArray 58 (0, 0)) := by rw [← hw12]; exact alloc_at0 _ _
       have HK := Lib.hid (And.intro (HK.out.1.trans (g12.mono HK.out.1.size)) (keptK.next g12 HK.out.2))
       have hn := HN.out
       have hO2 : w12.ownsRow w.heap.size 58 5 (.slice (some ⟨p3 + 1, 0, none⟩) exTs.length exTs.length) exTs.length (exTs.flatMap tcl) := own_lit HK.out.2.2.2.2.2.2.2.2.2.1 (by omega) rfl rfl (by decide)
       rw [hw12]
       refine wpList_app2 (.tmp 40) (.tmp 42) 23 rfl rfl _ 58 i2 _ 5 40 Tryz.underlying23 HI.out.1 HI.out.2.1 HI.out.2.2.1 HI.out.2.2.2 rfl (by decide) rfl hO2 rfl (vals_mk5 m12) rfl (fun v hv => tcl_one [exT6] v (by simpa using hv)) (by decide) (by decide) HK.out.1.size ?_
       intro v' w13 ho hgr
       have ho' : w13.ownsRow _ 58 5 v' (exTs ++ [exT6]).length ((exTs ++ [exT6]).flatMap tcl) := ho
       obtain ⟨A4, c4, rfl⟩ := own_slice ho'
       have k0 : w13.heap[w4.heap.size]? = some (oX g) := (hgr.block _ (lt_of_heap HK.out.2.1) (fun e => by have e2 : w4.heap.size = p3 + 1 := Option.some.inj e; omega)).trans HK.out.2.1
       have k1 : w13.heap[w4.heap.size + 1]? = some (oB p2) := (hgr.block _ (lt_of_heap HK.out.2.2.1) (fun e => by have e2 : w4.heap.size + 1 = p3 + 1 := Option.some.inj e; omega)).trans HK.out.2.2.1
       have k2 : w13.heap[w4.heap.size + 1 + 1]? = some (oB p3) := (hgr.block _ (lt_of_heap HK.out.2.2.2.1) (fun e => by have e2 : w4.heap.size + 1 + 1 = p3 + 1 := Option.some.inj e; omega)).trans HK.out.2.2.2.1
       have k3 : w13.heap[w4.heap.size + 1 + 1 + 1]? = some (oB p4) := (hgr.block _ (lt_of_heap HK.out.2.2.2.2.1) (fun e => by have e2 : w4.heap.size + 1 + 1 + 1 = p3 + 1 := Option.some.inj e; omega)).trans HK.out.2.2.2.2.1
       have k4 : w13.heap[g]? = some (oG wdGs) := (hgr.block _ (lt_of_heap HK.out.2.2.2.2.2.1) (fun e => by have e2 : g = p3 + 1 := Option.some.inj e; omega)).trans HK.out.2.2.2.2.2.1
       have k5 : w13.heap[p2]? = some (oP tkPs) := (hgr.block _ (lt_of_heap HK.out.2.2.2.2.2.2.1) (fun e => by have e2 : p2 = p3 + 1 := Option.some.inj e; omega)).trans HK.out.2.2.2.2.2.2.1
       have k6 : w13.heap[p2 + 1]? = some (oT exTs) := (hgr.block _ (lt_of_heap HK.out.2.2.2.2.2.2.2.1) (fun e => by have e2 : p2 + 1 = p3 + 1 := Option.some.inj e; omega)).trans HK.out.2.2.2.2.2.2.2.1
       have k7 : w13.heap[p3]? = some (oP exPs) := (hgr.block _ (lt_of_heap HK.out.2.2.2.2.2.2.2.2.1) (fun e => by have e2 : p3 = p3 + 1 := Option.some.inj e; omega)).trans HK.out.2.2.2.2.2.2.2.2.1
       have k9 : w13.heap[p4]? = some (oP exPs) := (hgr.block _ (lt_of_heap HK.out.2.2.2.2.2.2.2.2.2.2.1) (fun e => by have e2 : p4 = p3 + 1 := Option.some.inj e; omega)).trans HK.out.2.2.2.2.2.2.2.2.2.2.1
       have k10 : w13.heap[p4 + 1]? = some (oT exTs) := (hgr.block _ (lt_of_heap HK.out.2.2.2.2.2.2.2.2.2.2.2.1) (fun e => by have e2 : p4 + 1 = p3 + 1 := Option.some.inj e; omega)).trans HK.out.2.2.2.2.2.2.2.2.2.2.2.1
       have hb := HK.out.1.grown hgr HK.out.1.size (fun q e => by have e2 : p3 + 1 = q := Option.some.inj e; omega)
       have HK := Lib.hid (And.intro hb (show keptK [(w4.heap.size, oX g), (w4.heap.size + 1, oB p2), (w4.heap.size + 1 + 1, oB p3), (w4.heap.size + 1 + 1 + 1, oB p4), (g, oG wdGs), (p2, oP tkPs), (p2 + 1, oT exTs), (p3, oP exPs), (p4, oP exPs), (p4 + 1, oT exTs)] w13 from ⟨k0, k1, k2, k3, k4, k5, k6, k7, k9, k10, trivial⟩))
       have HT := Lib.hid ho'
       clear hb g12 m12 hO2 ho ho' hgr hn hw12 f11 k0 k1 k2 k3 k4 k5 k6 k7 k9 k10)
    | (show wpList _ _ _ (Oper.mk none (Op.store _ (Operand.tmp 38) _) _ _ _ _ :: _) _ _
       refine wpList_store_v5 3 (.tmp 38) (.const (.int .i64 31)) (v := .int .i64 31) rfl rfl rfl rfl rfl rfl rfl (L := exPs.flatMap pcl) HK.out.2.2.2.2.2.2.1 (Nat.le_of_ble_eq_true rfl) sizeInt1 ?_
       intro w11 hP hM
       have hn := HN.out
       have k0 : w11.heap[w4.heap.size]? = some (oX g) := (hP.other _ (by omega)).trans HK.out.2.1
       have k1 : w11.heap[w4.heap.size + 1]? = some (oB p2) := (hP.other _ (by omega)).trans HK.out.2.2.1
       have k2 : w11.heap[w4.heap.size + 1 + 1]? = some (oB p3) := (hP.other _ (by omega)).trans HK.out.2.2.2.1
       have k3 : w11.heap[w4.heap.size + 1 + 1 + 1]? = some (oB p4) := (hP.other _ (by omega)).trans HK.out.2.2.2.2.1
       have k4 : w11.heap[g]? = some (oG wdGs) := (hP.other _ (by omega)).trans HK.out.2.2.2.2.2.1
       have k5 : w11.heap[p2]? = some (oP tkPs) := (by unfold oP; rw [← xSet2]; exact hM)
       have k6 : w11.heap[p2 + 1]? = some (oT exTs) := (hP.other _ (by omega)).trans HK.out.2.2.2.2.2.2.2.1
       have k7 : w11.heap[p3]? = some (oP exPs) := (hP.other _ (by omega)).trans HK.out.2.2.2.2.2.2.2.2.1
       have k8 : w11.heap[p3 + 1]? = some (oT exTs) := (hP.other _ (by omega)).trans HK.out.2.2.2.2.2.2.2.2.2.1
       have k9 : w11.heap[p4]? = some (oP exPs) := (hP.other _ (by omega)).trans HK.out.2.2.2.2.2.2.2.2.2.2.1
       have k10 : w11.heap[p4 + 1]? = some (oT exTs) := (hP.other _ (by omega)).trans HK.out.2.2.2.2.2.2.2.2.2.2.2.1
       have HK := Lib.hid (And.intro (HK.out.1.trans (hP.below (by omega))) (show keptK [(w4.heap.size, oX g), (w4.heap.size + 1, oB p2), (w4.heap.size + 1 + 1, oB p3), (w4.heap.size + 1 + 1 + 1, oB p4), (g, oG wdGs), (p2, oP tkPs), (p2 + 1, oT exTs), (p3, oP exPs), (p3 + 1, oT exTs), (p4, oP exPs), (p4 + 1, oT exTs)] w11 from ⟨k0, k1, k2, k3, k4, k5, k6, k7, k8, k9, k10, trivial⟩))
       clear hn hP hM k0 k1 k2 k3 k4 k5 k6 k7 k8 k9 k10
       clear f10
       have f11 : w11.cell? ⟨w4.heap.size + 1 + 1, 1, none⟩ = some (.slice (some ⟨p3 + 1, 0, none⟩) 2 2) := cell_of_row w11 _ 1 _ _ _ HK.out.2.2.2.1)
    | (show wpList _ _ _ (Oper.mk none (Op.store _ (Operand.tmp 33) _) _ _ _ _ :: _) _ _
       refine wpList_store_v5 3 (.tmp 33) (.const (.int .i64 3)) (v := .int .i64 3) rfl rfl rfl rfl rfl rfl rfl (L := exGs.flatMap gcl) HK.out.2.2.2.2.2.1 (Nat.le_of_ble_eq_true rfl) sizeInt1 ?_
       intro w10 hP hM
       have hn := HN.out
       have k0 : w10.heap[w4.heap.size]? = some (oX g) := (hP.other _ (by omega)).trans HK.out.2.1
       have k1 : w10.heap[w4.heap.size + 1]? = some (oB p2) := (hP.other _ (by omega)).trans HK.out.2.2.1
       have k2 : w10.heap[w4.heap.size + 1 + 1]? = some (oB p3) := (hP.other _ (by omega)).trans HK.out.2.2.2.1
       have k3 : w10.heap[w4.heap.size + 1 + 1 + 1]? = some (oB p4) := (hP.other _ (by omega)).trans HK.out.2.2.2.2.1
       have k4 : w10.heap[g]? = some (oG wdGs) := (by unfold oG; rw [← xSet1]; exact hM)
       have k5 : w10.heap[p2]? = some (oP exPs) := (hP.other _ (by omega)).trans HK.out.2.2.2.2.2.2.1
       have k6 : w10.heap[p2 + 1]? = some (oT exTs) := (hP.other _ (by omega)).trans HK.out.2.2.2.2.2.2.2.1
       have k7 : w10.heap[p3]? = some (oP exPs) := (hP.other _ (by omega)).trans HK.out.2.2.2.2.2.2.2.2.1
       have k8 : w10.heap[p3 + 1]? = some (oT exTs) := (hP.other _ (by omega)).trans HK.out.2.2.2.2.2.2.2.2.2.1
       have k9 : w10.heap[p4]? = some (oP exPs) := (hP.other _ (by omega)).trans HK.out.2.2.2.2.2.2.2.2.2.2.1
       have k10 : w10.heap[p4 + 1]? = some (oT exTs) := (hP.other _ (by omega)).trans HK.out.2.2.2.2.2.2.2.2.2.2.2.1
       have HK := Lib.hid (And.intro (HK.out.1.trans (hP.below (by omega))) (show keptK [(w4.heap.size, oX g), (w4.heap.size + 1, oB p2), (w4.heap.size + 1 + 1, oB p3), (w4.heap.size + 1 + 1 + 1, oB p4), (g, oG wdGs), (p2, oP exPs), (p2 + 1, oT exTs), (p3, oP exPs), (p3 + 1, oT exTs), (p4, oP exPs), (p4 + 1, oT exTs)] w10 from ⟨k0, k1, k2, k3, k4, k5, k6, k7, k8, k9, k10, trivial⟩))
       clear hn hP hM k0 k1 k2 k3 k4 k5 k6 k7 k8 k9 k10
       clear f9
       have f10 : w10.cell? ⟨w4.heap.size + 1, 0, none⟩ = some (.slice (some ⟨p2, 0, none⟩) 3 3) := cell_of_row w10 _ 0 _ _ _ HK.out.2.2.1)
    | (show wpList _ _ _ (Oper.mk none (Op.store _ (Operand.tmp 4) (Operand.tmp 29)) _ _ _ _ :: _) _ _
       refine wpList_store_blk 25 (.tmp 4) (.tmp 29) (cs := [Value.slice (some ⟨p4, 0, none⟩) 3 3, .slice (some ⟨p4 + 1, 0, none⟩) 2 2]) (L := [.slice none 0 0, .slice none 0 0]) rfl rfl rfl rfl rfl HK.out.2.2.2.2.1 (Nat.le_of_ble_eq_true rfl) (by intro v hv; simp only [List.mem_cons, List.not_mem_nil, or_false] at hv; rcases hv with rfl | rfl <;> rfl) rowSheetP ?_
       intro w9 hP hM
       rw [splice_whole (by rfl)] at hM
       have hn := HN.out
       have k0 : w9.heap[w4.heap.size]? = some (oX g) := (hP.other _ (by omega)).trans HK.out.2.1
       have k1 : w9.heap[w4.heap.size + 1]? = some (oB p2) := (hP.other _ (by omega)).trans HK.out.2.2.1
       have k2 : w9.heap[w4.heap.size + 1 + 1]? = some (oB p3) := (hP.other _ (by omega)).trans HK.out.2.2.2.1
       have k3 : w9.heap[w4.heap.size + 1 + 1 + 1]? = some (oB p4) := hM
       have k4 : w9.heap[g]? = some (oG exGs) := (hP.other _ (by omega)).trans HK.out.2.2.2.2.2.1
       have k5 : w9.heap[p2]? = some (oP exPs) := (hP.other _ (by omega)).trans HK.out.2.2.2.2.2.2.1
       have k6 : w9.heap[p2 + 1]? = some (oT exTs) := (hP.other _ (by omega)).trans HK.out.2.2.2.2.2.2.2.1
       have k7 : w9.heap[p3]? = some (oP exPs) := (hP.other _ (by omega)).trans HK.out.2.2.2.2.2.2.2.2.1
       have k8 : w9.heap[p3 + 1]? = some (oT exTs) := (hP.other _ (by omega)).trans HK.out.2.2.2.2.2.2.2.2.2.1
       have k9 : w9.heap[p4]? = some (oP exPs) := (hP.other _ (by omega)).trans HK.out.2.2.2.2.2.2.2.2.2.2.1
       have k10 : w9.heap[p4 + 1]? = some (oT exTs) := (hP.other _ (by omega)).trans HK.out.2.2.2.2.2.2.2.2.2.2.2.1
       have HK := Lib.hid (And.intro (HK.out.1.trans (hP.below (by omega))) (show keptK [(w4.heap.size, oX g), (w4.heap.size + 1, oB p2), (w4.heap.size + 1 + 1, oB p3), (w4.heap.size + 1 + 1 + 1, oB p4), (g, oG exGs), (p2, oP exPs), (p2 + 1, oT exTs), (p3, oP exPs), (p3 + 1, oT exTs), (p4, oP exPs), (p4 + 1, oT exTs)] w9 from ⟨k0, k1, k2, k3, k4, k5, k6, k7, k8, k9, k10, trivial⟩))
       clear hn hP hM k0 k1 k2 k3 k4 k5 k6 k7 k8 k9 k10
       have f9 : w9.cell? ⟨w4.heap.size, 0, none⟩ = some (.slice (some ⟨g, 0, none⟩) 2 2) := cell_of_row w9 _ 0 _ _ _ HK.out.2.1)
    | (show wpList _ _ _ (Oper.mk none (Op.store _ (Operand.tmp 3) (Operand.tmp 28)) _ _ _ _ :: _) _ _
       refine wpList_store_blk 25 (.tmp 3) (.tmp 28) (cs := [Value.slice (some ⟨p3, 0, none⟩) 3 3, .slice (some ⟨p3 + 1, 0, none⟩) 2 2]) (L := [.slice none 0 0, .slice none 0 0]) rfl rfl rfl rfl rfl HK.out.2.2.2.1 (Nat.le_of_ble_eq_true rfl) (by intro v hv; simp only [List.mem_cons, List.not_mem_nil, or_false] at hv; rcases hv with rfl | rfl <;> rfl) rowSheetP ?_
       intro w8 hP hM
       rw [splice_whole (by rfl)] at hM
       have hn := HN.out
       have k0 : w8.heap[w4.heap.size]? = some (oX g) := (hP.other _ (by omega)).trans HK.out.2.1
       have k1 : w8.heap[w4.heap.size + 1]? = some (oB p2) := (hP.other _ (by omega)).trans HK.out.2.2.1
       have k2 : w8.heap[w4.heap.size + 1 + 1]? = some (oB p3) := hM
       have k3 : w8.heap[w4.heap.size + 1 + 1 + 1]? = some (.cells #[.slice none 0 0, .slice none 0 0] 25) := (hP.other _ (by omega)).trans HK.out.2.2.2.2.1
       have k4 : w8.heap[g]? = some (oG exGs) := (hP.other _ (by omega)).trans HK.out.2.2.2.2.2.1
       have k5 : w8.heap[p2]? = some (oP exPs) := (hP.other _ (by omega)).trans HK.out.2.2.2.2.2.2.1
       have k6 : w8.heap[p2 + 1]? = some (oT exTs) := (hP.other _ (by omega)).trans HK.out.2.2.2.2.2.2.2.1
       have k7 : w8.heap[p3]? = some (oP exPs) := (hP.other _ (by omega)).trans HK.out.2.2.2.2.2.2.2.2.1
       have k8 : w8.heap[p3 + 1]? = some (oT exTs) := (hP.other _ (by omega)).trans HK.out.2.2.2.2.2.2.2.2.2.1
       have k9 : w8.heap[p4]? = some (oP exPs) := (hP.other _ (by omega)).trans HK.out.2.2.2.2.2.2.2.2.2.2.1
       have k10 : w8.heap[p4 + 1]? = some (oT exTs) := (hP.other _ (by omega)).trans HK.out.2.2.2.2.2.2.2.2.2.2.2.1
       have HK := Lib.hid (And.intro (HK.out.1.trans (hP.below (by omega))) (show keptK [(w4.heap.size, oX g), (w4.heap.size + 1, oB p2), (w4.heap.size + 1 + 1, oB p3), (w4.heap.size + 1 + 1 + 1, .cells #[.slice none 0 0, .slice none 0 0] 25), (g, oG exGs), (p2, oP exPs), (p2 + 1, oT exTs), (p3, oP exPs), (p3 + 1, oT exTs), (p4, oP exPs), (p4 + 1, oT exTs)] w8 from ⟨k0, k1, k2, k3, k4, k5, k6, k7, k8, k9, k10, trivial⟩))
       clear hn hP hM k0 k1 k2 k3 k4 k5 k6 k7 k8 k9 k10)
    | (show wpList _ _ _ (Oper.mk none (Op.store _ (Operand.tmp 2) (Operand.tmp 27)) _ _ _ _ :: _) _ _
       refine wpList_store_blk 25 (.tmp 2) (.tmp 27) (cs := [Value.slice (some ⟨p2, 0, none⟩) 3 3, .slice (some ⟨p2 + 1, 0, none⟩) 2 2]) (L := [.slice none 0 0, .slice none 0 0]) rfl rfl rfl rfl rfl HK.out.2.2.1 (Nat.le_of_ble_eq_true rfl) (by intro v hv; simp only [List.mem_cons, List.not_mem_nil, or_false] at hv; rcases hv with rfl | rfl <;> rfl) rowSheetP ?_
       intro w7 hP hM
       rw [splice_whole (by rfl)] at hM
       have hn := HN.out
       have k0 : w7.heap[w4.heap.size]? = some (oX g) := (hP.other _ (by omega)).trans HK.out.2.1
       have k1 : w7.heap[w4.heap.size + 1]? = some (oB p2) := hM
       have k2 : w7.heap[w4.heap.size + 1 + 1]? = some (.cells #[.slice none 0 0, .slice none 0 0] 25) := (hP.other _ (by omega)).trans HK.out.2.2.2.1
       have k3 : w7.heap[w4.heap.size + 1 + 1 + 1]? = some (.cells #[.slice none 0 0, .slice none 0 0] 25) := (hP.other _ (by omega)).trans HK.out.2.2.2.2.1
       have k4 : w7.heap[g]? = some (oG exGs) := (hP.other _ (by omega)).trans HK.out.2.2.2.2.2.1
       have k5 : w7.heap[p2]? = some (oP exPs) := (hP.other _ (by omega)).trans HK.out.2.2.2.2.2.2.1
       have k6 : w7.heap[p2 + 1]? = some (oT exTs) := (hP.other _ (by omega)).trans HK.out.2.2.2.2.2.2.2.1
       have k7 : w7.heap[p3]? = some (oP exPs) := (hP.other _ (by omega)).trans HK.out.2.2.2.2.2.2.2.2.1
       have k8 : w7.heap[p3 + 1]? = some (oT exTs) := (hP.other _ (by omega)).trans HK.out.2.2.2.2.2.2.2.2.2.1
       have k9 : w7.heap[p4]? = some (oP exPs) := (hP.other _ (by omega)).trans HK.out.2.2.2.2.2.2.2.2.2.2.1
       have k10 : w7.heap[p4 + 1]? = some (oT exTs) := (hP.other _ (by omega)).trans HK.out.2.2.2.2.2.2.2.2.2.2.2.1
       have HK := Lib.hid (And.intro (HK.out.1.trans (hP.below (by omega))) (show keptK [(w4.heap.size, oX g), (w4.heap.size + 1, oB p2), (w4.heap.size + 1 + 1, .cells #[.slice none 0 0, .slice none 0 0] 25), (w4.heap.size + 1 + 1 + 1, .cells #[.slice none 0 0, .slice none 0 0] 25), (g, oG exGs), (p2, oP exPs), (p2 + 1, oT exTs), (p3, oP exPs), (p3 + 1, oT exTs), (p4, oP exPs), (p4 + 1, oT exTs)] w7 from ⟨k0, k1, k2, k3, k4, k5, k6, k7, k8, k9, k10, trivial⟩))
       clear hn hP hM k0 k1 k2 k3 k4 k5 k6 k7 k8 k9 k10)
    | (show wpList _ _ _ (Oper.mk none (Op.store _ (Operand.tmp 1) (Operand.tmp 26)) _ _ _ _ :: _) _ _
       have hk := keptK.four HK.out.2 (.cells #[.slice none 0 0, .int .i64 0] 28) (.cells #[.slice none 0 0, .slice none 0 0] 25) (.cells #[.slice none 0 0, .slice none 0 0] 25) (.cells #[.slice none 0 0, .slice none 0 0] 25)
       have hg : Below w4.heap.size w4 ((((w4.alloc (.cells #[.slice none 0 0, .int .i64 0] 28)).alloc (.cells #[.slice none 0 0, .slice none 0 0] 25)).alloc (.cells #[.slice none 0 0, .slice none 0 0] 25)).alloc (.cells #[.slice none 0 0, .slice none 0 0] 25)) := (grow2 _ _ _).trans ((grow2 _ _ _).mono (by simp; omega))
       obtain ⟨w5, hw5⟩ : ∃ w5, ((((w4.alloc (.cells #[.slice none 0 0, .int .i64 0] 28)).alloc (.cells #[.slice none 0 0, .slice none 0 0] 25)).alloc (.cells #[.slice none 0 0, .slice none 0 0] 25)).alloc (.cells #[.slice none 0 0, .slice none 0 0] 25)) = w5 := ⟨_, rfl⟩
       rw [hw5] at hk hg ⊢
       have HK := Lib.hid (And.intro (HK.out.1.trans (hg.mono HK.out.1.size)) hk)
       clear hk hg hw5
       refine wpList_store_blk 28 (.tmp 1) (.tmp 26) (cs := [Value.slice (some ⟨g, 0, none⟩) 2 2, .int .i64 5000]) (L := [.slice none 0 0, .int .i64 0]) rfl rfl rfl rfl rfl HK.out.2.1 (Nat.le_of_ble_eq_true rfl) (by intro v hv; simp only [List.mem_cons, List.not_mem_nil, or_false] at hv; rcases hv with rfl | rfl <;> rfl) rowGradingP ?_
       intro w6 hP hM
       rw [splice_whole (by rfl)] at hM
       have hn := HN.out
       have k0 : w6.heap[w4.heap.size]? = some (oX g) := hM
       have k1 : w6.heap[w4.heap.size + 1]? = some (.cells #[.slice none 0 0, .slice none 0 0] 25) := (hP.other _ (by omega)).trans HK.out.2.2.1
       have k2 : w6.heap[w4.heap.size + 1 + 1]? = some (.cells #[.slice none 0 0, .slice none 0 0] 25) := (hP.other _ (by omega)).trans HK.out.2.2.2.1
       have k3 : w6.heap[w4.heap.size + 1 + 1 + 1]? = some (.cells #[.slice none 0 0, .slice none 0 0] 25) := (hP.other _ (by omega)).trans HK.out.2.2.2.2.1
       have k4 : w6.heap[g]? = some (oG exGs) := (hP.other _ (by omega)).trans HK.out.2.2.2.2.2.1
       have k5 : w6.heap[p2]? = some (oP exPs) := (hP.other _ (by omega)).trans HK.out.2.2.2.2.2.2.1
       have k6 : w6.heap[p2 + 1]? = some (oT exTs) := (hP.other _ (by omega)).trans HK.out.2.2.2.2.2.2.2.1
       have k7 : w6.heap[p3]? = some (oP exPs) := (hP.other _ (by omega)).trans HK.out.2.2.2.2.2.2.2.2.1
       have k8 : w6.heap[p3 + 1]? = some (oT exTs) := (hP.other _ (by omega)).trans HK.out.2.2.2.2.2.2.2.2.2.1
       have k9 : w6.heap[p4]? = some (oP exPs) := (hP.other _ (by omega)).trans HK.out.2.2.2.2.2.2.2.2.2.2.1
       have k10 : w6.heap[p4 + 1]? = some (oT exTs) := (hP.other _ (by omega)).trans HK.out.2.2.2.2.2.2.2.2.2.2.2.1
       have HK := Lib.hid (And.intro (HK.out.1.trans (hP.below (by omega))) (show keptK [(w4.heap.size, oX g), (w4.heap.size + 1, .cells #[.slice none 0 0, .slice none 0 0] 25), (w4.heap.size + 1 + 1, .cells #[.slice none 0 0, .slice none 0 0] 25), (w4.heap.size + 1 + 1 + 1, .cells #[.slice none 0 0, .slice none 0 0] 25), (g, oG exGs), (p2, oP exPs), (p2 + 1, oT exTs), (p3, oP exPs), (p3 + 1, oT exTs), (p4, oP exPs), (p4 + 1, oT exTs)] w6 from ⟨k0, k1, k2, k3, k4, k5, k6, k7, k8, k9, k10, trivial⟩))
       clear hn hP hM k0 k1 k2 k3 k4 k5 k6 k7 k8 k9 k10)
    | (go_at_call 23
       refine (exSheetB_any w3).mono ?_
       rintro e w4 ⟨p4, rfl, hb, m, m2, hB⟩
       have k0 : w4.heap[g]? = some (oG exGs) := (hB.block _ (lt_of_heap HK.out.2.1)).trans HK.out.2.1
       have k1 : w4.heap[p2]? = some (oP exPs) := (hB.block _ (lt_of_heap HK.out.2.2.1)).trans HK.out.2.2.1
       have k2 : w4.heap[p2 + 1]? = some (oT exTs) := (hB.block _ (lt_of_heap HK.out.2.2.2.1)).trans HK.out.2.2.2.1
       have k3 : w4.heap[p3]? = some (oP exPs) := (hB.block _ (lt_of_heap HK.out.2.2.2.2.1)).trans HK.out.2.2.2.2.1
       have k4 : w4.heap[p3 + 1]? = some (oT exTs) := (hB.block _ (lt_of_heap HK.out.2.2.2.2.2.1)).trans HK.out.2.2.2.2.2.1
       have HN4 := Lib.hid (And.intro hb (lt_of_heap m2))
       have HK := Lib.hid (And.intro (HK.out.1.trans (hB.mono HK.out.1.size)) (show keptK [(g, oG exGs), (p2, oP exPs), (p2 + 1, oT exTs), (p3, oP exPs), (p3 + 1, oT exTs), (p4, oP exPs), (p4 + 1, oT exTs)] w4 from ⟨k0, k1, k2, k3, k4, m, m2, trivial⟩))
       clear hb m m2 hB k0 k1 k2 k3 k4
       have hn : w.heap.size ≤ g ∧ g < p2 ∧ p2 + 1 < p3 ∧ p3 + 1 < p4 ∧ p4 + 1 < w4.heap.size := by
         have := HN1.out; have := HN2.out; have := HN3.out; have := HN4.out
         omega
       have HN := Lib.hid hn
       clear hn)
    | (go_at_call 23
       refine (exSheetB_any w2).mono ?_
       rintro e w3 ⟨p3, rfl, hb, m, m2, hB⟩
       have k0 : w3.heap[g]? = some (oG exGs) := (hB.block _ (lt_of_heap HK.out.2.1)).trans HK.out.2.1
       have k1 : w3.heap[p2]? = some (oP exPs) := (hB.block _ (lt_of_heap HK.out.2.2.1)).trans HK.out.2.2.1
       have k2 : w3.heap[p2 + 1]? = some (oT exTs) := (hB.block _ (lt_of_heap HK.out.2.2.2.1)).trans HK.out.2.2.2.1
       have HN3 := Lib.hid (And.intro hb (lt_of_heap m2))
       have HK := Lib.hid (And.intro (HK.out.1.trans (hB.mono HK.out.1.size)) (show keptK [(g, oG exGs), (p2, oP exPs), (p2 + 1, oT exTs), (p3, oP exPs), (p3 + 1, oT exTs)] w3 from ⟨k0, k1, k2, m, m2, trivial⟩))
       clear hb m m2 hB k0 k1 k2)
    | (go_at_call 23
       refine (exSheetB_any w1).mono ?_
       rintro e w2 ⟨p2, rfl, hb, m, m2, hB⟩
       have k0 : w2.heap[g]? = some (oG exGs) := (hB.block _ (lt_of_heap HK.out.2.1)).trans HK.out.2.1
       have HN2 := Lib.hid (And.intro hb (lt_of_heap m2))
       have HK := Lib.hid (And.intro (HK.out.1.trans (hB.mono HK.out.1.size)) (show keptK [(g, oG exGs), (p2, oP exPs), (p2 + 1, oT exTs)] w2 from ⟨k0, m, m2, trivial⟩))
       clear hb m m2 hB k0)
    | (go_at_call 22
       refine (exGradingB_any wb).mono ?_
       rintro e w1 ⟨g, rfl, hb, m, hB⟩
       have hs := HB.out.size
       have HN1 := Lib.hid (And.intro (Nat.le_trans hs hb) (lt_of_heap m))
       have HK := Lib.hid (And.intro (HB.out.trans (hB.mono HB.out.size)) (show keptK [(g, oG exGs)] w1 from ⟨m, trivial⟩))
       clear hb m hB hs)
    | (go_at_call 21
       refine (exBears_any 2 121500 161997 xBear wa).mono ?_
       rintro e wb ⟨rfl, hB⟩
       have HB := Lib.hid (HA.out.trans (hB.mono HA.out.size))
       clear hB)
    | (go_at_call 20
       refine (grAlive_any w).mono ?_
       rintro e wa ⟨rfl, hB⟩
       have HA := Lib.hid hB
       clear hB))
  refine R6.wp_walk (C := ResN w17 (exSk w15.heap.size (w15.heap.size + 1) 5) ([2, 2, 2], 0) 99 [(0, 55, 0), (1, 56, 1), (3, 58, 2), (4, 59, 3)]) 146 (by kernel_rfl) (by kernel_rfl) rfl (ResN.start (fun _ => rfl)) ?_
  simp only []
  refine' R6.WalkR.nd (fun _ => rfl) rfl (fun D ρ W hK hC => ?_) ?_
  · skip
    have HC := Lib.hid hC
    clear hC hK
    go_simp
    go_at_call 23
    refine (exSheetB_any W).mono ?_
    rintro e W1 ⟨b, rfl, hb, h1, h2, hB⟩
    exact ⟨_, rfl, HC.out.made (c := 0) hB (by decide) ⟨b, rfl, h1, h2⟩⟩
  simp only [Act.put, List.setIfInBounds_toArray, List.set_cons_succ, List.set_cons_zero]
  refine' R6.WalkR.nd (fun _ => rfl) rfl (fun D ρ W hK hC => ?_) ?_
  · skip
    have HC := Lib.hid hC
    clear hC hK
    go_simp
    go_at_call 22
    refine (exGradingB_any W).mono ?_
    rintro e W1 ⟨b, rfl, hb, h1, hB⟩
    exact ⟨_, rfl, HC.out.made (c := 1) hB (by decide) ⟨b, rfl, h1⟩⟩
  simp only [Act.put, List.setIfInBounds_toArray, List.set_cons_succ, List.set_cons_zero]
  refine' R6.WalkR.det (fun _ => rfl) (fun D ρ W hK hC => ?_) ?_
  rotate_left
  · exact gives_load_blk 65 (.tmp 5) rfl rfl ((hC.bel.block _ (lt_of_heap HS.out.2.2.1)).trans HS.out.2.2.1) [Value.int .i64 10, .int .i64 1000, .slice (some ⟨w15.heap.size + 1, 0, none⟩) 1 1, .int .i64 200, .int .i64 200, .int .i64 20, .int .i64 5] at0 rowSoak ⟨rfl, hC.move (by decide)⟩
  simp only [Act.put, List.setIfInBounds_toArray, List.set_cons_succ, List.set_cons_zero]
  refine' R6.WalkR.nd (fun _ => rfl) rfl (fun D ρ W hK hC => ?_) ?_
  · have hs1 := (hC.bel.block _ (lt_of_heap HS.out.1)).trans HS.out.1
    have hs2 := (hC.bel.block _ (lt_of_heap HS.out.2.1)).trans HS.out.2.1
    have HC := Lib.hid (And.intro hC (And.intro hs1 hs2))
    clear hC hK hs1 hs2
    go_simp
    exact HC.out.1.made (c := 2) (grow1 _ _) (by decide) ⟨W.heap.size, rfl, sks_blk (((grow1 W _).block _ (lt_of_heap HC.out.2.1)).trans HC.out.2.1) (((grow1 W _).block _ (lt_of_heap HC.out.2.2)).trans HC.out.2.2) (alloc_at0 W _)⟩
  simp only [Act.put, List.setIfInBounds_toArray, List.set_cons_succ, List.set_cons_zero]
  refine' R6.WalkR.nd (fun _ => rfl) rfl (fun D ρ W hK hC => ?_) ?_
  · obtain ⟨b0, hv0, m0, m1⟩ := hC.get (k := 0) (d := 55) (c := 0) (by decide) (hK.pre 0 (by first | decide +kernel | (dsimp only; decide +kernel)))
    obtain ⟨b1, hv1, m2⟩ := hC.get (k := 1) (d := 56) (c := 1) (by decide) (hK.pre 1 (by first | decide +kernel | (dsimp only; decide +kernel)))
    obtain ⟨b2, hv2, m3⟩ := hC.get (k := 3) (d := 58) (c := 2) (by decide) (hK.pre 3 (by first | decide +kernel | (dsimp only; decide +kernel)))
    have HC := Lib.hid (And.intro hC (And.intro m0 (And.intro m1 (And.intro m2 m3))))
    clear hC hK m0 m1 m2 m3
    go_simp
    go_at_call 16
    refine (ftFit_any exPs exTs exGs 5000 [(exSk w15.heap.size (w15.heap.size + 1) 5)] (some ⟨b0, 0, none⟩) 3 (some ⟨b0 + 1, 0, none⟩) 2 (some ⟨b1, 0, none⟩) 2 (some ⟨b2, 0, none⟩) 1 W.heap.size W (Nat.le_refl _) (shAt_blk HC.out.2.1 HC.out.2.2.1 (by decide) (by decide)) (gdAt_blk HC.out.2.2.2.1 (by decide)) HC.out.2.2.2.2 (by simp)).mono ?_
    rintro e W1 ⟨A, c, rfl, hU, hB⟩
    rw [xFit] at hU ⊢
    exact ⟨_, rfl, HC.out.1.made (c := 3) hB (by decide) ⟨A, c, rfl, ownU_weak hU (Nat.zero_le _)⟩⟩
  simp only [Act.put, List.setIfInBounds_toArray, List.set_cons_succ, List.set_cons_zero]
  refine' R6.WalkR.fn 59 (fun v => v) (fun _ => rfl) (by first | decide +kernel | (dsimp only; decide +kernel)) (fun D ρ W hK hC => ?_) ?_
  · obtain ⟨A6, c6, hv, -⟩ := hC.get (k := 4) (d := 59) (c := 3) (by decide) (hK.pre 4 (by first | decide +kernel | (dsimp only; decide +kernel)))
    have HC := Lib.hid hC
    clear hC hK
    go_simp
    first
      | exact HC.out.move (by decide)
      | exact ⟨by rw [hv]; rfl, HC.out.move (by decide)⟩
      | exact ⟨rfl, HC.out.move (by decide)⟩
  simp only [Act.put, List.setIfInBounds_toArray, List.set_cons_succ, List.set_cons_zero]
  refine' R6.WalkR.fn 59 (fun v => tupAt v 0) (fun _ => rfl) (by first | decide +kernel | (dsimp only; decide +kernel)) (fun D ρ W hK hC => ?_) ?_
  · obtain ⟨A6, c6, hv, -⟩ := hC.get (k := 4) (d := 59) (c := 3) (by decide) (hK.pre 4 (by first | decide +kernel | (dsimp only; decide +kernel)))
    have HC := Lib.hid hC
    clear hC hK
    go_simp
    first
      | exact HC.out.move (by decide)
      | exact ⟨by rw [hv]; rfl, HC.out.move (by decide)⟩
      | exact ⟨rfl, HC.out.move (by decide)⟩
  simp only [Act.put, List.setIfInBounds_toArray, List.set_cons_succ, List.set_cons_zero]
  refine' R6.WalkR.fn 59 (fun v => tupAt v 1) (fun _ => rfl) (by first | decide +kernel | (dsimp only; decide +kernel)) (fun D ρ W hK hC => ?_) ?_
  · obtain ⟨A6, c6, hv, -⟩ := hC.get (k := 4) (d := 59) (c := 3) (by decide) (hK.pre 4 (by first | decide +kernel | (dsimp only; decide +kernel)))
    have HC := Lib.hid hC
    clear hC hK
    go_simp
    first
      | exact HC.out.move (by decide)
      | exact ⟨by rw [hv]; rfl, HC.out.move (by decide)⟩
      | exact ⟨rfl, HC.out.move (by decide)⟩
  simp only [Act.put, List.setIfInBounds_toArray, List.set_cons_succ, List.set_cons_zero]
  refine' R6.WalkR.fn 59 (fun v => tupAt v 0) (fun _ => rfl) (by first | decide +kernel | (dsimp only; decide +kernel)) (fun D ρ W hK hC => ?_) ?_
  · obtain ⟨A6, c6, hv, -⟩ := hC.get (k := 4) (d := 59) (c := 3) (by decide) (hK.pre 4 (by first | decide +kernel | (dsimp only; decide +kernel)))
    have HC := Lib.hid hC
    clear hC hK
    go_simp
    first
      | exact HC.out.move (by decide)
      | exact ⟨by rw [hv]; rfl, HC.out.move (by decide)⟩
      | exact ⟨rfl, HC.out.move (by decide)⟩
  simp only [Act.put, List.setIfInBounds_toArray, List.set_cons_succ, List.set_cons_zero]
  refine' R6.WalkR.fn 59 (fun v => tupAt v 1) (fun _ => rfl) (by first | decide +kernel | (dsimp only; decide +kernel)) (fun D ρ W hK hC => ?_) ?_
  · obtain ⟨A6, c6, hv, -⟩ := hC.get (k := 4) (d := 59) (c := 3) (by decide) (hK.pre 4 (by first | decide +kernel | (dsimp only; decide +kernel)))
    have HC := Lib.hid hC
    clear hC hK
    go_simp
    first
      | exact HC.out.move (by decide)
      | exact ⟨by rw [hv]; rfl, HC.out.move (by decide)⟩
      | exact ⟨rfl, HC.out.move (by decide)⟩
  simp only [Act.put, List.setIfInBounds_toArray, List.set_cons_succ, List.set_cons_zero]
  refine R6.WalkR.nil (fun D ρ w18 hD hC => ?_)
  obtain ⟨A8, c8, hv, hu⟩ := hC.get (k := 4) (d := 59) (c := 3) (by decide) (hD 4 (by omega))
  simp only [hv, tupAt]
  have HU := Lib.hid hu
  have HT := Lib.hid (own_grows HT.out hC.bel)
  have HS := Lib.hid (keptK.next hC.bel HS.out)
  have HK := Lib.hid (And.intro (HK.out.1.trans (hC.bel.mono HK.out.1.size)) (keptK.next hC.bel HK.out.2))
  clear hu hv hC hD
  go_wp2_with (first
    | (show wpList _ _ _ (Oper.mk none (Op.store _ (Operand.tmp 8) (Operand.tmp 81)) _ _ _ _ :: _) _ _
       have hm : (w27.alloc (.cells #[.int .i64 0, .int .i64 0] 50)).heap[w27.heap.size]? = some (.cells [Value.int .i64 0, .int .i64 0].toArray 50 (0, 0)) := alloc_at0 _ _
       have hg : Below w27.heap.size w27 (w27.alloc (.cells #[.int .i64 0, .int .i64 0] 50)) := grow1 _ _
       refine wpList_store_blk 50 (.tmp 8) (.tmp 81) (cs := sp2 (0, 0)) rfl rfl rfl rfl rfl hm (Nat.le_of_ble_eq_true rfl) (sp2_one _) rowSpan5 ?_
       intro w28 hP hM
       have hb := hg.trans (hP.below (Nat.le_refl _))
       have HT := Lib.hid (own_grows HT.out hb)
       have HS := Lib.hid (keptK.next hb HS.out)
       have HK := Lib.hid (And.intro (HK.out.1.trans (hb.mono HK.out.1.size)) (keptK.next hb HK.out.2))
       clear hP hM hm hg hb)
    | (go_at_call 26
       refine (grStrength_any exPs exTs exGs 5000 1 3 (some ⟨b6, 0, none⟩) 3 (some ⟨b6 + 1, 0, none⟩) 2 (some ⟨g6, 0, none⟩) 2 w26.heap.size w26 (Nat.le_refl _) (shAt_blk HQ.out.1 HQ.out.2.1 (by decide) (by decide)) (gdAt_blk HQ.out.2.2 (by decide))).mono ?_
       rintro e w27 ⟨rfl, hB⟩
       rw [xStr]
       unfold sp2
       have HT := Lib.hid (own_grows HT.out hB)
       have HS := Lib.hid (keptK.next hB HS.out)
       have HK := Lib.hid (And.intro (HK.out.1.trans (hB.mono HK.out.1.size)) (keptK.next hB HK.out.2))
       clear hB)
    | (go_at_call 22
       refine (exGradingB_any w25).mono ?_
       rintro e w26 ⟨g6, rfl, hb, m3, hB⟩
       have HT := Lib.hid (own_grows HT.out hB)
       have HS := Lib.hid (keptK.next hB HS.out)
       have HK := Lib.hid (And.intro (HK.out.1.trans (hB.mono HK.out.1.size)) (keptK.next hB HK.out.2))
       have HQ := Lib.hid (And.intro ((hB.block _ (lt_of_heap HQ.out.1)).trans HQ.out.1) (And.intro ((hB.block _ (lt_of_heap HQ.out.2)).trans HQ.out.2) m3))
       clear hB hb m3)
    | (go_at_call 23
       refine (exSheetB_any w24).mono ?_
       rintro e w25 ⟨b6, rfl, hb, m1, m2, hB⟩
       have HT := Lib.hid (own_grows HT.out hB)
       have HS := Lib.hid (keptK.next hB HS.out)
       have HK := Lib.hid (And.intro (HK.out.1.trans (hB.mono HK.out.1.size)) (keptK.next hB HK.out.2))
       have HQ := Lib.hid (And.intro m1 m2)
       clear hB hb m1 m2)
    | (go_at_call 25
       refine (grGrade_any exPs exTs exGs 5000 4 (some ⟨b5, 0, none⟩) 3 (some ⟨b5 + 1, 0, none⟩) 2 (some ⟨g5, 0, none⟩) 2 w23.heap.size w23 (Nat.le_refl _) (shAt_blk HQ.out.1 HQ.out.2.1 (by decide) (by decide)) (gdAt_blk HQ.out.2.2 (by decide))).mono ?_
       rintro e w24 ⟨rfl, hB⟩
       rw [xGrade]
       have HT := Lib.hid (own_grows HT.out hB)
       have HS := Lib.hid (keptK.next hB HS.out)
       have HK := Lib.hid (And.intro (HK.out.1.trans (hB.mono HK.out.1.size)) (keptK.next hB HK.out.2))
       clear hB)
    | (go_at_call 22
       refine (exGradingB_any w22).mono ?_
       rintro e w23 ⟨g5, rfl, hb, m3, hB⟩
       have HT := Lib.hid (own_grows HT.out hB)
       have HS := Lib.hid (keptK.next hB HS.out)
       have HK := Lib.hid (And.intro (HK.out.1.trans (hB.mono HK.out.1.size)) (keptK.next hB HK.out.2))
       have HQ := Lib.hid (And.intro ((hB.block _ (lt_of_heap HQ.out.1)).trans HQ.out.1) (And.intro ((hB.block _ (lt_of_heap HQ.out.2)).trans HQ.out.2) m3))
       clear hB hb m3)
    | (go_at_call 23
       refine (exSheetB_any w21).mono ?_
       rintro e w22 ⟨b5, rfl, hb, m1, m2, hB⟩
       have HT := Lib.hid (own_grows HT.out hB)
       have HS := Lib.hid (keptK.next hB HS.out)
       have HK := Lib.hid (And.intro (HK.out.1.trans (hB.mono HK.out.1.size)) (keptK.next hB HK.out.2))
       have HQ := Lib.hid (And.intro m1 m2)
       clear hB hb m1 m2)
    | (show wpList _ _ _ (Oper.mk none (Op.store _ (Operand.tmp 70) _) _ _ _ _ :: _) _ _
       refine wpList_store_v5 3 (.tmp 70) (.const (.int .i64 301)) (v := .int .i64 301) rfl rfl rfl rfl rfl rfl rfl (L := [Value.int .i64 10, .int .i64 1000, .slice (some ⟨w15.heap.size + 1, 0, none⟩) 1 1, .int .i64 200, .int .i64 200, .int .i64 20, .int .i64 5]) HS.out.2.2.1 (Nat.le_of_ble_eq_true rfl) sizeInt1 ?_
       intro w21 hP hM
       have HT := Lib.hid (own_put HT.out hP HS.out.2.2.1 (by decide))
       have hn := HN.out
       have hn5 := HN5.out
       have s0 := (hP.other w15.heap.size (by omega)).trans HS.out.1
       have s1 := (hP.other (w15.heap.size + 1) (by omega)).trans HS.out.2.1
       have HS := Lib.hid (show keptK (lS w15.heap.size (w15.heap.size + 1) w16.heap.size 301) w21 from ⟨s0, s1, hM, trivial⟩)
       clear s0 s1
       have k0 : w21.heap[w4.heap.size]? = some (oX g) := (hP.other _ (by omega)).trans HK.out.2.1
       have k1 : w21.heap[w4.heap.size + 1]? = some (oB p2) := (hP.other _ (by omega)).trans HK.out.2.2.1
       have k2 : w21.heap[w4.heap.size + 1 + 1]? = some (.cells [Value.slice (some ⟨p3, 0, none⟩) 3 3, .slice A4 (exTs ++ [exT6]).length c4].toArray 25 (0, 0)) := (hP.other _ (by omega)).trans HK.out.2.2.2.1
       have k3 : w21.heap[w4.heap.size + 1 + 1 + 1]? = some (oB p4) := (hP.other _ (by omega)).trans HK.out.2.2.2.2.1
       have k4 : w21.heap[g]? = some (oG wdGs) := (hP.other _ (by omega)).trans HK.out.2.2.2.2.2.1
       have k5 : w21.heap[p2]? = some (oP tkPs) := (hP.other _ (by omega)).trans HK.out.2.2.2.2.2.2.1
       have k6 : w21.heap[p2 + 1]? = some (oT exTs) := (hP.other _ (by omega)).trans HK.out.2.2.2.2.2.2.2.1
       have k7 : w21.heap[p3]? = some (oP exPs) := (hP.other _ (by omega)).trans HK.out.2.2.2.2.2.2.2.2.1
       have k8 : w21.heap[p4]? = some (oP ygPs) := (hP.other _ (by omega)).trans HK.out.2.2.2.2.2.2.2.2.2.1
       have k9 : w21.heap[p4 + 1]? = some (oT exTs) := (hP.other _ (by omega)).trans HK.out.2.2.2.2.2.2.2.2.2.2.1
       have HK := Lib.hid (And.intro (HK.out.1.trans (hP.below (by omega))) (show keptK [(w4.heap.size, oX g), (w4.heap.size + 1, oB p2), (w4.heap.size + 1 + 1, .cells [Value.slice (some ⟨p3, 0, none⟩) 3 3, .slice A4 (exTs ++ [exT6]).length c4].toArray 25 (0, 0)), (w4.heap.size + 1 + 1 + 1, oB p4), (g, oG wdGs), (p2, oP tkPs), (p2 + 1, oT exTs), (p3, oP exPs), (p4, oP ygPs), (p4 + 1, oT exTs)] w21 from ⟨k0, k1, k2, k3, k4, k5, k6, k7, k8, k9, trivial⟩))
       clear hn hn5 hP hM k0 k1 k2 k3 k4 k5 k6 k7 k8 k9)
    | (go_at_call 18
       obtain ⟨w19, hw19⟩ : ∃ w19, w18.alloc (.cells #[.int .u8 2, .int .u8 2, .int .u8 2] 5) = w19 := ⟨_, rfl⟩
       have g19 : Grows w18 w19 := by rw [← hw19]; exact grow1 _ _
       have hu : OwnU w19 0 (.slice (some ⟨w18.heap.size, 0, none⟩) 3 3) [2, 2, 2] := own_lit (by rw [← hw19]; exact alloc_at0 _ _) (Nat.zero_le _) rfl rfl (by decide)
       have hx := own_grows HU.out g19
       rw [hw19]
       refine (gtSameKnown_any [2, 2, 2] _ _ _ _ w19 hx hu).mono ?_
       rintro e w20 ⟨rfl, rfl⟩
       have HT := Lib.hid (own_grows HT.out g19)
       have HS := Lib.hid (keptK.next g19 HS.out)
       have HK := Lib.hid (And.intro (HK.out.1.trans (g19.mono HK.out.1.size)) (keptK.next g19 HK.out.2))
       clear hx hu g19 hw19))
  refine R6.wp_walk (C := ResN w28 (exSk w15.heap.size (w15.heap.size + 1) 5) ([], 0) 7 [(1, 85, 1), (6, 10, 4)]) 146 (by kernel_rfl) (by kernel_rfl) rfl (ResN.start (fun _ => rfl)) ?_
  simp only []
  refine' R6.WalkR.det (fun _ => rfl) (fun D ρ W hK hC => ?_) ?_
  rotate_left
  · exact gives_load_blk 25 (.tmp 3) rfl rfl ((hC.bel.block _ (lt_of_heap HK.out.2.2.2.1)).trans HK.out.2.2.2.1) [Value.slice (some ⟨p3, 0, none⟩) 3 3, .slice A4 (exTs ++ [exT6]).length c4] at0 rowSheetP ⟨rfl, hC.move (by decide)⟩
  simp only [Act.put, List.setIfInBounds_toArray, List.set_cons_succ, List.set_cons_zero]
  refine' R6.WalkR.nd (fun _ => rfl) rfl (fun D ρ W hK hC => ?_) ?_
  · skip
    have HC := Lib.hid hC
    clear hC hK
    go_simp
    go_at_call 22
    refine (exGradingB_any W).mono ?_
    rintro e W1 ⟨b, rfl, hb, h1, hB⟩
    exact ⟨_, rfl, HC.out.made (c := 1) hB (by decide) ⟨b, rfl, h1⟩⟩
  simp only [Act.put, List.setIfInBounds_toArray, List.set_cons_succ, List.set_cons_zero]
  refine' R6.WalkR.det (c := .tuple #[.agg #[.int .i64 0, .int .i64 0], .int .i64 52]) (fun _ => rfl) (fun D ρ W hK hC => ?_) ?_
  · obtain ⟨b1, hv1, m2⟩ := hC.get7 (hK.post 7 (by first | decide +kernel | (dsimp only; decide +kernel))) (k := 1) (d := 85) (c := 1) (by decide) (hK.pre 1 (by first | decide +kernel | (dsimp only; decide +kernel)))
    have hsh : ShAt W W.heap.size exPs (exTs ++ [exT6]) (some ⟨p3, 0, none⟩) A4 := by
        have hk := (hC.bel.block _ (lt_of_heap HK.out.2.2.2.2.2.2.2.2.1)).trans HK.out.2.2.2.2.2.2.2.2.1
        exact ⟨(vals_mk5 hk).mono (lt_of_heap hk), Vals.own (own_grows HT.out hC.bel), by decide, by decide⟩
    have HC := Lib.hid (And.intro hC (And.intro hsh m2))
    clear hC hK hsh m2
    go_simp
    go_at_call 26
    refine (grStrength_any exPs (exTs ++ [exT6]) exGs 5000 3 0 _ _ _ _ (some ⟨b1, 0, none⟩) 2 W.heap.size W (Nat.le_refl _) HC.out.2.1 (gdAt_blk HC.out.2.2 (by decide))).mono ?_
    rintro e W1 ⟨rfl, hB⟩
    rw [xWeak]
    exact ⟨_, rfl, rfl, HC.out.1.next hB (by decide)⟩
  simp only [Act.put, List.setIfInBounds_toArray, List.set_cons_succ, List.set_cons_zero]
  iterate 3
    refine' R6.WalkR.det (fun _ => rfl) (fun D ρ W hK hC => ?_) ?_
    rotate_left
    · skip
      have HC := Lib.hid hC
      clear hC hK
      go_simp
      with_reducible exact ⟨rfl, HC.out.move (by decide)⟩
    simp only [Act.put, List.setIfInBounds_toArray, List.set_cons_succ, List.set_cons_zero]
  refine' R6.WalkR.nd (fun _ => rfl) rfl (fun D ρ W hK hC => ?_) ?_
  · skip
    have HC := Lib.hid hC
    clear hC hK
    go_simp
    exact HC.out.made (c := 4) (grow1 _ _) (by decide) ⟨_, rfl, HC.out.bel.size, alloc_at0 _ _⟩
  simp only [Act.put, List.setIfInBounds_toArray, List.set_cons_succ, List.set_cons_zero]
  refine' R6.WalkR.det (c := undef) (fun _ => rfl) (fun D ρ W hK hC => ?_) ?_
  · obtain ⟨b, hv, hb, hm⟩ := hC.get7 hK.me (k := 6) (d := 10) (c := 4) (by decide) (hK.pre 6 (by first | decide +kernel | (dsimp only; decide +kernel)))
    exact gives_store_blk 50 (.tmp 10) (.tmp 87) rfl hv (cs := sp2 (0, 0)) rfl hm (Nat.le_of_ble_eq_true rfl) (sp2_one _) rowSpan5 (fun w9 hP hM => ⟨rfl, hC.put (by decide) hP hb⟩)
  simp only [Act.put, List.setIfInBounds_toArray, List.set_cons_succ, List.set_cons_zero]
  refine' R6.WalkR.det (fun _ => rfl) (fun D ρ W hK hC => ?_) ?_
  rotate_left
  · skip
    have HC := Lib.hid hC
    clear hC hK
    go_simp
    with_reducible exact ⟨rfl, HC.out.move (by decide)⟩
  simp only [Act.put, List.setIfInBounds_toArray, List.set_cons_succ, List.set_cons_zero]
  refine R6.WalkR.nil (fun D ρ w29 hD hC => ?_)
  have hbn := hC.bel
  have HT := Lib.hid (own_grows HT.out hbn)
  have HS := Lib.hid (keptK.next hbn HS.out)
  have HK := Lib.hid (And.intro (HK.out.1.trans (hbn.mono HK.out.1.size)) (keptK.next hbn HK.out.2))
  clear hC hD hbn
  go_wp2
  refine R6.wp_walk (C := ResN w29 (exSk w15.heap.size (w15.heap.size + 1) 5) ([], 0) 7 [(1, 91, 1), (6, 12, 4)]) 146 (by kernel_rfl) (by kernel_rfl) rfl (ResN.start (fun _ => rfl)) ?_
  simp only []
  refine' R6.WalkR.det (fun _ => rfl) (fun D ρ W hK hC => ?_) ?_
  rotate_left
  · exact gives_load_blk 25 (.tmp 4) rfl rfl ((hC.bel.block _ (lt_of_heap HK.out.2.2.2.2.1)).trans HK.out.2.2.2.2.1) [Value.slice (some ⟨p4, 0, none⟩) 3 3, .slice (some ⟨p4 + 1, 0, none⟩) 2 2] at0 rowSheetP ⟨rfl, hC.move (by decide)⟩
  simp only [Act.put, List.setIfInBounds_toArray, List.set_cons_succ, List.set_cons_zero]
  refine' R6.WalkR.nd (fun _ => rfl) rfl (fun D ρ W hK hC => ?_) ?_
  · skip
    have HC := Lib.hid hC
    clear hC hK
    go_simp
    go_at_call 22
    refine (exGradingB_any W).mono ?_
    rintro e W1 ⟨b, rfl, hb, h1, hB⟩
    exact ⟨_, rfl, HC.out.made (c := 1) hB (by decide) ⟨b, rfl, h1⟩⟩
  simp only [Act.put, List.setIfInBounds_toArray, List.set_cons_succ, List.set_cons_zero]
  refine' R6.WalkR.det (c := .tuple #[.agg #[.int .i64 0, .int .i64 0], .int .i64 8]) (fun _ => rfl) (fun D ρ W hK hC => ?_) ?_
  · obtain ⟨b1, hv1, m2⟩ := hC.get7 (hK.post 7 (by first | decide +kernel | (dsimp only; decide +kernel))) (k := 1) (d := 91) (c := 1) (by decide) (hK.pre 1 (by first | decide +kernel | (dsimp only; decide +kernel)))
    have hsh : ShAt W W.heap.size ygPs exTs (some ⟨p4, 0, none⟩) (some ⟨p4 + 1, 0, none⟩) := shAt_blk ((hC.bel.block _ (lt_of_heap HK.out.2.2.2.2.2.2.2.2.2.1)).trans HK.out.2.2.2.2.2.2.2.2.2.1) ((hC.bel.block _ (lt_of_heap HK.out.2.2.2.2.2.2.2.2.2.2.1)).trans HK.out.2.2.2.2.2.2.2.2.2.2.1) (by decide) (by decide)
    have HC := Lib.hid (And.intro hC (And.intro hsh m2))
    clear hC hK hsh m2
    go_simp
    go_at_call 26
    refine (grStrength_any ygPs exTs exGs 5000 3 0 _ _ _ _ (some ⟨b1, 0, none⟩) 2 W.heap.size W (Nat.le_refl _) HC.out.2.1 (gdAt_blk HC.out.2.2 (by decide))).mono ?_
    rintro e W1 ⟨rfl, hB⟩
    rw [xYoung]
    exact ⟨_, rfl, rfl, HC.out.1.next hB (by decide)⟩
  simp only [Act.put, List.setIfInBounds_toArray, List.set_cons_succ, List.set_cons_zero]
  iterate 3
    refine' R6.WalkR.det (fun _ => rfl) (fun D ρ W hK hC => ?_) ?_
    rotate_left
    · skip
      have HC := Lib.hid hC
      clear hC hK
      go_simp
      with_reducible exact ⟨rfl, HC.out.move (by decide)⟩
    simp only [Act.put, List.setIfInBounds_toArray, List.set_cons_succ, List.set_cons_zero]
  refine' R6.WalkR.nd (fun _ => rfl) rfl (fun D ρ W hK hC => ?_) ?_
  · skip
    have HC := Lib.hid hC
    clear hC hK
    go_simp
    exact HC.out.made (c := 4) (grow1 _ _) (by decide) ⟨_, rfl, HC.out.bel.size, alloc_at0 _ _⟩
  simp only [Act.put, List.setIfInBounds_toArray, List.set_cons_succ, List.set_cons_zero]
  refine' R6.WalkR.det (c := undef) (fun _ => rfl) (fun D ρ W hK hC => ?_) ?_
  · obtain ⟨b, hv, hb, hm⟩ := hC.get7 hK.me (k := 6) (d := 12) (c := 4) (by decide) (hK.pre 6 (by first | decide +kernel | (dsimp only; decide +kernel)))
    exact gives_store_blk 50 (.tmp 12) (.tmp 93) rfl hv (cs := sp2 (0, 0)) rfl hm (Nat.le_of_ble_eq_true rfl) (sp2_one _) rowSpan5 (fun w9 hP hM => ⟨rfl, hC.put (by decide) hP hb⟩)
  simp only [Act.put, List.setIfInBounds_toArray, List.set_cons_succ, List.set_cons_zero]
  refine' R6.WalkR.det (fun _ => rfl) (fun D ρ W hK hC => ?_) ?_
  rotate_left
  · skip
    have HC := Lib.hid hC
    clear hC hK
    go_simp
    with_reducible exact ⟨rfl, HC.out.move (by decide)⟩
  simp only [Act.put, List.setIfInBounds_toArray, List.set_cons_succ, List.set_cons_zero]
  refine R6.WalkR.nil (fun D ρ w30 hD hC => ?_)
  have hbn := hC.bel
  have HT := Lib.hid (own_grows HT.out hbn)
  have HS := Lib.hid (keptK.next hbn HS.out)
  have HK := Lib.hid (And.intro (HK.out.1.trans (hbn.mono HK.out.1.size)) (keptK.next hbn HK.out.2))
  clear hC hD hbn
  go_wp2_with (first
    | (go_at_call 14
       obtain ⟨w35, hw35⟩ : ∃ w35, w34.alloc (.cells #[.int .i64 7, .int .i64 0, .int .i64 0, .int .i64 0, .int .i64 1, .int .i64 3, .int .i64 0, .int .i64 104, .slice (some ⟨q1, 0, none⟩) 4 4, .slice (some ⟨q2, 0, none⟩) 1 1, .int .i64 7, .int .i64 0, .int .i64 0, .int .i64 0, .int .i64 1, .int .i64 3, .int .i64 0, .int .i64 104, .slice (some ⟨q3, 0, none⟩) 4 4, .slice (some ⟨q4, 0, none⟩) 1 1] 74) = w35 := ⟨_, rfl⟩
       have g35 : Grows w34 w35 := by rw [← hw35]; exact grow1 _ _
       have m35 : w35.heap[w34.heap.size]? = some (.cells ([(⟨exGr, some ⟨q1, 0, none⟩, 4, some ⟨q2, 0, none⟩, 1⟩ : Gv), (⟨exGr, some ⟨q3, 0, none⟩, 4, some ⟨q4, 0, none⟩, 1⟩ : Gv)].flatMap gvl).toArray 74 (0, 0)) := by rw [← hw35]; exact alloc_at0 _ _
       have hgv : GvsAt w35 w35.heap.size [(⟨exGr, some ⟨q1, 0, none⟩, 4, some ⟨q2, 0, none⟩, 1⟩ : Gv), (⟨exGr, some ⟨q3, 0, none⟩, 4, some ⟨q4, 0, none⟩, 1⟩ : Gv)] (some ⟨w34.heap.size, 0, none⟩) := ⟨(vals_mk5 m35).mono (lt_of_heap m35), fun x hx => by
         simp only [List.mem_cons, List.not_mem_nil, or_false] at hx
         rcases hx with rfl | rfl
         · exact (HR1.out.below g35).mono g35.size
         · exact (HR2.out.below g35).mono g35.size⟩
       have htr := gtTrace_any exPs exTs exGs 5000 [(⟨exGr, some ⟨q1, 0, none⟩, 4, some ⟨q2, 0, none⟩, 1⟩ : Gv), (⟨exGr, some ⟨q3, 0, none⟩, 4, some ⟨q4, 0, none⟩, 1⟩ : Gv)] (some ⟨b7, 0, none⟩) 3 (some ⟨b7 + 1, 0, none⟩) 2 (some ⟨g7, 0, none⟩) 2 (some ⟨w34.heap.size, 0, none⟩) 2 w35.heap.size w35 (Nat.le_refl _) (shAt_blk ((g35.block _ (lt_of_heap HQ.out.1)).trans HQ.out.1) ((g35.block _ (lt_of_heap HQ.out.2.1)).trans HQ.out.2.1) (by decide) (by decide)) (gdAt_blk ((g35.block _ (lt_of_heap HQ.out.2.2)).trans HQ.out.2.2) (by decide)) hgv (by simp)
       rw [hw35]
       refine htr.mono ?_
       rintro e w36 ⟨A9, c9, rfl, hU, hB⟩
       rw [xTrace] at hU ⊢
       have hb := g35.trans (hB.mono g35.size)
       have HT := Lib.hid (own_grows HT.out hb)
       have HS := Lib.hid (keptK.next hb HS.out)
       have HK := Lib.hid (And.intro (HK.out.1.trans (hb.mono HK.out.1.size)) (keptK.next hb HK.out.2))
       clear hb hB hU htr hgv m35 g35 hw35)
    | (go_at_call 27
       refine (exBook_any w33).mono ?_
       rintro e w34 ⟨q3, q4, rfl, hR, hB⟩
       rw [show (gvl ⟨exGr, some ⟨q3, 0, none⟩, 4, some ⟨q4, 0, none⟩, 1⟩).toArray = #[.int .i64 7, .int .i64 0, .int .i64 0, .int .i64 0, .int .i64 1, .int .i64 3, .int .i64 0, .int .i64 104, .slice (some ⟨q3, 0, none⟩) 4 4, .slice (some ⟨q4, 0, none⟩) 1 1] from rfl]
       have HT := Lib.hid (own_grows HT.out hB)
       have HS := Lib.hid (keptK.next hB HS.out)
       have HK := Lib.hid (And.intro (HK.out.1.trans (hB.mono HK.out.1.size)) (keptK.next hB HK.out.2))
       have HQ := Lib.hid (And.intro ((hB.block _ (lt_of_heap HQ.out.1)).trans HQ.out.1) (And.intro ((hB.block _ (lt_of_heap HQ.out.2.1)).trans HQ.out.2.1) ((hB.block _ (lt_of_heap HQ.out.2.2)).trans HQ.out.2.2)))
       have HR1 := Lib.hid ((HR1.out.below hB).mono hB.size)
       have HR2 := Lib.hid hR
       clear hB hR)
    | (go_at_call 27
       refine (exBook_any w32).mono ?_
       rintro e w33 ⟨q1, q2, rfl, hR, hB⟩
       rw [show (gvl ⟨exGr, some ⟨q1, 0, none⟩, 4, some ⟨q2, 0, none⟩, 1⟩).toArray = #[.int .i64 7, .int .i64 0, .int .i64 0, .int .i64 0, .int .i64 1, .int .i64 3, .int .i64 0, .int .i64 104, .slice (some ⟨q1, 0, none⟩) 4 4, .slice (some ⟨q2, 0, none⟩) 1 1] from rfl]
       have HT := Lib.hid (own_grows HT.out hB)
       have HS := Lib.hid (keptK.next hB HS.out)
       have HK := Lib.hid (And.intro (HK.out.1.trans (hB.mono HK.out.1.size)) (keptK.next hB HK.out.2))
       have HQ := Lib.hid (And.intro ((hB.block _ (lt_of_heap HQ.out.1)).trans HQ.out.1) (And.intro ((hB.block _ (lt_of_heap HQ.out.2.1)).trans HQ.out.2.1) ((hB.block _ (lt_of_heap HQ.out.2.2)).trans HQ.out.2.2)))
       have HR1 := Lib.hid hR
       clear hB hR)
    | (go_at_call 22
       refine (exGradingB_any w31).mono ?_
       rintro e w32 ⟨g7, rfl, hb, m3, hB⟩
       have HT := Lib.hid (own_grows HT.out hB)
       have HS := Lib.hid (keptK.next hB HS.out)
       have HK := Lib.hid (And.intro (HK.out.1.trans (hB.mono HK.out.1.size)) (keptK.next hB HK.out.2))
       have HQ := Lib.hid (And.intro ((hB.block _ (lt_of_heap HQ.out.1)).trans HQ.out.1) (And.intro ((hB.block _ (lt_of_heap HQ.out.2)).trans HQ.out.2) m3))
       clear hB hb m3)
    | (go_at_call 23
       refine (exSheetB_any w30).mono ?_
       rintro e w31 ⟨b7, rfl, hb, m1, m2, hB⟩
       have HT := Lib.hid (own_grows HT.out hB)
       have HS := Lib.hid (keptK.next hB HS.out)
       have HK := Lib.hid (And.intro (HK.out.1.trans (hB.mono HK.out.1.size)) (keptK.next hB HK.out.2))
       have HQ := Lib.hid (And.intro m1 m2)
       clear hB hb m1 m2))
  refine R6.wp_walk (C := ResN w36 (exSk w15.heap.size (w15.heap.size + 1) 301) ([], 54) 99 [(0, 105, 0), (1, 106, 1), (3, 108, 2), (4, 109, 3)]) 146 (by kernel_rfl) (by kernel_rfl) rfl (ResN.start (fun _ => rfl)) ?_
  simp only []
  refine' R6.WalkR.nd (fun _ => rfl) rfl (fun D ρ W hK hC => ?_) ?_
  · skip
    have HC := Lib.hid hC
    clear hC hK
    go_simp
    go_at_call 23
    refine (exSheetB_any W).mono ?_
    rintro e W1 ⟨b, rfl, hb, h1, h2, hB⟩
    exact ⟨_, rfl, HC.out.made (c := 0) hB (by decide) ⟨b, rfl, h1, h2⟩⟩
  simp only [Act.put, List.setIfInBounds_toArray, List.set_cons_succ, List.set_cons_zero]
  refine' R6.WalkR.nd (fun _ => rfl) rfl (fun D ρ W hK hC => ?_) ?_
  · skip
    have HC := Lib.hid hC
    clear hC hK
    go_simp
    go_at_call 22
    refine (exGradingB_any W).mono ?_
    rintro e W1 ⟨b, rfl, hb, h1, hB⟩
    exact ⟨_, rfl, HC.out.made (c := 1) hB (by decide) ⟨b, rfl, h1⟩⟩
  simp only [Act.put, List.setIfInBounds_toArray, List.set_cons_succ, List.set_cons_zero]
  refine' R6.WalkR.det (fun _ => rfl) (fun D ρ W hK hC => ?_) ?_
  rotate_left
  · exact gives_load_blk 65 (.tmp 5) rfl rfl ((hC.bel.block _ (lt_of_heap HS.out.2.2.1)).trans HS.out.2.2.1) [Value.int .i64 10, .int .i64 1000, .slice (some ⟨w15.heap.size + 1, 0, none⟩) 1 1, .int .i64 200, .int .i64 200, .int .i64 20, .int .i64 301] at0 rowSoak ⟨rfl, hC.move (by decide)⟩
  simp only [Act.put, List.setIfInBounds_toArray, List.set_cons_succ, List.set_cons_zero]
  refine' R6.WalkR.nd (fun _ => rfl) rfl (fun D ρ W hK hC => ?_) ?_
  · have hs1 := (hC.bel.block _ (lt_of_heap HS.out.1)).trans HS.out.1
    have hs2 := (hC.bel.block _ (lt_of_heap HS.out.2.1)).trans HS.out.2.1
    have HC := Lib.hid (And.intro hC (And.intro hs1 hs2))
    clear hC hK hs1 hs2
    go_simp
    exact HC.out.1.made (c := 2) (grow1 _ _) (by decide) ⟨W.heap.size, rfl, sks_blk (((grow1 W _).block _ (lt_of_heap HC.out.2.1)).trans HC.out.2.1) (((grow1 W _).block _ (lt_of_heap HC.out.2.2)).trans HC.out.2.2) (alloc_at0 W _)⟩
  simp only [Act.put, List.setIfInBounds_toArray, List.set_cons_succ, List.set_cons_zero]
  refine' R6.WalkR.nd (fun _ => rfl) rfl (fun D ρ W hK hC => ?_) ?_
  · obtain ⟨b0, hv0, m0, m1⟩ := hC.get (k := 0) (d := 105) (c := 0) (by decide) (hK.pre 0 (by first | decide +kernel | (dsimp only; decide +kernel)))
    obtain ⟨b1, hv1, m2⟩ := hC.get (k := 1) (d := 106) (c := 1) (by decide) (hK.pre 1 (by first | decide +kernel | (dsimp only; decide +kernel)))
    obtain ⟨b2, hv2, m3⟩ := hC.get (k := 3) (d := 108) (c := 2) (by decide) (hK.pre 3 (by first | decide +kernel | (dsimp only; decide +kernel)))
    have HC := Lib.hid (And.intro hC (And.intro m0 (And.intro m1 (And.intro m2 m3))))
    clear hC hK m0 m1 m2 m3
    go_simp
    go_at_call 16
    refine (ftFit_any exPs exTs exGs 5000 [(exSk w15.heap.size (w15.heap.size + 1) 301)] (some ⟨b0, 0, none⟩) 3 (some ⟨b0 + 1, 0, none⟩) 2 (some ⟨b1, 0, none⟩) 2 (some ⟨b2, 0, none⟩) 1 W.heap.size W (Nat.le_refl _) (shAt_blk HC.out.2.1 HC.out.2.2.1 (by decide) (by decide)) (gdAt_blk HC.out.2.2.2.1 (by decide)) HC.out.2.2.2.2 (by simp)).mono ?_
    rintro e W1 ⟨A, c, rfl, hU, hB⟩
    rw [xFit2] at hU ⊢
    exact ⟨_, rfl, HC.out.1.made (c := 3) hB (by decide) ⟨A, c, rfl, ownU_weak hU (Nat.zero_le _)⟩⟩
  simp only [Act.put, List.setIfInBounds_toArray, List.set_cons_succ, List.set_cons_zero]
  refine' R6.WalkR.fn 109 (fun v => v) (fun _ => rfl) (by first | decide +kernel | (dsimp only; decide +kernel)) (fun D ρ W hK hC => ?_) ?_
  · obtain ⟨A6, c6, hv, -⟩ := hC.get (k := 4) (d := 109) (c := 3) (by decide) (hK.pre 4 (by first | decide +kernel | (dsimp only; decide +kernel)))
    have HC := Lib.hid hC
    clear hC hK
    go_simp
    first
      | exact HC.out.move (by decide)
      | exact ⟨by rw [hv]; rfl, HC.out.move (by decide)⟩
      | exact ⟨rfl, HC.out.move (by decide)⟩
  simp only [Act.put, List.setIfInBounds_toArray, List.set_cons_succ, List.set_cons_zero]
  refine' R6.WalkR.fn 109 (fun v => tupAt v 0) (fun _ => rfl) (by first | decide +kernel | (dsimp only; decide +kernel)) (fun D ρ W hK hC => ?_) ?_
  · obtain ⟨A6, c6, hv, -⟩ := hC.get (k := 4) (d := 109) (c := 3) (by decide) (hK.pre 4 (by first | decide +kernel | (dsimp only; decide +kernel)))
    have HC := Lib.hid hC
    clear hC hK
    go_simp
    first
      | exact HC.out.move (by decide)
      | exact ⟨by rw [hv]; rfl, HC.out.move (by decide)⟩
      | exact ⟨rfl, HC.out.move (by decide)⟩
  simp only [Act.put, List.setIfInBounds_toArray, List.set_cons_succ, List.set_cons_zero]
  refine' R6.WalkR.fn 109 (fun v => tupAt v 1) (fun _ => rfl) (by first | decide +kernel | (dsimp only; decide +kernel)) (fun D ρ W hK hC => ?_) ?_
  · obtain ⟨A6, c6, hv, -⟩ := hC.get (k := 4) (d := 109) (c := 3) (by decide) (hK.pre 4 (by first | decide +kernel | (dsimp only; decide +kernel)))
    have HC := Lib.hid hC
    clear hC hK
    go_simp
    first
      | exact HC.out.move (by decide)
      | exact ⟨by rw [hv]; rfl, HC.out.move (by decide)⟩
      | exact ⟨rfl, HC.out.move (by decide)⟩
  simp only [Act.put, List.setIfInBounds_toArray, List.set_cons_succ, List.set_cons_zero]
  refine' R6.WalkR.fn 109 (fun v => tupAt v 0) (fun _ => rfl) (by first | decide +kernel | (dsimp only; decide +kernel)) (fun D ρ W hK hC => ?_) ?_
  · obtain ⟨A6, c6, hv, -⟩ := hC.get (k := 4) (d := 109) (c := 3) (by decide) (hK.pre 4 (by first | decide +kernel | (dsimp only; decide +kernel)))
    have HC := Lib.hid hC
    clear hC hK
    go_simp
    first
      | exact HC.out.move (by decide)
      | exact ⟨by rw [hv]; rfl, HC.out.move (by decide)⟩
      | exact ⟨rfl, HC.out.move (by decide)⟩
  simp only [Act.put, List.setIfInBounds_toArray, List.set_cons_succ, List.set_cons_zero]
  refine' R6.WalkR.fn 109 (fun v => tupAt v 1) (fun _ => rfl) (by first | decide +kernel | (dsimp only; decide +kernel)) (fun D ρ W hK hC => ?_) ?_
  · obtain ⟨A6, c6, hv, -⟩ := hC.get (k := 4) (d := 109) (c := 3) (by decide) (hK.pre 4 (by first | decide +kernel | (dsimp only; decide +kernel)))
    have HC := Lib.hid hC
    clear hC hK
    go_simp
    first
      | exact HC.out.move (by decide)
      | exact ⟨by rw [hv]; rfl, HC.out.move (by decide)⟩
      | exact ⟨rfl, HC.out.move (by decide)⟩
  simp only [Act.put, List.setIfInBounds_toArray, List.set_cons_succ, List.set_cons_zero]
  refine R6.WalkR.nil (fun D ρ w37 hD hC => ?_)
  obtain ⟨A7, c7, hv, hu⟩ := hC.get (k := 4) (d := 109) (c := 3) (by decide) (hD 4 (by omega))
  simp only [hv, tupAt]
  clear hv hu
  have hbn := hC.bel
  have HT := Lib.hid (own_grows HT.out hbn)
  have HS := Lib.hid (keptK.next hbn HS.out)
  have HK := Lib.hid (And.intro (HK.out.1.trans (hbn.mono HK.out.1.size)) (keptK.next hbn HK.out.2))
  clear hC hD hbn
  go_wp2
  refine R6.wp_walk (C := ResN w37 (exSk w15.heap.size (w15.heap.size + 1) 301) ([], 0) 99 [(23, 135, 0), (30, 142, 1)]) 146 (by kernel_rfl) (by kernel_rfl) rfl (ResN.start (fun _ => rfl)) ?_
  simp only []
  iterate 23
    refine' R6.WalkR.det (fun _ => rfl) (fun D ρ W hK hC => ?_) ?_
    rotate_left
    · skip
      have HC := Lib.hid hC
      clear hC hK
      go_simp
      with_reducible exact ⟨rfl, HC.out.move (by decide)⟩
    simp only [Act.put, List.setIfInBounds_toArray, List.set_cons_succ, List.set_cons_zero]
  refine' R6.WalkR.nd (fun _ => rfl) rfl (fun D ρ W hK hC => ?_) ?_
  · skip
    have HC := Lib.hid hC
    clear hC hK
    go_simp
    go_at_call 23
    refine (exSheetB_any W).mono ?_
    rintro e W1 ⟨b, rfl, hb, h1, h2, hB⟩
    exact ⟨_, rfl, HC.out.made (c := 0) hB (by decide) ⟨b, rfl, h1, h2⟩⟩
  simp only [Act.put, List.setIfInBounds_toArray, List.set_cons_succ, List.set_cons_zero]
  refine' R6.WalkR.det (fun _ => rfl) (fun D ρ W hK hC => ?_) ?_
  rotate_left
  · exact gives_load_blk 28 (.tmp 1) rfl rfl ((hC.bel.block _ (lt_of_heap HK.out.2.1)).trans HK.out.2.1) [Value.slice (some ⟨g, 0, none⟩) 2 2, .int .i64 5000] at0 rowGradingP ⟨rfl, hC.move (by decide)⟩
  simp only [Act.put, List.setIfInBounds_toArray, List.set_cons_succ, List.set_cons_zero]
  refine' R6.WalkR.det (c := .int .i64 50) (fun _ => rfl) (fun D ρ W hK hC => ?_) ?_
  · obtain ⟨b0, hv0, m0, m1⟩ := hC.get (k := 23) (d := 135) (c := 0) (by decide) (hK.pre 23 (needs_edge (by decide +kernel)))
    have hck := grCheck_any exPs exTs wdGs 5000 (some ⟨b0, 0, none⟩) 3 (some ⟨b0 + 1, 0, none⟩) 2 (some ⟨g, 0, none⟩) 2 W.heap.size W (Nat.le_refl _) (shAt_blk m0 m1 (by decide) (by decide)) (gdAt_blk ((hC.bel.block _ (lt_of_heap HK.out.2.2.2.2.2.1)).trans HK.out.2.2.2.2.2.1) (by decide))
    unfold shl gdl at hck
    have HC := Lib.hid (And.intro hC hck)
    clear hC hK hck
    go_simp
    go_at_call 28
    refine HC.out.2.mono ?_
    rintro e W1 ⟨rfl, hB⟩
    rw [xWild]
    exact ⟨_, rfl, rfl, HC.out.1.next hB (by decide)⟩
  simp only [Act.put, List.setIfInBounds_toArray, List.set_cons_succ, List.set_cons_zero]
  iterate 3
    refine' R6.WalkR.det (fun _ => rfl) (fun D ρ W hK hC => ?_) ?_
    rotate_left
    · skip
      have HC := Lib.hid hC
      clear hC hK
      go_simp
      with_reducible exact ⟨rfl, HC.out.move (by decide)⟩
    simp only [Act.put, List.setIfInBounds_toArray, List.set_cons_succ, List.set_cons_zero]
  refine' R6.WalkR.det (fun _ => rfl) (fun D ρ W hK hC => ?_) ?_
  rotate_left
  · exact gives_load_blk 25 (.tmp 2) rfl rfl ((hC.bel.block _ (lt_of_heap HK.out.2.2.1)).trans HK.out.2.2.1) [Value.slice (some ⟨p2, 0, none⟩) 3 3, .slice (some ⟨p2 + 1, 0, none⟩) 2 2] at0 rowSheetP ⟨rfl, hC.move (by decide)⟩
  simp only [Act.put, List.setIfInBounds_toArray, List.set_cons_succ, List.set_cons_zero]
  refine' R6.WalkR.nd (fun _ => rfl) rfl (fun D ρ W hK hC => ?_) ?_
  · skip
    have HC := Lib.hid hC
    clear hC hK
    go_simp
    go_at_call 22
    refine (exGradingB_any W).mono ?_
    rintro e W1 ⟨b, rfl, hb, h1, hB⟩
    exact ⟨_, rfl, HC.out.made (c := 1) hB (by decide) ⟨b, rfl, h1⟩⟩
  simp only [Act.put, List.setIfInBounds_toArray, List.set_cons_succ, List.set_cons_zero]
  refine' R6.WalkR.det (c := .int .i64 51) (fun _ => rfl) (fun D ρ W hK hC => ?_) ?_
  · obtain ⟨b1, hv1, m2⟩ := hC.get (k := 30) (d := 142) (c := 1) (by decide) (hK.pre 30 (needs_edge (by decide +kernel)))
    have hck := grCheck_any tkPs exTs exGs 5000 (some ⟨p2, 0, none⟩) 3 (some ⟨p2 + 1, 0, none⟩) 2 (some ⟨b1, 0, none⟩) 2 W.heap.size W (Nat.le_refl _) (shAt_blk ((hC.bel.block _ (lt_of_heap HK.out.2.2.2.2.2.2.1)).trans HK.out.2.2.2.2.2.2.1) ((hC.bel.block _ (lt_of_heap HK.out.2.2.2.2.2.2.2.1)).trans HK.out.2.2.2.2.2.2.2.1) (by decide) (by decide)) (gdAt_blk m2 (by decide))
    unfold shl gdl at hck
    have HC := Lib.hid (And.intro hC hck)
    clear hC hK hck
    go_simp
    go_at_call 28
    refine HC.out.2.mono ?_
    rintro e W1 ⟨rfl, hB⟩
    rw [xThick]
    exact ⟨_, rfl, rfl, HC.out.1.next hB (by decide)⟩
  simp only [Act.put, List.setIfInBounds_toArray, List.set_cons_succ, List.set_cons_zero]
  iterate 3
    refine' R6.WalkR.det (fun _ => rfl) (fun D ρ W hK hC => ?_) ?_
    rotate_left
    · skip
      have HC := Lib.hid hC
      clear hC hK
      go_simp
      with_reducible exact ⟨rfl, HC.out.move (by decide)⟩
    simp only [Act.put, List.setIfInBounds_toArray, List.set_cons_succ, List.set_cons_zero]
  refine R6.WalkR.nil (fun D ρ w38 hD hC => ?_)
  have HF := Lib.hid (HK.out.1.trans (hC.bel.mono HK.out.1.size))
  clear hC hD
  go_wp2
  go_ret
  exact ⟨rfl, HF.out⟩

end Go.Proofs.YtddpebnmjfmgdaaGreat
