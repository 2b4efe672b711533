/-
  Stand and Taken.
-/
import Derived.Test.YtpnnlmaipcjkmaaGreatQV1
import Derived.Test.YtpnnlmaipcjkmaaGreatQV11
import Derived.Laws.Cover3
import Derived.RangeFuncFrom
import Derived.RangeFuncBox
set_option linter.all false
namespace Go.Proofs.YtpnnlmaipcjkmaaGreat
open Go.RowKit Go.Shelf

attribute [local go_sem] Oper.semAt_some

def recA (g : Gr) (d r k : Nat) : List Value := recC (shotK g k, cutK g k) (ripeK g d r k) (goneK g d r k) (stateP d r (start7 g) g.seas k)
theorem recK_A (g : Gr) (d r k : Nat) : recK g d r k = .agg (recA g d r k).toArray := recK_eq g d r k
theorem recC_len {p : Int × Int} {x : Int} {a b : List Int} (ha : a.length = 7) (hb : b.length = 7) : (recC p x a b).length = 17 := by simp [recC, ints, ha, hb]
theorem recC_one {p : Int × Int} {x : Int} {a b : List Int} : (recC p x a b).toArray.all (·.oneCell') = true := by
  refine all_oneCell_toArray fun v hv => ?_
  simp only [recC, List.mem_cons, List.mem_append] at hv
  rcases hv with rfl | rfl | rfl | hv | hv
  · rfl
  · rfl
  · rfl
  · exact oneCells_ints _ v hv
  · exact oneCells_ints _ v hv
theorem state_len {g : Gr} {d r : Nat} (hf : Fine g d r) {k : Nat} (hk : k ≤ g.seas.length) : (stateP d r (start7 g) g.seas k).length = 7 :=
  stateP_len hf.d6 (start7_len (by have := hf.st; have := hf.d6; omega)) k hk
theorem recA_len {g : Gr} {d r : Nat} (hf : Fine g d r) {k : Nat} (hk : k ≤ g.seas.length) : (recA g d r k).length = 17 := recC_len (goneK_len hf hk) (state_len hf hk)

set_option maxHeartbeats 8000000 in
theorem recordOf_ok (g : Gr) (y : Int) (A1 : Option Addr) (c1 : Nat) (A2 : Option Addr) (c2 : Nat) (B : Nat) (w : World) (hB : B ≤ w.heap.size) (hG : GrAt w B g A1 c1 A2 c2) (hok : okGrove g = true) :
    Calls Tryz.prog 64 #[grv g A1 c1 A2 c2, .int .i64 y] w fun e w' => e = .returned (.tuple #[recR g y, .int .i64 (standErr g y)]) ∧ Below w.heap.size w w' := by
  have e3 : errG g = 0 := by simp [errG, hok]
  obtain ⟨d, r, R⟩ := okGrove_runs hok
  have hf := R.fine
  have ed : g.hab.dies.toNat = d := by rw [hf.hd, Int.toNat_natCast]
  have er : g.hab.ripe.toNat = r := by rw [hf.hr, Int.toNat_natCast]
  have hR1 : ∀ k : Nat, k ≤ g.seas.length → g.first + k = y → recR g y = .agg (recA g d r k).toArray ∧ standErr g y = 0 := by
    intro k hk hy
    have hh : hasY g y = true := by simp only [hasY, inR_iff]; omega
    rw [recR, if_pos ⟨hok, hh⟩, ed, er, show (y - g.first).toNat = k by omega, recK_A]
    exact ⟨rfl, by simp [standErr, hok, hh]⟩
  have hR2 : (∀ j : Nat, j < g.seas.length + 1 → g.first + j ≠ y) → recR g y = .agg zero17 ∧ standErr g y = 6 := by
    intro h
    have hh : hasY g y = false := by
      cases hc : hasY g y with
      | false => rfl
      | true =>
        simp only [hasY, inR_iff] at hc
        exact absurd (show g.first + ((y - g.first).toNat : Nat) = y by omega) (h _ (by omega))
    rw [recR, if_neg (by simp [hh])]
    exact ⟨rfl, by simp [standErr, hok, hh]⟩
  obtain ⟨W4, hW4⟩ : ∃ W4, ((((w.alloc (.cells (gcs g A1 c1 A2 c2) 74)).alloc (.cells #[.int .i64 y] 3)).alloc (.cells zero17 139)).alloc (.cells #[.int .i64 0] 35)) = W4 := ⟨_, rfl⟩
  have hF4 : Four W4 w.heap.size y zero17 0 := by rw [← hW4]; exact four_new w _ y _
  have hb4 : Below w.heap.size w W4 := by rw [← hW4]; exact below4 w _ _ _ _
  have hs4 : W4.heap.size = w.heap.size + 4 := by rw [← hW4]; simp
  have hG4 : W4.heap[w.heap.size]? = some (.cells (gcs g A1 c1 A2 c2) 74 (0, 0)) := by rw [← hW4]; exact (Below.heap_alloc _ _ _ (by simp; omega)).trans (alloc3_at0 w _ _ _)
  have hcG : ∀ i, W4.cell? ⟨w.heap.size, i, none⟩ = _ := fun i => cell_of_row _ w.heap.size i _ _ _ hG4
  have HF4 := Lib.hid hF4
  have Hb4 := Lib.hid hb4
  have HG4 := Lib.hid hG4
  have HF := Lib.hid hf
  have HG := Lib.hid hG
  have HR1 := Lib.hid hR1
  have HR2 := Lib.hid hR2
  have E3 := Lib.hid e3
  clear hF4 hb4 hG4 hf hR1 hR2 R ed er e3 hok hG
  unfold grv
  refine (callsIn_wide (n := 4)).1 ?_
  refine callsIn_of_wp_marks Tryz.func64 rfl trivial ?_ rfl
  simp only [Tryz.ntmps64, List.size_toArray, List.length_cons, List.length_nil, Nat.reduceAdd, Nat.reduceSub, Array.replicate_succ, Array.replicate_zero, List.push_toArray, List.append_toArray, List.nil_append, List.cons_append]
  gi_wp2_with (first
    | (refine ⟨trivial, ?_⟩
       gi_at_call 78
       refine (callsIn_wide.2 (check_anyL1 g A1 c1 A2 c2 B W4 (by omega) (HG.out.below (Hb4.out.mono hB)))).mono ?_
       rintro e w1 ⟨rfl, hB1⟩
       rw [E3.out]
       have F1 := Lib.hid (HF4.out.below hB1 (by omega))
       have B1 := Lib.hid (Hb4.out.trans (hB1.mono (by omega)))
       have hs1 := hB1.size
       have hcG1 : ∀ i, w1.cell? ⟨w.heap.size, i, none⟩ = _ := fun i => cell_of_row _ w.heap.size i _ _ _ ((hB1.block _ (by omega)).trans HG4.out)
       clear hB1)
    | (refine ⟨trivial, ?_⟩
       gi_at_call 113
       refine (callsIn_wide.2 (records_any g A1 c1 A2 c2 _)).mono ?_
       rintro e w2 ⟨rfl, hw2⟩
       have H2 := Lib.hid hw2
       clear hw2))
  have hs2 : w2.heap.size = w1.heap.size + 1 := by rw [H2.out]; simp
  have hb2 : Below w.heap.size w w2 := by rw [H2.out]; exact B1.out.alloc (by omega) _
  have hF2 : Four w2 w.heap.size y zero17 0 := by rw [H2.out]; exact F1.out.below ((Below.refl _ _).alloc (Nat.le_refl _) _) (by omega)
  have hbox : w2.heap[w1.heap.size]? = some (.cells (gcs g A1 c1 A2 c2) 74 (0, 0)) := by rw [H2.out]; exact alloc_at0 _ _
  have hG2 : GrAt w2 w.heap.size g A1 c1 A2 c2 := (HG.out.mono hB).below hb2
  clear hcG hcG1
  refine wpIn_rangeX rfl (by omega) (gf := 150) (lb := #[.pointer (some ⟨w1.heap.size, 0, none⟩)]) rfl trivial (enters_of Tryz.func150 (by kernel_rfl) rfl)
    (records1 g A1 c1 A2 c2 d r HF.out (4 - 1) w.heap.size w1.heap.size (by omega) w2 (by omega) (by omega) hG2 hbox) (Below.refl _ _) (by omega) (by omega)
    (fun r' hr' => by
      obtain ⟨k, hk, rfl⟩ := List.mem_map.1 hr'
      rfl)
    (fun k => k = w.heap.size + 1 + 1 ∨ k = w.heap.size + 1 + 1 + 1) (fun k hk => by omega)
    (fun k A => (∀ j : Nat, j < k → g.first + j ≠ y) ∧ Four A w.heap.size y zero17 0 ∧ Below w.heap.size w A)
    (fun c k A => c = .ret ∧ g.first + k = y ∧ Four A w.heap.size y (recA g d r k).toArray 0 ∧ Below w.heap.size w A)
    (fun k A B hi hb => ⟨hi.1, hi.2.1.below hb (by omega), hi.2.2.trans (hb.mono (by omega))⟩)
    (fun c k A B hi hb => ⟨hi.1, hi.2.1, hi.2.2.1.below hb (by omega), hi.2.2.2.trans (hb.mono (by omega))⟩)
    ⟨fun j hj => by omega, hF2, hb2⟩
    (fun k b a' A => ∃ b', b ≤ b' ∧ A.heap[b']? = some (.cells (recA g d r k).toArray 139 (0, 0)) ∧
      a' = { tmps := #[.agg (gcs g A1 c1 A2 c2), .int .i64 y, .pointer (some ⟨w.heap.size, 0, none⟩), .pointer (some ⟨w.heap.size + 1, 0, none⟩), .pointer (some ⟨w.heap.size + 1 + 1, 0, none⟩), .pointer (some ⟨w.heap.size + 1 + 1 + 1, 0, none⟩),
        .int .i64 0, .int .i64 (g.first + k), .pointer (some ⟨b', 0, none⟩), .agg (gcs g A1 c1 A2 c2), .int .i64 0, .int .i64 0, .bool false, undef, undef, .agg (gcs g A1 c1 A2 c2),
        .func (.func 150) #[] #[.pointer (some ⟨w1.heap.size, 0, none⟩)], .int .i64 (g.first + k), .agg (recA g d r k).toArray, undef, undef, undef, undef, undef], defers := [] })
    (fun k b a' A B hx hj => by
      obtain ⟨b', hb, hc, ha⟩ := hx
      exact ⟨b', hb, (hj b' hb).trans hc, ha⟩) ?assign ?body ?done ?stop
  case assign =>
    rintro l k r' W1 K hr' ⟨_, _, _⟩ hK
    have hk : k < (rowsP g d r).length := (List.getElem?_eq_some_iff.1 hr').1
    rw [rowsP_len] at hk
    rw [rowsP_at (by omega)] at hr'
    obtain rfl : rowP g d r k = r' := Option.some.inj hr'
    have hlen := recA_len HF.out (show k ≤ g.seas.length by omega)
    rw [show rowP g d r k = #[.int .i64 (g.first + k), recK g d r k] from rfl, recK_A]
    have hsz : zero17.size = (recA g d r k).toArray.size := by simp [hlen]
    have hrow : RowTy Tryz.prog 139 (recA g d r k).toArray.size := by rw [← hsz]; exact rowRecord
    have hone : (recA g d r k).toArray.all (·.oneCell') = true := recC_one
    have hKK := Lib.hid hK
    have HO := Lib.hid (And.intro hsz (And.intro hrow hone))
    clear hK hr' hlen hsz hrow hone
    gi_wp2_with
      (show wpListIn _ _ _ _ _ (Oper.mk none (Op.store _ (Operand.tmp 8) (Operand.tmp 18)) _ _ _ _ :: _) _ _
       refine wpListIn_store_blk 139 (.tmp 8) (.tmp 18) rfl rfl rfl rfl (alloc_at0 W1 _) HO.out.1 HO.out.2.2 HO.out.2.1 ?_
       intro w3 hP3 hM3
       have H3 := Lib.hid (And.intro hP3 hM3)
       clear hP3 hM3)
    exact hKK.out _ _ (((Below.refl _ W1).alloc (Nat.le_refl _) _).trans (H3.out.1.below (Nat.le_refl _))) ⟨_, Nat.le_refl _, H3.out.2, rfl⟩
  case body =>
    rintro l k b r' a' W1 hr' hwb hbW' ⟨hall, hfour, hbel⟩ ⟨b', hbb, hc, rfl⟩
    have hk : k < (rowsP g d r).length := (List.getElem?_eq_some_iff.1 hr').1
    rw [rowsP_len] at hk
    have hlen := recA_len HF.out (show k ≤ g.seas.length by omega)
    have hsz : zero17.size = (recA g d r k).toArray.size := by simp [hlen]
    have hrow : RowTy Tryz.prog 139 (recA g d r k).toArray.size := by rw [← hsz]; exact rowRecord
    have hrow2 : RowTy Tryz.prog 139 (recA g d r k).length := by rw [hlen]; exact rowRecord
    have hone : (recA g d r k).toArray.all (·.oneCell') = true := recC_one
    have hcy := cell_of_row _ (w.heap.size + 1) 0 _ _ _ hfour.y
    have HH := Lib.hid (And.intro hall (And.intro hfour (And.intro hbel hc)))
    have HO := Lib.hid (And.intro hsz (And.intro hrow (And.intro hrow2 hone)))
    clear hall hfour hbel hc hr' hlen hsz hrow hrow2 hone
    by_cases hy : g.first + (k : Int) = y
    · have Hy := Lib.hid hy
      gi_wp2_with (first
        | (show wpListIn _ _ _ _ _ (Oper.mk (some 22) _ _ _ _ _ :: _) _ _
           refine wpListIn_load_blk 139 (.tmp 8) rfl rfl rfl HH.out.2.2.2 (recA g d r k) (fun j v hj => by rw [Nat.zero_add, List.getElem?_toArray]; exact hj) HO.out.2.2.1 ?_)
        | (show wpListIn _ _ _ _ _ (Oper.mk none (Op.store _ (Operand.tmp 4) (Operand.tmp 22)) _ _ _ _ :: _) _ _
           refine wpListIn_store_blk 139 (.tmp 4) (.tmp 22) rfl rfl rfl rfl HH.out.2.1.r HO.out.1 HO.out.2.2.2 HO.out.2.1 ?_
           intro w3 hP3 hM3
           have hE3 := (hP3.other (w.heap.size + 1 + 1 + 1) (by omega)).trans HH.out.2.1.e
           have hce := cell_of_row _ (w.heap.size + 1 + 1 + 1) 0 _ _ _ hE3
           have hfe := frozen_of_row _ (w.heap.size + 1 + 1 + 1) 0 _ _ hE3
           have H3 := Lib.hid (And.intro hE3 (And.intro hP3 hM3))
           clear hE3 hP3 hM3))
      have hset := heap_setCell_same w3 (w.heap.size + 1 + 1 + 1) 0 _ _ (.int .i64 0) H3.out.1
      exact ⟨(H3.out.2.1.keepsX _ (.inl (.inl rfl))).setCell (.inl (.inl (.inr rfl))) _, rfl, Hy.out,
        ⟨(heap_setCell_other w3 ⟨w.heap.size + 1 + 1 + 1, 0, none⟩ (w.heap.size + 1) (.int .i64 0) (by simp)).trans ((H3.out.2.1.other _ (by omega)).trans HH.out.2.1.y),
          (heap_setCell_other w3 ⟨w.heap.size + 1 + 1 + 1, 0, none⟩ (w.heap.size + 1 + 1) (.int .i64 0) (by simp)).trans H3.out.2.2, hset⟩,
        (HH.out.2.2.1.trans (H3.out.2.1.below (by omega))).setCell (by simp; omega) _⟩
    · gi_wp2_with fail
      exact ⟨KeepsX.refl _ _, fun j hj => by
        rcases Nat.lt_succ_iff_lt_or_eq.1 hj with h | rfl
        · exact HH.out.1 j h
        · exact hy, HH.out.2.1, HH.out.2.2.1⟩
  case done =>
    rintro D W3 rfl ⟨hall, hfour, hbel⟩ hD
    rw [hs2] at hD
    rw [rowsP_len] at hall
    have hres := HR2.out hall
    have HH := Lib.hid (And.intro hfour (And.intro hbel (And.intro hD hres)))
    clear hall hfour hbel hD hres
    gi_wp2_with
      (show wpListIn _ _ _ _ _ (Oper.mk none (Op.store _ (Operand.tmp 4) (Operand.tmp 23)) _ _ _ _ :: _) _ _
       refine wpListIn_store_blk 139 (.tmp 4) (.tmp 23) rfl rfl rfl rfl HH.out.1.r rfl ?h1 rowRecord ?_
       case h1 => simp [Value.oneCell']
       intro w4 hP4 hM4
       have hE4 := (hP4.other (w.heap.size + 1 + 1 + 1) (by omega)).trans HH.out.1.e
       have hce := cell_of_row _ (w.heap.size + 1 + 1 + 1) 0 _ _ _ hE4
       have hfe := frozen_of_row _ (w.heap.size + 1 + 1 + 1) 0 _ _ hE4
       have H4 := Lib.hid (And.intro hE4 (And.intro hP4 hM4))
       clear hE4 hP4 hM4)
    rw [HH.out.2.2.2.1, HH.out.2.2.2.2]
    have hset := heap_setCell_same w4 (w.heap.size + 1 + 1 + 1) 0 _ _ (.int .i64 6) H4.out.1
    have hset' : (w4.setCell ⟨w.heap.size + 1 + 1 + 1, 0, none⟩ (.int .i64 6)).heap[w.heap.size + 1 + 1 + 1]? = some (.cells #[.int .i64 6] 35 (0, 0)) := hset
    have hd2 := (heap_setCell_other w4 ⟨w.heap.size + 1 + 1 + 1, 0, none⟩ (w1.heap.size + 1) (.int .i64 6) (by simp; omega)).trans ((H4.out.2.1.other _ (by omega)).trans HH.out.2.2.1)
    have hcE := fun i => cell_of_row _ (w.heap.size + 1 + 1 + 1) i _ _ _ ((World.putObj_heap_other (r := (w1.heap.size + 1)) (o := .deferred none) (show w.heap.size + 1 + 1 + 1 ≠ (w1.heap.size + 1) by omega)).trans hset')
    have hcR := fun i => cell_of_row _ (w.heap.size + 1 + 1) i _ _ _ ((World.putObj_heap_other (r := (w1.heap.size + 1)) (o := .deferred none) (show w.heap.size + 1 + 1 ≠ (w1.heap.size + 1) by omega)).trans ((heap_setCell_other w4 ⟨w.heap.size + 1 + 1 + 1, 0, none⟩ (w.heap.size + 1 + 1) (.int .i64 6) (by simp)).trans H4.out.2.2))
    refine ⟨by simp, .inl ⟨_, _, rfl, run_takeDeferred hd2, ?_⟩⟩
    refine ⟨.tuple #[.agg zero17, .int .i64 6], by simp [results, Tryz.results64, go_sem, hcE, hcR], rfl, ?_⟩
    exact below_putObj ((HH.out.2.1.trans (H4.out.2.1.below (by omega))).setCell (by simp; omega) _) (by omega) _
  case stop =>
    rintro D c k W3 rfl hk ⟨rfl, hy, hfour, hbel⟩ hD
    rw [rowsP_len] at hk
    have hres := HR1.out k (by omega) hy
    obtain ⟨t0, t1, t2, t3, t4, t5, t6, ht⟩ := len7 (goneK_len HF.out (show k ≤ g.seas.length by omega))
    obtain ⟨f0, f1, f2, f3, f4, f5, f6, hf⟩ := len7 (state_len HF.out (show k ≤ g.seas.length by omega))
    have hrA : recA g d r k = [.int .i64 (shotK g k), .int .i64 (cutK g k), .int .i64 (ripeK g d r k), .int .i64 t0, .int .i64 t1, .int .i64 t2, .int .i64 t3, .int .i64 t4, .int .i64 t5, .int .i64 t6, .int .i64 f0, .int .i64 f1, .int .i64 f2, .int .i64 f3, .int .i64 f4, .int .i64 f5, .int .i64 f6] := by
      simp only [recA, ht, hf]; rfl
    rw [hrA] at hres hfour
    have HH := Lib.hid (And.intro hfour (And.intro hbel (And.intro hD hres)))
    clear hfour hbel hD hres ht hf hrA
    gi_wp2_with fail
    rw [HH.out.2.2.2.1, HH.out.2.2.2.2]
    have hcE := fun i => cell_of_row _ (w.heap.size + 1 + 1 + 1) i _ _ _ ((World.putObj_heap_other (r := w2.heap.size) (o := .deferred none) (show w.heap.size + 1 + 1 + 1 ≠ w2.heap.size by omega)).trans HH.out.1.e)
    have hcR := fun i => cell_of_row _ (w.heap.size + 1 + 1) i _ _ _ ((World.putObj_heap_other (r := w2.heap.size) (o := .deferred none) (show w.heap.size + 1 + 1 ≠ w2.heap.size by omega)).trans HH.out.1.r)
    refine ⟨by simp, .inl ⟨_, _, rfl, run_takeDeferred HH.out.2.2.1, ?_⟩⟩
    refine ⟨_, ?_, rfl, below_putObj HH.out.2.1 (by omega) _⟩
    simp [results, Tryz.results64, go_sem, hcE, hcR]

end Go.Proofs.YtpnnlmaipcjkmaaGreat

namespace Go.Proofs.YtpnnlmaipcjkmaaGreat
open Go.RowKit Go.Shelf

theorem recordOf_any (g : Gr) (y : Int) (A1 : Option Addr) (c1 : Nat) (A2 : Option Addr) (c2 : Nat) (B : Nat) (w : World) (hB : B ≤ w.heap.size) (hG : GrAt w B g A1 c1 A2 c2) :
    Calls Tryz.prog 64 #[grv g A1 c1 A2 c2, .int .i64 y] w fun e w' => e = .returned (.tuple #[recR g y, .int .i64 (standErr g y)]) ∧ Below w.heap.size w w' := by
  cases h : okGrove g with
  | true => exact recordOf_ok g y A1 c1 A2 c2 B w hB hG h
  | false => exact recordOf_bad g y A1 c1 A2 c2 B w hB hG h

theorem recC_at {p : Int × Int} {x : Int} {a b : List Int} (ha : a.length = 7) {k : Nat} : (k < a.length → (recC p x a b)[3 + k]? = some (.int .i64 (a[k]?.getD 0))) ∧ (k < b.length → (recC p x a b)[10 + k]? = some (.int .i64 (b[k]?.getD 0))) := by
  constructor
  · intro hk
    rw [show 3 + k = k + 1 + 1 + 1 by omega]
    simp only [recC, List.getElem?_cons_succ]
    rw [List.getElem?_append_left (by simpa [ints] using hk)]
    exact ints_atL a k hk
  · intro hk
    rw [show 10 + k = (7 + k) + 1 + 1 + 1 by omega]
    simp only [recC, List.getElem?_cons_succ]
    rw [List.getElem?_append_right (by simp [ints, ha]), show 7 + k - (ints a).length = k by simp [ints, ha]]
    exact ints_atL b k hk

theorem recR_in {g : Gr} {y : Int} {d r : Nat} (R : Runs g d r) (hok : okGrove g = true) (hy : hasY g y = true) : ∃ m, m ≤ g.seas.length ∧ y = g.first + m ∧ recR g y = .agg (recA g d r m).toArray ∧ standErr g y = 0 ∧
    standVal g y = runL g.start (g.seas.take m) ∧ takenVal g y = takesTo y (goneAt g m) g.start.length := by
  have hf := R.fine
  have hy' := hy
  simp only [hasY, inR_iff] at hy'
  refine ⟨(y - g.first).toNat, by omega, by omega, ?_, by simp [standErr, hok, hy], by simp [standVal, hok, hy], by simp [takenVal, hok, hy]⟩
  rw [recR, if_pos ⟨hok, hy⟩, hf.hd, hf.hr, Int.toNat_natCast, Int.toNat_natCast, recK_A]

end Go.Proofs.YtpnnlmaipcjkmaaGreat

namespace Go.Proofs.YtpnnlmaipcjkmaaGreat
open Go.RowKit Go.Shelf

end Go.Proofs.YtpnnlmaipcjkmaaGreat

namespace Go.Proofs.YtpnnlmaipcjkmaaGreat
open Go.RowKit Go.Shelf

attribute [local go_sem] Oper.semAt_some

def Kp2 (S Bg : Nat) (W W' : World) : Prop := W'.heap[S]? = W.heap[S]? ∧ W'.heap[Bg]? = W.heap[Bg]?
abbrev Idx (zs : List Int) : Type := { i : Nat // i < zs.length }
def encI (zs : List Int) (x : Idx zs) : Array Value := #[.int .i64 (x.1 : Int), .int .i64 (zs[x.1]?.getD 0)]

theorem backward_any (a : Option Addr) (len cap : Nat) (w : World) :
    Calls Tryz.prog 65 #[.slice a len cap] w fun e w' => e = .returned (.func (.func 114) #[] #[.pointer (some ⟨w.heap.size, 0, none⟩)]) ∧ w' = w.alloc (.cells #[.slice a len cap] 59) := by
  go_enter Tryz.func65, Tryz.ntmps65
  go_wp2
  go_ret
  exact ⟨rfl, rfl⟩

theorem rev_take {n k : Nat} (hk : k < n) : (List.range n).reverse.take (k + 1) = (List.range n).reverse.take k ++ [n - 1 - k] := by
  rw [List.take_succ_eq_append_getElem (by simpa using hk)]
  simp

set_option maxRecDepth 100000 in
set_option maxHeartbeats 4000000 in
theorem backward_stops (n S off Bg cap : Nat) (zs : List Int) (hn : 1 ≤ n) (hl : zs.length ≤ 1000) (_ : zs.length ≤ cap) (w : World) (hS : S < w.heap.size) (hBg : Bg < w.heap.size)
    (hbox : w.heap[Bg]? = some (.cells #[.slice (some ⟨S, off, none⟩) zs.length cap] 59 (0, 0))) (hz : ∀ j, j < zs.length → w.cell? ⟨S, off + j, none⟩ = some (.int .i64 (zs[j]?.getD 0))) :
    SeqStopsK Fence.wide n Tryz.prog 114 #[.pointer (some ⟨Bg, 0, none⟩)] (encI zs) (Kp2 S Bg) (fun xs => xs.map (·.1) = (List.range zs.length).reverse) (fun _ => True) zs.length w := by
  intro l J Jx W hW _ _ hY h0
  have hbW := (hW.block Bg hBg).trans hbox
  have hSW := hW.block S hS
  have hzW : ∀ j, j < zs.length → W.cell? ⟨S, off + j, none⟩ = some (.int .i64 (zs[j]?.getD 0)) := fun j hj => (World.cell?_of_block (w := w) hSW).trans (hz j hj)
  have HY := Lib.hid hY
  have HZ := Lib.hid hzW
  have HB := Lib.hid hbW
  have hcB := fun i => cell_of_row W Bg i _ _ _ hbW
  clear hY hzW hbW hbox hz hSW hW
  refine callsIn_of_wp Tryz.func114 rfl trivial ?_ rfl
  simp only [Tryz.ntmps114, List.size_toArray, List.length_cons, List.length_nil, Nat.reduceAdd, Nat.reduceSub, Array.replicate_succ, Array.replicate_zero, List.push_toArray, List.append_toArray, List.nil_append, List.cons_append]
  gi_wp2_with fail
  gi_loopw [3] (fun i wr => ∃ (k : Nat) (pre : List (Idx zs)), k ≤ zs.length ∧ i = .int .i64 ((zs.length : Int) - 1 - k) ∧ Hid (pre.map (·.1) = (List.range zs.length).reverse.take k) ∧ Hid (J pre wr) ∧ Hid (Kp2 S Bg W wr))
    (fun i _ => (intOf i + 1).toNat)
  case atStart => exact ⟨0, [], Nat.zero_le _, by simp, by simp [Hid], h0, rfl, rfl⟩
  case round =>
    obtain ⟨k, pre, hk, rfl, hpre, hJ, hK⟩ := hrel
    have hcB2 := fun i => cell_of_row wr Bg i _ _ _ (hK.out.2.trans HB.out)
    by_cases hlt : k < zs.length
    · obtain ⟨j, hj⟩ : ∃ j : Nat, j = zs.length - 1 - k := ⟨_, rfl⟩
      have e1 : ((zs.length : Int) - 1 - k) = (j : Int) := by omega
      have hjl : j < zs.length := by omega
      have hcz : wr.cell? ⟨S, off + j, none⟩ = some (.int .i64 (zs[j]?.getD 0)) := (World.cell?_of_block (w := W) hK.out.1).trans (HZ.out j hjl)
      have hpl : pre.length = k := by have := congrArg List.length hpre.out; simpa [Nat.min_eq_left hk] using this
      have hy := HY.out pre ⟨j, hjl⟩ wr hJ.out (by omega)
      rw [show encI zs ⟨j, hjl⟩ = #[.int .i64 (j : Int), .int .i64 (zs[j]?.getD 0)] from rfl] at hy
      generalize zs[j]?.getD 0 = x at hcz hy
      have hnext : ((pre ++ [(⟨j, hjl⟩ : Idx zs)]).map (·.1)) = (List.range zs.length).reverse.take (k + 1) := by
        rw [rev_take hlt, List.map_append, hpre.out, ← hj]; rfl
      have hj2 : ((zs.length : Int) - 1 - ((k + 1 : Nat) : Int)) = (j : Int) - 1 := by omega
      have hjn : (j : Int) < (zs.length : Int) := by omega
      have hj0 : (0 : Int) ≤ (j : Int) := by omega
      have hj9 : (j : Int) ≤ 1000 := by omega
      rw [e1]
      have Hy := Lib.hid hy
      have HN := Lib.hid (And.intro hnext hj2)
      clear hy hnext hj2 e1 hj hpl
      gi_wp2_with
        (show wpListIn _ _ _ _ _ (Oper.mk (some 17) _ _ _ _ _ :: _) _ _
         refine wpListIn_yield (.tmp 11) #[.tmp 12, .tmp 16] #[3, 3] ?hgd ?ho ?hF hn (l := l) ?hf ?hvs Hy.out ?_
         case hgd => rfl
         case ho => rfl
         case hF => exact fun _ => trivial
         case hf => rfl
         case hvs => simp [Act.eval]
         rintro e w7 (⟨rfl, hJ7, hK7⟩ | ⟨rfl, hx7⟩)
         refine ⟨_, rfl, ?_⟩
         have J7 := Lib.hid (And.intro hJ7 hK7)
         clear hJ7 hK7
         rotate_left
         refine ⟨_, rfl, ?_⟩
         have J7 := Lib.hid hx7
         clear hx7
         rotate_right)
      case roundEnd =>
        go_roundw
        case rel => exact ⟨k + 1, _, by omega, by rw [HN.out.2], HN.out.1, J7.out.1, J7.out.2.1.trans hK.out.1, J7.out.2.2.trans hK.out.2⟩
        case measure => simp [intOf] <;> omega
      refine bodyPost_ret (results_none rfl _ _ _) rfl ?_
      exact ⟨⟨_, rfl⟩, .inr ⟨_, trivial, J7.out⟩⟩
    · obtain rfl : k = zs.length := by omega
      have e1 : ((zs.length : Int) - 1 - (zs.length : Int)) = -1 := by omega
      rw [e1]
      gi_wp2_with fail
      go_end0
      exact ⟨⟨_, rfl⟩, .inl ⟨pre, by have := hpre.out; rw [List.take_of_length_le (by simp)] at this; exact this, hJ.out⟩⟩

end Go.Proofs.YtpnnlmaipcjkmaaGreat

namespace Go.Proofs.YtpnnlmaipcjkmaaGreat
open Go.RowKit Go.Shelf

attribute [local go_sem] Oper.semAt_some

def tk (y : Int) (zs : List Int) (is : List Nat) : List (Int × Int) := is.flatMap fun (i : Nat) => if 0 < zs[i]?.getD 0 then [(y - (i : Int), zs[i]?.getD 0)] else []
theorem tk_app (y : Int) (zs : List Int) (a b : List Nat) : tk y zs (a ++ b) = tk y zs a ++ tk y zs b := by simp [tk]
theorem tk_len (y : Int) (zs : List Int) (is : List Nat) : (tk y zs is).length ≤ is.length := by
  induction is with
  | nil => simp [tk]
  | cons i is ih =>
    have e : tk y zs (i :: is) = tk y zs [i] ++ tk y zs is := tk_app y zs [i] is
    rw [e, List.length_append, List.length_cons]
    have : (tk y zs [i]).length ≤ 1 := by
      simp only [tk, List.flatMap_cons, List.flatMap_nil, List.append_nil]
      split <;> simp
    omega
theorem takesTo_tk (y : Int) (zs : List Int) : ∀ k, k ≤ zs.length → takesTo y zs k = tk y zs ((List.range zs.length).reverse.take k) := by
  intro k
  induction k with
  | zero => intro _; simp [takesTo, tk]
  | succ k ih =>
    intro hk
    rw [rev_take (by omega), tk_app, ← ih (by omega)]
    simp [takesTo, tk]

theorem takesTo_pad (y : Int) {l : List Int} (h7 : l.length ≤ 7) : ∀ k, k ≤ l.length → takesTo y (pad7 l) (7 - l.length + k) = takesTo y l k := by
  have hz : ∀ j, j ≤ 7 - l.length → takesTo y (pad7 l) j = [] := by
    intro j
    induction j with
    | zero => intro _; rfl
    | succ j ih =>
      intro hj
      simp only [takesTo]
      rw [ih (by omega), pad7_len h7]
      have : (pad7 l)[7 - 1 - j]?.getD 0 = 0 := by
        unfold pad7
        rw [List.getElem?_append_right (by omega), List.getElem?_replicate]
        split <;> rfl
      rw [this]
      simp
  intro k
  induction k with
  | zero => intro _; rw [Nat.add_zero, hz _ (Nat.le_refl _)]; rfl
  | succ k ih =>
    intro hk
    rw [show 7 - l.length + (k + 1) = (7 - l.length + k) + 1 by omega]
    simp only [takesTo]
    rw [ih (by omega), pad7_len h7, show 7 - 1 - (7 - l.length + k) = l.length - 1 - k by omega, pad7_at (by omega)]

def ixs {zs : List Int} (pre : List (Idx zs)) : List Nat := pre.map (·.1)
theorem ixs_app {zs : List Int} (pre : List (Idx zs)) (x : Idx zs) : ixs (pre ++ [x]) = ixs pre ++ [x.1] := by simp [ixs]
theorem ixs_len {zs : List Int} (pre : List (Idx zs)) : (ixs pre).length = pre.length := by simp [ixs]

theorem own_mono {w : World} {base base' : Nat} {e : TypeId} {size n : Nat} {v : Value} {xs : List Value} (h : w.ownsRow base e size v n xs) (hb : base' ≤ base) : w.ownsRow base' e size v n xs :=
  ⟨h.1, h.2.imp id fun ⟨g, cap, cur, hv, hg, rest⟩ => ⟨g, cap, cur, hv, Nat.le_trans hb hg, rest⟩⟩
theorem own_blockL1 {w : World} {base : Nat} {e : TypeId} {size n : Nat} {v : Value} {xs : List Value} (h : w.ownsRow base e size v n xs) : ∀ k, v.ownBlock = some k → base ≤ k := by
  intro k hk
  rcases h.2 with ⟨rfl, _⟩ | ⟨g, cap, cur, rfl, hg, _⟩
  · simp [Value.ownBlock] at hk
  · obtain rfl : g = k := by simpa [Value.ownBlock] using hk
    exact hg
theorem cell_two_new (w : World) (x y : Value) (t : TypeId) : ∀ j u, [x, y][j]? = some u → (w.alloc (.cells #[x, y] t)).cell? ((⟨w.heap.size, 0, none⟩ : Addr).add j) = some u := fun j u hj => by
  rw [Addr.add_mid, Nat.zero_add, cell_of_row _ w.heap.size j _ _ _ (alloc_at0 w _)]
  simpa using hj

set_option maxRecDepth 100000 in
set_option maxHeartbeats 8000000 in
theorem taken_in (g : Gr) (y : Int) (A1 : Option Addr) (c1 : Nat) (A2 : Option Addr) (c2 : Nat) (B : Nat) (w : World) (hB : B ≤ w.heap.size) (hG : GrAt w B g A1 c1 A2 c2) (hok : okGrove g = true) (hy : hasY g y = true) :
    Calls Tryz.prog 38 #[grv g A1 c1 A2 c2, .int .i64 y] w (TakePost w (takenVal g y) (standErr g y)) := by
  obtain ⟨d, r, R⟩ := okGrove_runs hok
  obtain ⟨m, hm, hym, eR, eE, -, eV⟩ := recR_in R hok hy
  have hf := R.fine
  have hst := (state_link R m hm).2
  have hgl := goneAt_len (g := g) m
  rw [hf.st] at hgl
  have hd6 := hf.d6
  have h7 := takesTo_pad y (l := goneAt g m) (by omega) (d + 1) (by omega)
  rw [hgl, show 7 - (d + 1) + (d + 1) = 7 by omega, ← hst] at h7
  have eV7 : takenVal g y = takesTo y (goneK g d r m) 7 := by rw [eV, hf.st, h7]
  have h7' := takesTo_tk y (goneK g d r m) 7 (by rw [goneK_len hf hm]; omega)
  rw [List.take_of_length_le (by rw [List.length_reverse, List.length_range, goneK_len hf hm]; omega)] at h7'
  rw [h7'] at eV7
  obtain ⟨t0, t1, t2, t3, t4, t5, t6, ht⟩ := len7 (goneK_len hf hm)
  obtain ⟨f0, f1, f2, f3, f4, f5, f6, hff⟩ := len7 (state_len hf hm)
  have hrA : recA g d r m = [.int .i64 (shotK g m), .int .i64 (cutK g m), .int .i64 (ripeK g d r m), .int .i64 t0, .int .i64 t1, .int .i64 t2, .int .i64 t3, .int .i64 t4, .int .i64 t5, .int .i64 t6, .int .i64 f0, .int .i64 f1, .int .i64 f2, .int .i64 f3, .int .i64 f4, .int .i64 f5, .int .i64 f6] := by
    simp only [recA, ht, hff]; rfl
  have hcells : ∀ k, k < (goneK g d r m).length → (recA g d r m).toArray[3 + k]? = some (.int .i64 ((goneK g d r m)[k]?.getD 0)) := fun k hk => by
    rw [List.getElem?_toArray]
    exact (recC_at (p := (shotK g m, cutK g m)) (x := ripeK g d r m) (goneK_len hf hm) (b := stateP d r (start7 g) g.seas m) (k := k)).1 hk
  have hy0 : 0 ≤ y := by have := hf.f0; omega
  have hy9 : y ≤ 3060 := by have := hf.f1; have := hf.sl; omega
  rw [eV7, eE]
  have hzl := goneK_len hf hm
  generalize goneK g d r m = zs at hcells hzl ht ⊢
  rw [hrA] at eR hcells
  generalize shotK g m = q0 at eR hcells
  generalize cutK g m = q1 at eR hcells
  generalize ripeK g d r m = q2 at eR hcells
  obtain ⟨w2, hw2⟩ : ∃ w2, (w.alloc (.cells (gcs g A1 c1 A2 c2) 74)).alloc (.cells #[.int .i64 y] 3) = w2 := ⟨_, rfl⟩
  have hb2 : Below w.heap.size w w2 := by rw [← hw2]; exact ((Below.refl _ _).alloc (Nat.le_refl _) _).alloc (by simp) _
  have hs2 : w2.heap.size = w.heap.size + 2 := by rw [← hw2]; simp
  have hG2 : w2.heap[w.heap.size]? = some (.cells (gcs g A1 c1 A2 c2) 74 (0, 0)) := by rw [← hw2]; exact alloc2_at0 _ _ _
  have hY2 : w2.heap[w.heap.size + 1]? = some (.cells #[.int .i64 y] 3 (0, 0)) := by rw [← hw2]; exact alloc2_at1 _ _ _
  have hcG2 := fun i => cell_of_row w2 w.heap.size i _ _ _ hG2
  have hcY2 := fun i => cell_of_row w2 (w.heap.size + 1) i _ _ _ hY2
  have H := recordOf_any g y A1 c1 A2 c2 B w2 (by omega) (hG.below (hb2.mono hB))
  rw [eR, eE] at H
  have HH := Lib.hid H
  have HC := Lib.hid hcells
  have HY2 := Lib.hid hY2
  have Hb2 := Lib.hid hb2
  have HZL := Lib.hid hzl
  clear H hcells R hok hy eR eE eV eV7 hf hst ht hff hrA hG hzl hG2 hY2 hb2 h7 h7' hgl hym hm
  unfold grv
  refine (callsIn_wide (n := 4)).1 ?_
  refine callsIn_of_wp_marks Tryz.func38 rfl trivial ?_ rfl
  simp only [Tryz.ntmps38, List.size_toArray, List.length_cons, List.length_nil, Nat.reduceAdd, Nat.reduceSub, Array.replicate_succ, Array.replicate_zero, List.push_toArray, List.append_toArray, List.nil_append, List.cons_append]
  gi_wp2_with (first
    | (refine ⟨trivial, ?_⟩
       gi_at_call 64
       refine (callsIn_wide.2 HH.out).mono ?_
       rintro e w1 ⟨rfl, hB1⟩
       have hs1 := hB1.size
       have B1 := Lib.hid hB1
       clear hB1)
    | (refine ⟨trivial, ?_⟩
       gi_at_call 65
       refine (callsIn_wide.2 (backward_any _ _ _ _)).mono ?_
       rintro e w3 ⟨rfl, hw3⟩
       have H3 := Lib.hid hw3
       clear hw3))
  have h3 : w3 = ((w1.alloc (.cells #[.int .i64 q0, .int .i64 q1, .int .i64 q2, .int .i64 t0, .int .i64 t1, .int .i64 t2, .int .i64 t3, .int .i64 t4, .int .i64 t5, .int .i64 t6, .int .i64 f0, .int .i64 f1, .int .i64 f2, .int .i64 f3, .int .i64 f4, .int .i64 f5, .int .i64 f6] 139)).alloc (.cells #[.slice none 0 0] 97)).alloc (.cells #[.slice (some ⟨w1.heap.size, 3, none⟩) 7 7] 59) := H3.out
  have hs3 : w3.heap.size = w1.heap.size + 3 := by rw [h3]; simp
  have hb3 : Below w1.heap.size w1 w3 := by rw [h3]; exact (((Below.refl _ _).alloc (Nat.le_refl _) _).alloc (by simp) _).alloc (by simp; omega) _
  have hS3 : w3.heap[w1.heap.size]? = some (.cells #[.int .i64 q0, .int .i64 q1, .int .i64 q2, .int .i64 t0, .int .i64 t1, .int .i64 t2, .int .i64 t3, .int .i64 t4, .int .i64 t5, .int .i64 t6, .int .i64 f0, .int .i64 f1, .int .i64 f2, .int .i64 f3, .int .i64 f4, .int .i64 f5, .int .i64 f6] 139 (0, 0)) := by rw [h3]; exact alloc3_at0 _ _ _ _
  have hT3 : Boxed w3 (w1.heap.size + 1) 97 (.slice none 0 0) := by rw [h3]; exact alloc3_at1 _ _ _ _
  have hB3 : w3.heap[w1.heap.size + 1 + 1]? = some (.cells #[.slice (some ⟨w1.heap.size, 3, none⟩) zs.length 7] 59 (0, 0)) := by rw [h3, HZL.out]; exact alloc3_at2 _ _ _ _
  have hbw : Below w.heap.size w w3 := Hb2.out.trans ((B1.out.mono (by omega)).trans (hb3.mono (by omega)))
  have hcy3 : w3.cell? ⟨w.heap.size + 1, 0, none⟩ = some (.int .i64 y) := cell_of_row _ (w.heap.size + 1) 0 _ _ _ ((hb3.block _ (by omega)).trans ((B1.out.block _ (by omega)).trans HY2.out))
  have hzc : ∀ j, j < zs.length → w3.cell? ⟨w1.heap.size, 3 + j, none⟩ = some (.int .i64 (zs[j]?.getD 0)) := fun j hj => (cell_of_row _ _ _ _ _ _ hS3).trans (HC.out j hj)
  clear h3 hcG2 hcY2 hw2
  have hseq := backward_stops (4 - 1) w1.heap.size 3 (w1.heap.size + 1 + 1) 7 zs (by omega) (by rw [HZL.out]; omega) (by rw [HZL.out]; omega) w3 (by omega) (by omega) hB3 hzc
  refine wpIn_rangeFunc_ownF rfl (by omega) (gf := 114) (lb := #[.pointer (some ⟨w1.heap.size + 1 + 1, 0, none⟩)]) rfl trivial (enters_of Tryz.func114 (by kernel_rfl) rfl) hseq
    (fun h k => ⟨k.1.trans h.1, k.2.trans h.2⟩)
    (fun W l o o' hl _ _ _ => ⟨World.putObj_heap_other (by omega), World.putObj_heap_other (by omega)⟩) (Below.refl _ _) (fun _ => rfl)
    (fun pre A => (∃ v, Boxed A (w1.heap.size + 1) 97 v ∧ A.ownsRow (w1.heap.size + 3) 101 2 v (tk y zs (ixs pre)).length (pairs (tk y zs (ixs pre))) ∧ True) ∧ (A.cell? ⟨w.heap.size + 1, 0, none⟩ = some (.int .i64 y) ∧ Below w.heap.size w3 A))
    (fun _ _ _ => False)
    (OwnFrom.and (Own.from (holdsRow_own (w1.heap.size + 3) (w1.heap.size + 1) 97 101 2 _ _ (fun _ _ => True)) _) (OwnFrom.and (Own.from (fun s A B row hs hg hr => cell_kept hs hg hr) _) (ownFrom_below (w₀ := w3) (by omega) (by omega))))
    (fun _ _ _ _ _ hs _ _ => hs)
    ⟨⟨_, hT3, by simpa [tk, pairs, ixs] using World.ownsRow_nil w3 (w1.heap.size + 3) 101 2, trivial⟩, hcy3, Below.refl _ _⟩
    (fun x => { tmps := #[.agg #[.int .i64 g.id, .int .i64 g.hab.lo, .int .i64 g.hab.hi, .int .i64 g.hab.bears, .int .i64 g.hab.ripe, .int .i64 g.hab.dies, .int .i64 g.hab.keep, .int .i64 g.first, .slice A1 g.start.length c1, .slice A2 g.seas.length c2], .int .i64 y, .pointer (some ⟨w.heap.size, 0, none⟩), .pointer (some ⟨w.heap.size + 1, 0, none⟩), .slice none 0 0, .int .i64 0, .pointer (some ⟨w1.heap.size, 0, none⟩), .int .i64 0, .pointer (some ⟨w1.heap.size + 1, 0, none⟩),
      .int .i64 (x.1 : Int), .int .i64 (zs[x.1]?.getD 0), .tuple #[.agg #[.int .i64 q0, .int .i64 q1, .int .i64 q2, .int .i64 t0, .int .i64 t1, .int .i64 t2, .int .i64 t3, .int .i64 t4, .int .i64 t5, .int .i64 t6, .int .i64 f0, .int .i64 f1, .int .i64 f2, .int .i64 f3, .int .i64 f4, .int .i64 f5, .int .i64 f6], .int .i64 0], .agg #[.int .i64 g.id, .int .i64 g.hab.lo, .int .i64 g.hab.hi, .int .i64 g.hab.bears, .int .i64 g.hab.ripe, .int .i64 g.hab.dies, .int .i64 g.hab.keep, .int .i64 g.first, .slice A1 g.start.length c1, .slice A2 g.seas.length c2], .int .i64 y, .tuple #[.agg #[.int .i64 q0, .int .i64 q1, .int .i64 q2, .int .i64 t0, .int .i64 t1, .int .i64 t2, .int .i64 t3, .int .i64 t4, .int .i64 t5, .int .i64 t6, .int .i64 f0, .int .i64 f1, .int .i64 f2, .int .i64 f3, .int .i64 f4, .int .i64 f5, .int .i64 f6], .int .i64 0], .agg #[.int .i64 q0, .int .i64 q1, .int .i64 q2, .int .i64 t0, .int .i64 t1, .int .i64 t2, .int .i64 t3, .int .i64 t4, .int .i64 t5, .int .i64 t6, .int .i64 f0, .int .i64 f1, .int .i64 f2, .int .i64 f3, .int .i64 f4, .int .i64 f5, .int .i64 f6], .int .i64 0, .int .i64 0, .bool false, undef, .pointer (some ⟨w1.heap.size, 3, none⟩), .slice (some ⟨w1.heap.size, 3, none⟩) 7 7,
      .func (.func 114) #[] #[.pointer (some ⟨w1.heap.size + 1 + 1, 0, none⟩)], .int .i64 (x.1 : Int), .int .i64 (zs[x.1]?.getD 0), undef, undef, undef, undef, undef, undef, undef, undef, undef, undef, undef], defers := [] }) ?assign ?body ?done ?stop
  case assign =>
    intro l x W K hK
    have hlx := x.2
    have hKK := Lib.hid hK
    clear hK
    simp only [encI]
    generalize zs[x.1]?.getD 0 = z at hKK ⊢
    gi_wp2_with fail
    exact hKK.out
  case body =>
    rintro l pre x W ⟨⟨v, hv, hrow, -⟩, hcy, hbel⟩ hlt
    have hx7 : x.1 < 7 := Nat.lt_of_lt_of_eq x.2 HZL.out
    have hxi : (x.1 : Int) < 7 := by omega
    have hxi0 : (0 : Int) ≤ (x.1 : Int) := by omega
    have htk : tk y zs (ixs (pre ++ [x])) = tk y zs (ixs pre) ++ tk y zs [x.1] := by rw [ixs_app, tk_app]
    have hone : tk y zs [x.1] = if 0 < zs[x.1]?.getD 0 then [(y - (x.1 : Int), zs[x.1]?.getD 0)] else [] := by simp [tk]
    have hkl := tk_len y zs (ixs pre)
    rw [ixs_len] at hkl
    rw [HZL.out] at hlt
    have hsW : w1.heap.size + 3 ≤ W.heap.size := by have := hbel.size; omega
    rw [hone] at htk
    generalize zs[x.1]?.getD 0 = z at htk ⊢
    generalize tk y zs (ixs pre) = L at hrow htk hkl
    have hvc := hv.cell
    have HR := Lib.hid (And.intro hv (And.intro hrow (And.intro hcy hbel)))
    have HK := Lib.hid htk
    by_cases hz : 0 < z
    · obtain ⟨i0, hi, hz0, hz1, hz2⟩ := info_parts Tryz.info101
      have HI := Lib.hid (And.intro hi (And.intro hz0 (And.intro hz1 hz2)))
      clear hv hrow hbel htk hone hi hz0 hz1 hz2
      gi_wp2_with
        (gi_at_builtin
         refine wpListIn_append_own _ rfl (.tmp 27) (.tmp 33) 97 rfl (w1.heap.size + 3) 101 i0 _ 2 16 Tryz.underlying97 HI.out.1 HI.out.2.1 HI.out.2.2.1 HI.out.2.2.2 rfl (by decide) v L.length (pairs L) rfl (HR.out.2.1.alloc _)
           ⟨W.heap.size, 0, none⟩ 1 1 [.int .i64 (y - (x.1 : Int)), .int .i64 z] rfl rfl (cell_two_new _ _ _ _) (by simp [Value.oneCell']) (by simp only [maxLen]; omega) (by omega) (by simp; omega) ?_
         intro v' w4 hown' hgrow _
         obtain ⟨g', cap', rfl⟩ := ownsRow_succ hown'
         obtain ⟨hv1, hv2, _, hk2, hb2⟩ := HR.out.1.appended (n₀ := w1.heap.size + 1) (by decide) (own_mono HR.out.2.1 (by omega)) (by omega) (Nat.le_refl _) (own_mono hown' (by omega)) hgrow
         have hc1 := hv1.cell
         have hf1 := hv1.frozen
         have H4 := Lib.hid (And.intro hv1 (And.intro hv2 (And.intro hk2 (And.intro hb2 (And.intro hown' hgrow)))))
         clear hv1 hv2 hk2 hb2 hown' hgrow)
      have htk := HK.out
      rw [if_pos hz] at htk
      have hr2 := H4.out.2.2.2.2.1.kept (grownBy_setCell' w4 (w1.heap.size + 1) (.slice (some ⟨g', 0, none⟩) (L.length + 1) cap')) (.inr (H4.out.1.not_row (by decide) H4.out.2.2.2.2.1).symm)
      have hb2 := H4.out.2.2.2.1
      have hkB : (w4.setCell ⟨w1.heap.size + 1, 0, none⟩ (.slice (some ⟨g', 0, none⟩) (L.length + 1) cap')).heap[w1.heap.size + 1 + 1]? = W.heap[w1.heap.size + 1 + 1]? :=
        (Below.heap_setCell _ _ _ _ (by simp)).trans ((H4.out.2.2.2.2.2.block (w1.heap.size + 1 + 1) (by simp; omega) (fun e => by have := own_blockL1 HR.out.2.1 _ e.symm; omega)).trans (Below.heap_alloc _ _ _ (by omega)))
      refine ⟨H4.out.2.2.1, ⟨hb2.block _ (by omega), hkB⟩, ⟨_, H4.out.2.1, ?_, trivial⟩, (hb2.cell (p := ⟨w.heap.size + 1, 0, none⟩) (by simp; omega)).trans HR.out.2.2.1, HR.out.2.2.2.trans (hb2.mono (by omega))⟩
      rw [htk]
      simpa [pairs_app, pairs] using hr2
    · gi_wp2_with fail
      have htk := HK.out
      rw [if_neg (by omega), List.append_nil] at htk
      refine ⟨KeepsOthers.refl _, ⟨rfl, rfl⟩, ⟨v, HR.out.1, ?_⟩, HR.out.2.2⟩
      rw [htk]
      first | exact HR.out.2.1 | exact ⟨HR.out.2.1, trivial⟩
  case done =>
    rintro D xs W hD hxs ⟨⟨v, hv, hrow, -⟩, hcy, hbel⟩ hDd
    rw [show ixs xs = _ from hxs] at hrow
    obtain ⟨L, hL⟩ : ∃ L, tk y zs (List.range zs.length).reverse = L := ⟨_, rfl⟩
    rw [hL] at hrow
    have HL := Lib.hid hL
    clear hL
    have hvc := hv.cell
    have hrow2 := ownsRow_putObj hrow (.deferred none) hDd rfl
    have hbelF := below_putObj (hbw.trans hbel) (r := D) (by omega) (.deferred none)
    rcases hrow.2 with ⟨rfl, h0⟩ | ⟨g0, cap0, cur, rfl, _⟩
    · have HR := Lib.hid (And.intro h0 (And.intro hbelF hDd))
      clear hrow hrow2 hbel hbelF hDd hv h0
      gi_wp2_with fail
      refine ⟨by simp, .inl ⟨_, _, rfl, run_takeDeferred HR.out.2.2, ?_⟩⟩
      refine ⟨.tuple #[.slice none 0 0, .int .i64 0], by simp [results, Tryz.results38, go_sem], ?_⟩
      rw [HL.out, List.eq_nil_of_length_eq_zero HR.out.1]
      exact TakePost.nil HR.out.2.1
    · have HR := Lib.hid (And.intro hrow2 (And.intro hbelF hDd))
      clear hrow hrow2 hbel hbelF hDd hv
      gi_wp2_with fail
      refine ⟨by simp, .inl ⟨_, _, rfl, run_takeDeferred HR.out.2.2, ?_⟩⟩
      refine ⟨.tuple #[.slice (some ⟨g0, 0, none⟩) L.length cap0, .int .i64 0], by simp [results, Tryz.results38, go_sem], ?_⟩
      rw [HL.out]
      exact ⟨some ⟨g0, 0, none⟩, cap0, rfl, Vals.own HR.out.1, HR.out.2.1⟩
  case stop =>
    rintro D c pre W _ _ h _
    exact h.elim

end Go.Proofs.YtpnnlmaipcjkmaaGreat

namespace Go.Proofs.YtpnnlmaipcjkmaaGreat
open Go.RowKit Go.Shelf

set_option maxHeartbeats 2000000 in
theorem taken_out (g : Gr) (y : Int) (A1 : Option Addr) (c1 : Nat) (A2 : Option Addr) (c2 : Nat) (B : Nat) (w : World) (hB : B ≤ w.heap.size) (hG : GrAt w B g A1 c1 A2 c2) (hno : ¬ (okGrove g = true ∧ hasY g y = true)) :
    Calls Tryz.prog 38 #[grv g A1 c1 A2 c2, .int .i64 y] w (TakePost w (takenVal g y) (standErr g y)) := by
  have eR : recR g y = .agg zero17 := by rw [recR, if_neg hno]; rfl
  have eV : takenVal g y = [] := by rw [takenVal, if_neg hno]
  have eE : standErr g y = 6 ∨ standErr g y = 10 := by
    unfold standErr
    split
    · split
      · rename_i h1 h2; exact absurd ⟨h1, h2⟩ hno
      · exact .inl rfl
    · exact .inr rfl
  obtain ⟨w2, hw2⟩ : ∃ w2, (w.alloc (.cells (gcs g A1 c1 A2 c2) 74)).alloc (.cells #[.int .i64 y] 3) = w2 := ⟨_, rfl⟩
  have hb2 : Below w.heap.size w w2 := by rw [← hw2]; exact ((Below.refl _ _).alloc (Nat.le_refl _) _).alloc (by simp) _
  have hs2 : w2.heap.size = w.heap.size + 2 := by rw [← hw2]; simp
  have hG2 : w2.heap[w.heap.size]? = some (.cells (gcs g A1 c1 A2 c2) 74 (0, 0)) := by rw [← hw2]; exact alloc2_at0 _ _ _
  have hY2 : w2.heap[w.heap.size + 1]? = some (.cells #[.int .i64 y] 3 (0, 0)) := by rw [← hw2]; exact alloc2_at1 _ _ _
  have hcG2 := fun i => cell_of_row w2 w.heap.size i _ _ _ hG2
  have hcY2 := fun i => cell_of_row w2 (w.heap.size + 1) i _ _ _ hY2
  have H := recordOf_any g y A1 c1 A2 c2 B w2 (by omega) (hG.below (hb2.mono hB))
  rw [eR] at H
  rw [eV]
  generalize standErr g y = er at H eE ⊢
  have HH := Lib.hid H
  have Hb2 := Lib.hid hb2
  clear H eR eV hG hno hG2 hY2 hb2
  unfold grv
  rcases eE with rfl | rfl
  all_goals
    refine (callsIn_wide (n := 4)).1 ?_
    refine callsIn_of_wp_marks Tryz.func38 rfl trivial ?_ rfl
    simp only [Tryz.ntmps38, List.size_toArray, List.length_cons, List.length_nil, Nat.reduceAdd, Nat.reduceSub, Array.replicate_succ, Array.replicate_zero, List.push_toArray, List.append_toArray, List.nil_append, List.cons_append]
    gi_wp2_with
      (refine ⟨trivial, ?_⟩
       gi_at_call 64
       refine (callsIn_wide.2 HH.out).mono ?_
       rintro e w1 ⟨rfl, hB1⟩
       have hs1 := hB1.size
       have B1 := Lib.hid hB1
       clear hB1)
    refine ⟨_, ?_, TakePost.nil ((Hb2.out.trans (B1.out.mono (by omega))).alloc (by omega) _)⟩
    simp [results, Tryz.results38, go_sem]

theorem taken_any (g : Gr) (y : Int) (A1 : Option Addr) (c1 : Nat) (A2 : Option Addr) (c2 : Nat) (B : Nat) (w : World) (hB : B ≤ w.heap.size) (hG : GrAt w B g A1 c1 A2 c2) :
    Calls Tryz.prog 38 #[grv g A1 c1 A2 c2, .int .i64 y] w (TakePost w (takenVal g y) (standErr g y)) := by
  by_cases h : okGrove g = true ∧ hasY g y = true
  · exact taken_in g y A1 c1 A2 c2 B w hB hG h.1 h.2
  · exact taken_out g y A1 c1 A2 c2 B w hB hG h

end Go.Proofs.YtpnnlmaipcjkmaaGreat
