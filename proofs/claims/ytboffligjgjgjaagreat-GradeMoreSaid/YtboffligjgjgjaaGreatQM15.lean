/-
  The record of a year of a book.
-/
import Derived.Test.YtboffligjgjgjaaGreatQM1
import Derived.Test.YtboffligjgjgjaaGreatQM14
set_option linter.all false
namespace Go.Proofs.YtboffligjgjgjaaGreat
open Go.RowKit Go.Shelf

attribute [local go_sem] Oper.semAt_some

/-- The cells of the k-th record. -/
def recA (g : Gr) (d r k : Nat) : List Value := recC (shotK g k, cutK g k) (ripeK g d r k) (goneK g d r k) (stateP d r (start7 g) g.seas k)
theorem recK_A (g : Gr) (d r k : Nat) : recK g d r k = .agg (recA g d r k).toArray := recK_eq g d r k
theorem recC_len {p : Int × Int} {x : Int} {a b : List Int} (ha : a.length = 7) (hb : b.length = 7) : (recC p x a b).length = 17 := by simp [recC, ints, ha, hb]
theorem recC_one {p : Int × Int} {x : Int} {a b : List Int} : (recC p x a b).toArray.all (·.oneCell') = true := by
  refine all_oneCell_toArray fun v hv => ?_
  simp only [recC, List.mem_cons, List.mem_append] at hv
  rcases hv with rfl | rfl | rfl | hv | hv
  · rfl
  · rfl
  · rfl
  · exact oneCells_ints _ v hv
  · exact oneCells_ints _ v hv
theorem state_len {g : Gr} {d r : Nat} (hf : Fine g d r) {k : Nat} (hk : k ≤ g.seas.length) : (stateP d r (start7 g) g.seas k).length = 7 :=
  stateP_len hf.d6 (start7_len (by have := hf.st; have := hf.d6; omega)) k hk
theorem recA_len {g : Gr} {d r : Nat} (hf : Fine g d r) {k : Nat} (hk : k ≤ g.seas.length) : (recA g d r k).length = 17 := recC_len (goneK_len hf hk) (state_len hf hk)

set_option maxHeartbeats 8000000 in
theorem recordOf_ok (g : Gr) (y : Int) (A1 : Option Addr) (c1 : Nat) (A2 : Option Addr) (c2 : Nat) (B : Nat) (w : World) (hB : B ≤ w.heap.size) (hG : GrAt w B g A1 c1 A2 c2) (hok : okGrove g = true) :
    Calls Tryz.prog 64 #[grv g A1 c1 A2 c2, .int .i64 y] w fun e w' => e = .returned (.tuple #[recR g y, .int .i64 (standErr g y)]) ∧ Below w.heap.size w w' := by
  have e3 : errG g = 0 := by simp [errG, hok]
  obtain ⟨d, r, R⟩ := okGrove_runs hok
  have hf := R.fine
  have ed : g.hab.dies.toNat = d := by rw [hf.hd, Int.toNat_natCast]
  have er : g.hab.ripe.toNat = r := by rw [hf.hr, Int.toNat_natCast]
  have hR1 : ∀ k : Nat, k ≤ g.seas.length → g.first + k = y → recR g y = .agg (recA g d r k).toArray ∧ standErr g y = 0 := by
    intro k hk hy
    have hh : hasY g y = true := by simp only [hasY, inR_iff]; omega
    rw [recR, if_pos ⟨hok, hh⟩, ed, er, show (y - g.first).toNat = k by omega, recK_A]
    exact ⟨rfl, by simp [standErr, hok, hh]⟩
  have hR2 : (∀ j : Nat, j < g.seas.length + 1 → g.first + j ≠ y) → recR g y = .agg zero17 ∧ standErr g y = 6 := by
    intro h
    have hh : hasY g y = false := by
      cases hc : hasY g y with
      | false => rfl
      | true =>
        simp only [hasY, inR_iff] at hc
        exact absurd (show g.first + ((y - g.first).toNat : Nat) = y by omega) (h _ (by omega))
    rw [recR, if_neg (by simp [hh])]
    exact ⟨rfl, by simp [standErr, hok, hh]⟩
  obtain ⟨W4, hW4⟩ : ∃ W4, ((((w.alloc (.cells (gcs g A1 c1 A2 c2) 74)).alloc (.cells #[.int .i64 y] 3)).alloc (.cells zero17 139)).alloc (.cells #[.int .i64 0] 35)) = W4 := ⟨_, rfl⟩
  have hF4 : Four W4 w.heap.size y zero17 0 := by rw [← hW4]; exact four_new w _ y _
  have hb4 : Below w.heap.size w W4 := by rw [← hW4]; exact below4 w _ _ _ _
  have hs4 : W4.heap.size = w.heap.size + 4 := by rw [← hW4]; simp
  have hG4 : W4.heap[w.heap.size]? = some (.cells (gcs g A1 c1 A2 c2) 74 (0, 0)) := by rw [← hW4]; exact (Below.heap_alloc _ _ _ (by simp; omega)).trans (alloc3_at0 w _ _ _)
  have hcG : ∀ i, W4.cell? ⟨w.heap.size, i, none⟩ = _ := fun i => cell_of_row _ w.heap.size i _ _ _ hG4
  have HF4 := Lib.hid hF4
  have Hb4 := Lib.hid hb4
  have HG4 := Lib.hid hG4
  have HF := Lib.hid hf
  have HG := Lib.hid hG
  have HR1 := Lib.hid hR1
  have HR2 := Lib.hid hR2
  have E3 := Lib.hid e3
  clear hF4 hb4 hG4 hf hR1 hR2 R ed er e3 hok hG
  unfold grv
  refine (callsIn_wide (n := 4)).1 ?_
  refine callsIn_of_wp_marks Tryz.func64 rfl trivial ?_ rfl
  simp only [Tryz.ntmps64, List.size_toArray, List.length_cons, List.length_nil, Nat.reduceAdd, Nat.reduceSub, Array.replicate_succ, Array.replicate_zero, List.push_toArray, List.append_toArray, List.nil_append, List.cons_append]
  gi_wp2_with (first
    | (refine ⟨trivial, ?_⟩
       gi_at_call 78
       refine (callsIn_wide.2 (check_anyL1 g A1 c1 A2 c2 B W4 (by omega) (HG.out.below (Hb4.out.mono hB)))).mono ?_
       rintro e w1 ⟨rfl, hB1⟩
       rw [E3.out]
       have F1 := Lib.hid (HF4.out.below hB1 (by omega))
       have B1 := Lib.hid (Hb4.out.trans (hB1.mono (by omega)))
       have hs1 := hB1.size
       have hcG1 : ∀ i, w1.cell? ⟨w.heap.size, i, none⟩ = _ := fun i => cell_of_row _ w.heap.size i _ _ _ ((hB1.block _ (by omega)).trans HG4.out)
       clear hB1)
    | (refine ⟨trivial, ?_⟩
       gi_at_call 113
       refine (callsIn_wide.2 (records_any g A1 c1 A2 c2 _)).mono ?_
       rintro e w2 ⟨rfl, hw2⟩
       have H2 := Lib.hid hw2
       clear hw2))
  have hs2 : w2.heap.size = w1.heap.size + 1 := by rw [H2.out]; simp
  have hb2 : Below w.heap.size w w2 := by rw [H2.out]; exact B1.out.alloc (by omega) _
  have hF2 : Four w2 w.heap.size y zero17 0 := by rw [H2.out]; exact F1.out.below ((Below.refl _ _).alloc (Nat.le_refl _) _) (by omega)
  have hbox : w2.heap[w1.heap.size]? = some (.cells (gcs g A1 c1 A2 c2) 74 (0, 0)) := by rw [H2.out]; exact alloc_at0 _ _
  have hG2 : GrAt w2 w.heap.size g A1 c1 A2 c2 := (HG.out.mono hB).below hb2
  clear hcG hcG1
  refine wpIn_rangeX rfl (by omega) (gf := 150) (lb := #[.pointer (some ⟨w1.heap.size, 0, none⟩)]) rfl trivial (enters_of Tryz.func150 (by kernel_rfl) rfl)
    (records1 g A1 c1 A2 c2 d r HF.out (4 - 1) w.heap.size w1.heap.size (by omega) w2 (by omega) (by omega) hG2 hbox) (Below.refl _ _) (by omega) (by omega)
    (fun r' hr' => by
      obtain ⟨k, hk, rfl⟩ := List.mem_map.1 hr'
      rfl)
    (fun k => k = w.heap.size + 1 + 1 ∨ k = w.heap.size + 1 + 1 + 1) (fun k hk => by omega)
    (fun k A => (∀ j : Nat, j < k → g.first + j ≠ y) ∧ Four A w.heap.size y zero17 0 ∧ Below w.heap.size w A)
    (fun c k A => c = .ret ∧ g.first + k = y ∧ Four A w.heap.size y (recA g d r k).toArray 0 ∧ Below w.heap.size w A)
    (fun k A B hi hb => ⟨hi.1, hi.2.1.below hb (by omega), hi.2.2.trans (hb.mono (by omega))⟩)
    (fun c k A B hi hb => ⟨hi.1, hi.2.1, hi.2.2.1.below hb (by omega), hi.2.2.2.trans (hb.mono (by omega))⟩)
    ⟨fun j hj => by omega, hF2, hb2⟩
    (fun k b a' A => ∃ b', b ≤ b' ∧ A.heap[b']? = some (.cells (recA g d r k).toArray 139 (0, 0)) ∧
      a' = { tmps := #[.agg (gcs g A1 c1 A2 c2), .int .i64 y, .pointer (some ⟨w.heap.size, 0, none⟩), .pointer (some ⟨w.heap.size + 1, 0, none⟩), .pointer (some ⟨w.heap.size + 1 + 1, 0, none⟩), .pointer (some ⟨w.heap.size + 1 + 1 + 1, 0, none⟩),
        .int .i64 0, .int .i64 (g.first + k), .pointer (some ⟨b', 0, none⟩), .agg (gcs g A1 c1 A2 c2), .int .i64 0, .int .i64 0, .bool false, undef, undef, .agg (gcs g A1 c1 A2 c2),
        .func (.func 150) #[] #[.pointer (some ⟨w1.heap.size, 0, none⟩)], .int .i64 (g.first + k), .agg (recA g d r k).toArray, undef, undef, undef, undef, undef], defers := [] })
    (fun k b a' A B hx hj => by
      obtain ⟨b', hb, hc, ha⟩ := hx
      exact ⟨b', hb, (hj b' hb).trans hc, ha⟩) ?assign ?body ?done ?stop
  case assign =>
    rintro l k r' W1 K hr' ⟨_, _, _⟩ hK
    have hk : k < (rowsP g d r).length := (List.getElem?_eq_some_iff.1 hr').1
    rw [rowsP_len] at hk
    rw [rowsP_at (by omega)] at hr'
    obtain rfl : rowP g d r k = r' := Option.some.inj hr'
    have hlen := recA_len HF.out (show k ≤ g.seas.length by omega)
    rw [show rowP g d r k = #[.int .i64 (g.first + k), recK g d r k] from rfl, recK_A]
    have hsz : zero17.size = (recA g d r k).toArray.size := by simp [hlen]
    have hrow : RowTy Tryz.prog 139 (recA g d r k).toArray.size := by rw [← hsz]; exact rowRecord
    have hone : (recA g d r k).toArray.all (·.oneCell') = true := recC_one
    have hKK := Lib.hid hK
    have HO := Lib.hid (And.intro hsz (And.intro hrow hone))
    clear hK hr' hlen hsz hrow hone
    gi_wp2_with
      (show wpListIn _ _ _ _ _ (Oper.mk none (Op.store _ (Operand.tmp 8) (Operand.tmp 18)) _ _ _ _ :: _) _ _
       refine wpListIn_store_blk 139 (.tmp 8) (.tmp 18) rfl rfl rfl rfl (alloc_at0 W1 _) HO.out.1 HO.out.2.2 HO.out.2.1 ?_
       intro w3 hP3 hM3
       have H3 := Lib.hid (And.intro hP3 hM3)
       clear hP3 hM3)
    exact hKK.out _ _ (((Below.refl _ W1).alloc (Nat.le_refl _) _).trans (H3.out.1.below (Nat.le_refl _))) ⟨_, Nat.le_refl _, H3.out.2, rfl⟩
  case body =>
    rintro l k b r' a' W1 hr' hwb hbW' ⟨hall, hfour, hbel⟩ ⟨b', hbb, hc, rfl⟩
    have hk : k < (rowsP g d r).length := (List.getElem?_eq_some_iff.1 hr').1
    rw [rowsP_len] at hk
    have hlen := recA_len HF.out (show k ≤ g.seas.length by omega)
    have hsz : zero17.size = (recA g d r k).toArray.size := by simp [hlen]
    have hrow : RowTy Tryz.prog 139 (recA g d r k).toArray.size := by rw [← hsz]; exact rowRecord
    have hrow2 : RowTy Tryz.prog 139 (recA g d r k).length := by rw [hlen]; exact rowRecord
    have hone : (recA g d r k).toArray.all (·.oneCell') = true := recC_one
    have hcy := cell_of_row _ (w.heap.size + 1) 0 _ _ _ hfour.y
    have HH := Lib.hid (And.intro hall (And.intro hfour (And.intro hbel hc)))
    have HO := Lib.hid (And.intro hsz (And.intro hrow (And.intro hrow2 hone)))
    clear hall hfour hbel hc hr' hlen hsz hrow hrow2 hone
    by_cases hy : g.first + (k : Int) = y
    · have Hy := Lib.hid hy
      gi_wp2_with (first
        | (show wpListIn _ _ _ _ _ (Oper.mk (some 22) _ _ _ _ _ :: _) _ _
           refine wpListIn_load_blk 139 (.tmp 8) rfl rfl rfl HH.out.2.2.2 (recA g d r k) (fun j v hj => by rw [Nat.zero_add, List.getElem?_toArray]; exact hj) HO.out.2.2.1 ?_)
        | (show wpListIn _ _ _ _ _ (Oper.mk none (Op.store _ (Operand.tmp 4) (Operand.tmp 22)) _ _ _ _ :: _) _ _
           refine wpListIn_store_blk 139 (.tmp 4) (.tmp 22) rfl rfl rfl rfl HH.out.2.1.r HO.out.1 HO.out.2.2.2 HO.out.2.1 ?_
           intro w3 hP3 hM3
           have hE3 := (hP3.other (w.heap.size + 1 + 1 + 1) (by omega)).trans HH.out.2.1.e
           have hce := cell_of_row _ (w.heap.size + 1 + 1 + 1) 0 _ _ _ hE3
           have hfe := frozen_of_row _ (w.heap.size + 1 + 1 + 1) 0 _ _ hE3
           have H3 := Lib.hid (And.intro hE3 (And.intro hP3 hM3))
           clear hE3 hP3 hM3))
      have hset := heap_setCell_same w3 (w.heap.size + 1 + 1 + 1) 0 _ _ (.int .i64 0) H3.out.1
      exact ⟨(H3.out.2.1.keepsX _ (.inl (.inl rfl))).setCell (.inl (.inl (.inr rfl))) _, rfl, Hy.out,
        ⟨(heap_setCell_other w3 ⟨w.heap.size + 1 + 1 + 1, 0, none⟩ (w.heap.size + 1) (.int .i64 0) (by simp)).trans ((H3.out.2.1.other _ (by omega)).trans HH.out.2.1.y),
          (heap_setCell_other w3 ⟨w.heap.size + 1 + 1 + 1, 0, none⟩ (w.heap.size + 1 + 1) (.int .i64 0) (by simp)).trans H3.out.2.2, hset⟩,
        (HH.out.2.2.1.trans (H3.out.2.1.below (by omega))).setCell (by simp; omega) _⟩
    · gi_wp2_with fail
      exact ⟨KeepsX.refl _ _, fun j hj => by
        rcases Nat.lt_succ_iff_lt_or_eq.1 hj with h | rfl
        · exact HH.out.1 j h
        · exact hy, HH.out.2.1, HH.out.2.2.1⟩
  case done =>
    rintro D W3 rfl ⟨hall, hfour, hbel⟩ hD
    rw [hs2] at hD
    rw [rowsP_len] at hall
    have hres := HR2.out hall
    have HH := Lib.hid (And.intro hfour (And.intro hbel (And.intro hD hres)))
    clear hall hfour hbel hD hres
    gi_wp2_with
      (show wpListIn _ _ _ _ _ (Oper.mk none (Op.store _ (Operand.tmp 4) (Operand.tmp 23)) _ _ _ _ :: _) _ _
       refine wpListIn_store_blk 139 (.tmp 4) (.tmp 23) rfl rfl rfl rfl HH.out.1.r rfl ?h1 rowRecord ?_
       case h1 => simp [Value.oneCell']
       intro w4 hP4 hM4
       have hE4 := (hP4.other (w.heap.size + 1 + 1 + 1) (by omega)).trans HH.out.1.e
       have hce := cell_of_row _ (w.heap.size + 1 + 1 + 1) 0 _ _ _ hE4
       have hfe := frozen_of_row _ (w.heap.size + 1 + 1 + 1) 0 _ _ hE4
       have H4 := Lib.hid (And.intro hE4 (And.intro hP4 hM4))
       clear hE4 hP4 hM4)
    rw [HH.out.2.2.2.1, HH.out.2.2.2.2]
    have hset := heap_setCell_same w4 (w.heap.size + 1 + 1 + 1) 0 _ _ (.int .i64 6) H4.out.1
    have hset' : (w4.setCell ⟨w.heap.size + 1 + 1 + 1, 0, none⟩ (.int .i64 6)).heap[w.heap.size + 1 + 1 + 1]? = some (.cells #[.int .i64 6] 35 (0, 0)) := hset
    have hd2 := (heap_setCell_other w4 ⟨w.heap.size + 1 + 1 + 1, 0, none⟩ (w1.heap.size + 1) (.int .i64 6) (by simp; omega)).trans ((H4.out.2.1.other _ (by omega)).trans HH.out.2.2.1)
    have hcE := fun i => cell_of_row _ (w.heap.size + 1 + 1 + 1) i _ _ _ ((World.putObj_heap_other (r := (w1.heap.size + 1)) (o := .deferred none) (show w.heap.size + 1 + 1 + 1 ≠ (w1.heap.size + 1) by omega)).trans hset')
    have hcR := fun i => cell_of_row _ (w.heap.size + 1 + 1) i _ _ _ ((World.putObj_heap_other (r := (w1.heap.size + 1)) (o := .deferred none) (show w.heap.size + 1 + 1 ≠ (w1.heap.size + 1) by omega)).trans ((heap_setCell_other w4 ⟨w.heap.size + 1 + 1 + 1, 0, none⟩ (w.heap.size + 1 + 1) (.int .i64 6) (by simp)).trans H4.out.2.2))
    refine ⟨by simp, .inl ⟨_, _, rfl, run_takeDeferred hd2, ?_⟩⟩
    refine ⟨.tuple #[.agg zero17, .int .i64 6], by simp [results, Tryz.results64, go_sem, hcE, hcR], rfl, ?_⟩
    exact below_putObj ((HH.out.2.1.trans (H4.out.2.1.below (by omega))).setCell (by simp; omega) _) (by omega) _
  case stop =>
    rintro D c k W3 rfl hk ⟨rfl, hy, hfour, hbel⟩ hD
    rw [rowsP_len] at hk
    have hres := HR1.out k (by omega) hy
    obtain ⟨t0, t1, t2, t3, t4, t5, t6, ht⟩ := len7 (goneK_len HF.out (show k ≤ g.seas.length by omega))
    obtain ⟨f0, f1, f2, f3, f4, f5, f6, hf⟩ := len7 (state_len HF.out (show k ≤ g.seas.length by omega))
    have hrA : recA g d r k = [.int .i64 (shotK g k), .int .i64 (cutK g k), .int .i64 (ripeK g d r k), .int .i64 t0, .int .i64 t1, .int .i64 t2, .int .i64 t3, .int .i64 t4, .int .i64 t5, .int .i64 t6, .int .i64 f0, .int .i64 f1, .int .i64 f2, .int .i64 f3, .int .i64 f4, .int .i64 f5, .int .i64 f6] := by
      simp only [recA, ht, hf]; rfl
    rw [hrA] at hres hfour
    have HH := Lib.hid (And.intro hfour (And.intro hbel (And.intro hD hres)))
    clear hfour hbel hD hres ht hf hrA
    gi_wp2_with fail
    rw [HH.out.2.2.2.1, HH.out.2.2.2.2]
    have hcE := fun i => cell_of_row _ (w.heap.size + 1 + 1 + 1) i _ _ _ ((World.putObj_heap_other (r := w2.heap.size) (o := .deferred none) (show w.heap.size + 1 + 1 + 1 ≠ w2.heap.size by omega)).trans HH.out.1.e)
    have hcR := fun i => cell_of_row _ (w.heap.size + 1 + 1) i _ _ _ ((World.putObj_heap_other (r := w2.heap.size) (o := .deferred none) (show w.heap.size + 1 + 1 ≠ w2.heap.size by omega)).trans HH.out.1.r)
    refine ⟨by simp, .inl ⟨_, _, rfl, run_takeDeferred HH.out.2.2.1, ?_⟩⟩
    refine ⟨_, ?_, rfl, below_putObj HH.out.2.1 (by omega) _⟩
    simp [results, Tryz.results64, go_sem, hcE, hcR]

end Go.Proofs.YtboffligjgjgjaaGreat
