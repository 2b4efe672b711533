/-
  The program's recordOf.
-/
import Derived.Test.YtkjdapgkojfbmaaRecC
namespace Go.Proofs.Ytkjdapgkojfbmaa
open Go.RowKit Go.Shelf

attribute [local go_sem] Oper.semAt_some

def recR (g : Gr) (y : Int) : Value := if okGrove g = true ∧ hasY g y = true then recK g g.hab.dies.toNat g.hab.ripe.toNat (y - g.first).toNat else recV (0, 0) 0 zero7 zero7

/-- The four blocks of a call of recordOf: the grove, the year, the record, the error. -/
structure Four (w : World) (c : Nat) (y : Int) (rc : Array Value) (er : Int) : Prop where
  y : w.heap[c + 1]? = some (.cells #[.int .i64 y] 3 (0, 0))
  r : w.heap[c + 1 + 1]? = some (.cells rc 83 (0, 0))
  e : w.heap[c + 1 + 1 + 1]? = some (.cells #[.int .i64 er] 32 (0, 0))
theorem Four.below {w w' : World} {c : Nat} {y : Int} {rc : Array Value} {er : Int} {B : Nat} (h : Four w c y rc er) (hb : Below B w w') (hB : c + 4 ≤ B) : Four w' c y rc er :=
  ⟨(hb.block _ (by omega)).trans h.y, (hb.block _ (by omega)).trans h.r, (hb.block _ (by omega)).trans h.e⟩

theorem four_new (w : World) (G : Obj) (y : Int) (rc : Array Value) : Four ((((w.alloc G).alloc (.cells #[.int .i64 y] 3)).alloc (.cells rc 83)).alloc (.cells #[.int .i64 0] 32)) w.heap.size y rc 0 :=
  ⟨(Below.heap_alloc _ _ _ (by simp <;> omega)).trans (alloc3_at1 w _ _ _), (Below.heap_alloc _ _ _ (by simp)).trans (alloc3_at2 w _ _ _), by have := alloc_at0 (((w.alloc G).alloc (.cells #[.int .i64 y] 3)).alloc (.cells rc 83)) (.cells #[.int .i64 0] 32); simpa using this⟩
theorem below4 (w : World) (G Y R E : Obj) : Below w.heap.size w ((((w.alloc G).alloc Y).alloc R).alloc E) :=
  ((((Below.refl _ _).alloc (Nat.le_refl _) _).alloc (by simp) _).alloc (by simp; omega) _).alloc (by simp; omega) _

abbrev zero17 : Array Value := #[.int .i64 0, .int .i64 0, .int .i64 0, .int .i64 0, .int .i64 0, .int .i64 0, .int .i64 0, .int .i64 0, .int .i64 0, .int .i64 0, .int .i64 0, .int .i64 0, .int .i64 0, .int .i64 0, .int .i64 0, .int .i64 0, .int .i64 0]

set_option maxHeartbeats 4000000 in
theorem recordOf_bad (g : Gr) (y : Int) (A1 : Option Addr) (c1 : Nat) (A2 : Option Addr) (c2 : Nat) (B : Nat) (w : World) (hB : B ≤ w.heap.size) (hG : GrAt w B g A1 c1 A2 c2) (hno : okGrove g = false) :
    Calls Try.prog 37 #[grv g A1 c1 A2 c2, .int .i64 y] w fun e w' => e = .returned (.tuple #[recR g y, .int .i64 (standErr g y)]) ∧ Below w.heap.size w w' := by
  have e1 : recR g y = .agg #[.int .i64 0, .int .i64 0, .int .i64 0, .int .i64 0, .int .i64 0, .int .i64 0, .int .i64 0, .int .i64 0, .int .i64 0, .int .i64 0, .int .i64 0, .int .i64 0, .int .i64 0, .int .i64 0, .int .i64 0, .int .i64 0, .int .i64 0] := by
    simp only [recR, hno]; rfl
  have e2 : standErr g y = 10 := by simp [standErr, hno]
  have e3 : errG g = 10 := by simp [errG, hno]
  rw [e1, e2]
  have HG := Lib.hid hG
  have E3 := Lib.hid e3
  clear hG e1 e2 e3 hno
  obtain ⟨W4, hW4⟩ : ∃ W4, ((((w.alloc (.cells (gcs g A1 c1 A2 c2) 29)).alloc (.cells #[.int .i64 y] 3)).alloc (.cells zero17 83)).alloc (.cells #[.int .i64 0] 32)) = W4 := ⟨_, rfl⟩
  have hF4 : Four W4 w.heap.size y zero17 0 := by rw [← hW4]; exact four_new w _ y _
  have hb4 : Below w.heap.size w W4 := by rw [← hW4]; exact below4 w _ _ _ _
  have hs4 : W4.heap.size = w.heap.size + 4 := by rw [← hW4]; simp
  have hcG : ∀ i, W4.cell? ⟨w.heap.size, i, none⟩ = _ := fun i => cell_of_row _ w.heap.size i _ _ _ (by rw [← hW4]; exact (Below.heap_alloc _ _ _ (by simp; omega)).trans (alloc3_at0 w _ _ _))
  have HF4 := Lib.hid hF4
  have Hb4 := Lib.hid hb4
  clear hF4 hb4
  unfold grv
  refine (callsIn_wide (n := 4)).1 ?_
  refine callsIn_of_wp_marks Try.func37 rfl trivial ?_ rfl
  simp only [Try.ntmps37, List.size_toArray, List.length_cons, List.length_nil, Nat.reduceAdd, Nat.reduceSub, Array.replicate_succ, Array.replicate_zero, List.push_toArray, List.append_toArray, List.nil_append, List.cons_append]
  gi_wp2_with (first
    | (refine ⟨trivial, ?_⟩
       gi_at_call 18
       refine (callsIn_wide.2 (check_any g A1 c1 A2 c2 B W4 (by omega) (HG.out.below (Hb4.out.mono hB)))).mono ?_
       rintro e w1 ⟨rfl, hB1⟩
       rw [E3.out]
       have F1 := Lib.hid (HF4.out.below hB1 (by omega))
       have B1 := Lib.hid (Hb4.out.trans (hB1.mono (by omega)))
       clear hB1)
    | (show wpListIn _ _ _ _ _ (Oper.mk none (Op.store _ (Operand.tmp 4) (Operand.tmp 13)) _ _ _ _ :: _) _ _
       refine wpListIn_store_blk 83 (.tmp 4) (.tmp 13) rfl rfl rfl rfl F1.out.r rfl ?h1 rowRecord ?_
       case h1 => simp [Value.oneCell']
       intro w2 hP2 hM2
       have hE2 := (hP2.other (w.heap.size + 1 + 1 + 1) (by omega)).trans F1.out.e
       have hce := cell_of_row _ (w.heap.size + 1 + 1 + 1) 0 _ _ _ hE2
       have hfe := frozen_of_row _ (w.heap.size + 1 + 1 + 1) 0 _ _ hE2
       have H2 := Lib.hid (And.intro hE2 (And.intro hM2 (B1.out.trans (hP2.below (by omega)))))
       clear hE2 hP2 hM2))
  have hset := heap_setCell_same w2 (w.heap.size + 1 + 1 + 1) 0 _ _ (.int .i64 10) H2.out.1
  have hset' : (w2.setCell ⟨w.heap.size + 1 + 1 + 1, 0, none⟩ (.int .i64 10)).heap[w.heap.size + 1 + 1 + 1]? = some (.cells #[.int .i64 10] 32 (0, 0)) := hset
  have hce3 := fun i => cell_of_row _ (w.heap.size + 1 + 1 + 1) i _ _ _ hset'
  have hcr := fun i => cell_of_row _ (w.heap.size + 1 + 1) i _ _ _ ((heap_setCell_other w2 ⟨w.heap.size + 1 + 1 + 1, 0, none⟩ (w.heap.size + 1 + 1) (.int .i64 10) (by simp)).trans H2.out.2.1)
  refine ⟨.tuple #[.agg zero17, .int .i64 10], by simp [results, Try.results37, go_sem, hce3, hcr], rfl, ?_⟩
  exact H2.out.2.2.setCell (by simp; omega) _

end Go.Proofs.Ytkjdapgkojfbmaa
