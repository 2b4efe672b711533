/-
  The program's Taken.
-/
import Derived.Test.YtkjdapgkojfbmaaRecT
namespace Go.Proofs.Ytkjdapgkojfbmaa
open Go.RowKit Go.Shelf

set_option maxHeartbeats 2000000 in
theorem taken_out (g : Gr) (y : Int) (A1 : Option Addr) (c1 : Nat) (A2 : Option Addr) (c2 : Nat) (B : Nat) (w : World) (hB : B ≤ w.heap.size) (hG : GrAt w B g A1 c1 A2 c2) (hno : ¬ (okGrove g = true ∧ hasY g y = true)) :
    Calls Try.prog 16 #[grv g A1 c1 A2 c2, .int .i64 y] w (TakePost w (takenVal g y) (standErr g y)) := by
  have eR : recR g y = .agg zero17 := by rw [recR, if_neg hno]; rfl
  have eV : takenVal g y = [] := by rw [takenVal, if_neg hno]
  have eE : standErr g y = 6 ∨ standErr g y = 10 := by
    unfold standErr
    split
    · split
      · rename_i h1 h2; exact absurd ⟨h1, h2⟩ hno
      · exact .inl rfl
    · exact .inr rfl
  obtain ⟨w2, hw2⟩ : ∃ w2, (w.alloc (.cells (gcs g A1 c1 A2 c2) 29)).alloc (.cells #[.int .i64 y] 3) = w2 := ⟨_, rfl⟩
  have hb2 : Below w.heap.size w w2 := by rw [← hw2]; exact ((Below.refl _ _).alloc (Nat.le_refl _) _).alloc (by simp) _
  have hs2 : w2.heap.size = w.heap.size + 2 := by rw [← hw2]; simp
  have hG2 : w2.heap[w.heap.size]? = some (.cells (gcs g A1 c1 A2 c2) 29 (0, 0)) := by rw [← hw2]; exact alloc2_at0 _ _ _
  have hY2 : w2.heap[w.heap.size + 1]? = some (.cells #[.int .i64 y] 3 (0, 0)) := by rw [← hw2]; exact alloc2_at1 _ _ _
  have hcG2 := fun i => cell_of_row w2 w.heap.size i _ _ _ hG2
  have hcY2 := fun i => cell_of_row w2 (w.heap.size + 1) i _ _ _ hY2
  have H := recordOf_any g y A1 c1 A2 c2 B w2 (by omega) (hG.below (hb2.mono hB))
  rw [eR] at H
  rw [eV]
  generalize standErr g y = er at H eE ⊢
  have HH := Lib.hid H
  have Hb2 := Lib.hid hb2
  clear H eR eV hG hno hG2 hY2 hb2
  unfold grv
  rcases eE with rfl | rfl
  all_goals
    refine (callsIn_wide (n := 4)).1 ?_
    refine callsIn_of_wp_marks Try.func16 rfl trivial ?_ rfl
    simp only [Try.ntmps16, List.size_toArray, List.length_cons, List.length_nil, Nat.reduceAdd, Nat.reduceSub, Array.replicate_succ, Array.replicate_zero, List.push_toArray, List.append_toArray, List.nil_append, List.cons_append]
    gi_wp2_with
      (refine ⟨trivial, ?_⟩
       gi_at_call 37
       refine (callsIn_wide.2 HH.out).mono ?_
       rintro e w1 ⟨rfl, hB1⟩
       have hs1 := hB1.size
       have B1 := Lib.hid hB1
       clear hB1)
    refine ⟨_, ?_, TakePost.nil ((Hb2.out.trans (B1.out.mono (by omega))).alloc (by omega) _)⟩
    simp [results, Try.results16, go_sem]

theorem taken_any (g : Gr) (y : Int) (A1 : Option Addr) (c1 : Nat) (A2 : Option Addr) (c2 : Nat) (B : Nat) (w : World) (hB : B ≤ w.heap.size) (hG : GrAt w B g A1 c1 A2 c2) :
    Calls Try.prog 16 #[grv g A1 c1 A2 c2, .int .i64 y] w (TakePost w (takenVal g y) (standErr g y)) := by
  by_cases h : okGrove g = true ∧ hasY g y = true
  · exact taken_in g y A1 c1 A2 c2 B w hB hG h.1 h.2
  · exact taken_out g y A1 c1 A2 c2 B w hB hG h

end Go.Proofs.Ytkjdapgkojfbmaa
