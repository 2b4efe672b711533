/-
  The examples that each law asks for: tones, notes, a blank.
-/
import Derived.Test.YthjpgpelbagceaaFvA
import Derived.Outline
set_option linter.all false
namespace Go.Proofs.Ythjpgpelbagceaa
open Go.RowKit Go.Maps
open R6 (done done_ne done_me upd_ne upd_me)

attribute [local go_sem] gives

theorem rowBlank : RowTy Try.prog 34 10 := ⟨⟨_, Try.underlying34, rfl⟩, by kernel_rfl⟩

set_option maxRecDepth 100000 in
set_option maxHeartbeats 4000000 in
theorem blank_any (w : World) : Calls Try.prog 16 #[] w (BlaPost w) := by
  unfold BlaPost
  obtain ⟨w0, hw0⟩ : ∃ w0, w.alloc (.cells #[.int .i64 0, .int .i64 0, .int .i64 0, .int .i64 0, .int .i64 0, .int .i64 0, .int .i64 0, .int .i64 0, .int .i64 0, .slice none 0 0] 34) = w0 := ⟨_, rfl⟩
  have hb0 : Below w.heap.size w w0 := by rw [← hw0]; exact grow1 _ _
  have m0 : w0.heap[w.heap.size]? = some (.cells [.int .i64 0, .int .i64 0, .int .i64 0, .int .i64 0, .int .i64 0, .int .i64 0, .int .i64 0, .int .i64 0, .int .i64 0, .slice none 0 0].toArray 34 (0, 0)) := by rw [← hw0]; exact alloc_at0 _ _
  have H0 := Lib.hid (And.intro hb0 (And.intro m0 (lt_of_heap m0)))
  clear hb0 m0
  go_enter Try.func16, Try.ntmps16
  go_wp2_with (first
    | (go_at_call 17; (with_reducible show Calls _ _ #[.int .i64 340000, _] _ _); refine (span_any _ _ _).mono ?_; rintro e w3 ⟨rfl, hB3⟩; have H3 := Lib.hid (H2.out.trans (hB3.mono H2.out.size)); clear hB3)
    | (go_at_call 17; refine (span_any _ _ _).mono ?_; rintro e w2 ⟨rfl, hB2⟩; have H2 := Lib.hid (H1.out.trans (hB2.mono H1.out.size)); clear hB2)
    | (go_at_call 17; refine (span_any _ _ _).mono ?_; rintro e w1 ⟨rfl, hB1⟩; have H1 := Lib.hid hB1; clear hB1)
    | (show wpList _ _ _ (Oper.mk none (Op.store _ (Operand.tmp 0) (Operand.tmp 5)) _ _ _ _ :: _) _ _
       refine wpList_store_blk 34 (.tmp 0) (.tmp 5) rfl rfl rfl rfl (cs := bkc (exBk (some ⟨w3.heap.size, 0, none⟩))) rfl (((H3.out.alloc H3.out.size _).block _ H0.out.2.2).trans H0.out.2.1) (Nat.le_refl 10) (by simp [bkc, exBk, Value.oneCell']) rowBlank ?_
       intro w6 hP6 hM6
       have H6 := Lib.hid (And.intro hP6 hM6)
       clear hP6 hM6))
  have hs := H3.out.size
  have hl := H0.out.2.2
  have hbb : w6.heap[w3.heap.size]? = _ := (H6.out.1.other _ (by omega)).trans (alloc_at0 w3 _)
  have hM : w6.heap[w.heap.size]? = some (.cells (bkc (exBk (some ⟨w3.heap.size, 0, none⟩))).toArray 34 (0, 0)) := H6.out.2
  have hcE := fun i => cell_of_row w6 w.heap.size i _ _ _ hM
  refine bodyPost_ret (v := .agg (bkc (exBk (some ⟨w3.heap.size, 0, none⟩))).toArray) (by simp [results, Try.results16, go_sem, hcE, bkc, exBk]) rfl ⟨_, rfl, ?_, ?_⟩
  · exact (vals_in (L := ints [330]) hbb (lt_of_heap hbb) at0).ints
  · exact H0.out.1.trans (((H3.out.alloc H3.out.size _).mono H0.out.1.size).trans (H6.out.1.below (Nat.le_refl _)))

set_option maxRecDepth 100000 in
set_option maxHeartbeats 4000000 in
theorem sounds_any (n : Nat) (hn : n < 256) (lo hi : Int) (h : tonE (exFu none) n = 0 ∧ tonV (exFu none) n = (lo, hi)) (w : World) :
    Calls Try.prog 14 #[.int .u8 (n : Int), .int .i64 lo, .int .i64 hi] w fun e w' => e = .returned (.bool true) ∧ Below w.heap.size w w' := by
  have ht := fun A B W (hB : B ≤ W.heap.size) (hz : FuAt W B (exFu A)) => tone_any9 (exFu A) (by simp [exFu]) n hn B W hB hz
  unfold TonePost at ht
  have e1 : ∀ A, tonE (exFu A) n = 0 := fun A => h.1
  have e2 : ∀ A, tonV (exFu A) n = (lo, hi) := fun A => h.2
  simp only [e1, e2] at ht
  have HT := Lib.hid ht
  clear ht e1 e2 h
  have HTB := Lib.hid (tube_any w)
  unfold TubPost at HTB
  go_enter Try.func14, Try.ntmps14
  go_wp2_with (first
    | (go_at_call 19; refine HTB.out.mono ?_; rintro e w1 ⟨A, rfl, hz, hB1⟩; have H1 := Lib.hid (And.intro hz hB1); clear hz hB1)
    | (go_at_call 21; refine (HT.out A _ w1 (Nat.le_refl _) H1.out.1).mono ?_; rintro e w2 ⟨rfl, hB2⟩; have H2 := Lib.hid (H1.out.2.trans (hB2.mono H1.out.2.size)); clear hB2))
  obtain ⟨w3, hw3⟩ : ∃ w3, w2.alloc (.cells #[.int .i64 lo, .int .i64 hi] 25) = w3 := ⟨_, rfl⟩
  rw [hw3]
  have hb3 : Below w.heap.size w w3 := by rw [← hw3]; exact H2.out.alloc H2.out.size _
  have m3 : w3.heap[w2.heap.size]? = some (.cells #[.int .i64 lo, .int .i64 hi] 25 (0, 0)) := by rw [← hw3]; exact alloc_at0 _ _
  have H3 := Lib.hid (And.intro hb3 m3)
  clear hb3 m3 hw3
  refine R6.wp_walk (C := fun _ _ W => Below w3.heap.size w3 W) 24 (by kernel_rfl) (by kernel_rfl) rfl (Below.refl _ _).drew ?_
  simp only []
  repeat
    (refine' R6.WalkR.det (fun _ => rfl) (fun D ρ W hK hC => ?_) ?_
     rotate_left
     · have f3 := fun i => cell_of_row W w2.heap.size i _ _ _ ((hC.block _ (lt_of_heap H3.out.2)).trans H3.out.2)
       have HC := Lib.hid hC
       clear hC hK
       go_simp
       first
         | with_reducible exact ⟨rfl, HC.out⟩
         | (go_at_call 17; refine (span_any _ _ W).mono ?_; rintro e W1 ⟨rfl, hB1⟩; exact ⟨_, rfl, rfl, HC.out.trans (hB1.mono HC.out.size)⟩)
     simp only [Act.put, List.setIfInBounds_toArray, List.set_cons_succ, List.set_cons_zero])
  refine R6.WalkR.nil (fun D ρ W hD hC => ?_)
  have H9 := Lib.hid (H3.out.1.trans (hC.mono H3.out.1.size))
  clear hC hD
  go_wp2
  go_ret
  exact ⟨by simp, H9.out⟩

set_option maxRecDepth 100000 in
set_option maxHeartbeats 4000000 in
theorem lawPlays_any (lo hi k : Int) (h : plaE (exFu none) 0 (lo, hi) = 0 ∧ plaV (exFu none) 0 (lo, hi) = k) (w : World) :
    Calls Try.prog 41 #[.int .i64 lo, .int .i64 hi, .int .u8 k] w fun e w' => e = .returned (.bool true) ∧ Below w.heap.size w w' := by
  have ht := fun A B W (hB : B ≤ W.heap.size) (hz : FuAt W B (exFu A)) => plays_any (exFu A) (by simp [exFu]) 0 (by decide) (lo, hi) B W hB hz
  unfold PlaPost at ht
  have e1 : ∀ A, plaE (exFu A) 0 (lo, hi) = 0 := fun A => h.1
  have e2 : ∀ A, plaV (exFu A) 0 (lo, hi) = k := fun A => h.2
  simp only [e1, e2] at ht
  have HT := Lib.hid ht
  clear ht e1 e2 h
  have HTB := Lib.hid (tube_any w)
  unfold TubPost at HTB
  go_enter Try.func41, Try.ntmps41
  go_wp2_with (first
    | (go_at_call 19; refine HTB.out.mono ?_; rintro e w1 ⟨A, rfl, hz, hB1⟩; have H1 := Lib.hid (And.intro hz hB1); clear hz hB1)
    | (go_at_call 17; refine (span_any _ _ w1).mono ?_; rintro e w2 ⟨rfl, hB2⟩; have H2 := Lib.hid (And.intro (FuAt.mono (FuAt.below H1.out.1 hB2) hB2.size) (H1.out.2.trans (hB2.mono H1.out.2.size))); clear hB2)
    | (go_at_call 22; refine (HT.out A _ w2 (Nat.le_refl _) H2.out.1).mono ?_; rintro e w3 ⟨rfl, hB3⟩; have H3 := Lib.hid (H2.out.2.trans (hB3.mono H2.out.2.size)); clear hB3))
  go_ret
  exact ⟨by simp, H3.out⟩

end Go.Proofs.Ythjpgpelbagceaa
