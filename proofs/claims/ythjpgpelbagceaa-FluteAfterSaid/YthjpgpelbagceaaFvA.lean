/-
  The flute, the blank and the notes of the examples.
-/
import Derived.Test.YthjpgpelbagceaaFuZ
import Derived.Test.YthjpgpelbagceaaFuR
import Derived.Test.YthjpgpelbagceaaFrB
import Derived.Test.YthjpgpelbagceaaFrE
set_option linter.all false
namespace Go.Proofs.Ythjpgpelbagceaa
open Go.RowKit Go.Maps
open R6 (done done_ne done_me upd_ne upd_me)

attribute [local go_sem] gives

set_option maxRecDepth 100000 in
theorem conv_v9 {W : World} {B : Nat} {v : Value} {zs : List Int} (h : OwnU W B v zs) : (convert 52 9 v).run Try.prog W = .ok (.string (strOfNums zs)) W := by
  rcases h.2 with ⟨rfl, h0⟩ | ⟨g, cap, cur, rfl, _⟩
  · have hz : zs = [] := List.eq_nil_of_length_eq_zero h0
    subst hz
    exact conv_u8 (A := none) (c := 0) h
  · exact conv_u8 h

theorem span_any (a b : Int) (w : World) : Calls Try.prog 17 #[.int .i64 a, .int .i64 b] w fun e w' => e = .returned (.agg #[.int .i64 a, .int .i64 b]) ∧ Below w.heap.size w w' := by
  go_enter Try.func17, Try.ntmps17
  go_wp2
  refine bodyPost_ret (v := .agg #[.int .i64 a, .int .i64 b]) (by simp [results, Try.results17, go_sem]) rfl ⟨rfl, ?_⟩
  exact (Below.refl _ _).alloc (Nat.le_refl _) _

def exFu (A : Option Addr) : Fu := ⟨400, 10, 20, 5, 10, 340000, 344000, A, 2, [⟨200, 8, 12⟩, ⟨300, 10, 10⟩]⟩
def exBk (A : Option Addr) : Bk := ⟨500, 10, 10, 10, 10, 340000, 340000, 40, 5, A, 1, [330]⟩
def exOs : List (Int × Int) := [(400000, 410000), (500000, 520000), (590000, 610000)]

def TubPost (w : World) (e : Ending) (w' : World) : Prop := ∃ A, e = .returned (.agg (fuc (exFu A)).toArray) ∧ FuAt w' w'.heap.size (exFu A) ∧ Below w.heap.size w w'
def BlaPost (w : World) (e : Ending) (w' : World) : Prop := ∃ A, e = .returned (.agg (bkc (exBk A)).toArray) ∧ BkAt w' w'.heap.size (exBk A) ∧ Below w.heap.size w w'
def ScaPost (w : World) (e : Ending) (w' : World) : Prop := ∃ A, e = .returned (.slice A exOs.length 3) ∧ Vals w' w'.heap.size A (pairs exOs) ∧ Below w.heap.size w w'

set_option maxRecDepth 100000 in
set_option maxHeartbeats 4000000 in
theorem scale_any (w : World) : Calls Try.prog 20 #[] w (ScaPost w) := by
  unfold ScaPost
  go_enter Try.func20, Try.ntmps20
  go_wp2_with (first
    | (go_at_call 17; (with_reducible show Calls _ _ #[.int .i64 400000, _] _ _); refine (span_any _ _ _).mono ?_; rintro e w1 ⟨rfl, hB1⟩; have H1 := Lib.hid hB1; clear hB1)
    | (go_at_call 17; (with_reducible show Calls _ _ #[.int .i64 500000, _] _ _); refine (span_any _ _ _).mono ?_; rintro e w2 ⟨rfl, hB2⟩; have H2 := Lib.hid (H1.out.trans (hB2.mono H1.out.size)); clear hB2)
    | (go_at_call 17; refine (span_any _ _ _).mono ?_; rintro e w3 ⟨rfl, hB3⟩; have H3 := Lib.hid (H2.out.trans (hB3.mono H2.out.size)); clear hB3))
  go_ret
  refine ⟨some ⟨w3.heap.size, 0, none⟩, rfl, vals_in (L := pairs exOs) (alloc_at0 _ _) (by simp) at0, H3.out.trans ((grow1 w3 _).mono H3.out.size)⟩

set_option maxRecDepth 100000 in
set_option maxHeartbeats 4000000 in
theorem tube_any (w : World) : Calls Try.prog 19 #[] w (TubPost w) := by
  unfold TubPost
  obtain ⟨w0, hw0⟩ : ∃ w0, w.alloc (.cells #[.int .i64 0, .int .i64 0, .int .i64 0, .int .i64 0, .int .i64 0, .int .i64 0, .int .i64 0, .slice none 0 0] 28) = w0 := ⟨_, rfl⟩
  have hb0 : Below w.heap.size w w0 := by rw [← hw0]; exact grow1 _ _
  have m0 : w0.heap[w.heap.size]? = some (.cells [.int .i64 0, .int .i64 0, .int .i64 0, .int .i64 0, .int .i64 0, .int .i64 0, .int .i64 0, .slice none 0 0].toArray 28 (0, 0)) := by rw [← hw0]; exact alloc_at0 _ _
  have H0 := Lib.hid (And.intro hb0 (And.intro m0 (lt_of_heap m0)))
  clear hb0 m0
  go_enter Try.func19, Try.ntmps19
  go_wp2_with (first
    | (go_at_call 17; (with_reducible show Calls _ _ #[.int .i64 10, .int .i64 20] _ _); refine (span_any _ _ _).mono ?_; rintro e w1 ⟨rfl, hB1⟩; have H1 := Lib.hid hB1; clear hB1)
    | (go_at_call 17; (with_reducible show Calls _ _ #[.int .i64 5, _] _ _); refine (span_any _ _ _).mono ?_; rintro e w2 ⟨rfl, hB2⟩; have H2 := Lib.hid (H1.out.trans (hB2.mono H1.out.size)); clear hB2)
    | (go_at_call 17; (with_reducible show Calls _ _ #[.int .i64 340000, _] _ _); refine (span_any _ _ _).mono ?_; rintro e w3 ⟨rfl, hB3⟩; have H3 := Lib.hid (H2.out.trans (hB3.mono H2.out.size)); clear hB3)
    | (go_at_call 17; (with_reducible show Calls _ _ #[.int .i64 8, _] _ _); refine (span_any _ _ _).mono ?_; rintro e w4 ⟨rfl, hB4⟩; have H4 := Lib.hid (H3.out.trans (hB4.mono H3.out.size)); clear hB4)
    | (go_at_call 17; refine (span_any _ _ _).mono ?_; rintro e w5 ⟨rfl, hB5⟩; have H5 := Lib.hid (H4.out.trans (hB5.mono H4.out.size)); clear hB5)
    | (show wpList _ _ _ (Oper.mk none (Op.store _ (Operand.tmp 0) (Operand.tmp 9)) _ _ _ _ :: _) _ _
       refine wpList_store_blk 28 (.tmp 0) (.tmp 9) rfl rfl rfl rfl (cs := fuc (exFu (some ⟨w5.heap.size, 0, none⟩))) rfl (((H5.out.alloc H5.out.size _).block _ H0.out.2.2).trans H0.out.2.1) (Nat.le_refl 8) (by simp [fuc, exFu, Value.oneCell']) rowFlute ?_
       intro w6 hP6 hM6
       have H6 := Lib.hid (And.intro hP6 hM6)
       clear hP6 hM6))
  have hs := H5.out.size
  have hl := H0.out.2.2
  have hbb : w6.heap[w5.heap.size]? = _ := (H6.out.1.other _ (by omega)).trans (alloc_at0 w5 _)
  have hM : w6.heap[w.heap.size]? = some (.cells (fuc (exFu (some ⟨w5.heap.size, 0, none⟩))).toArray 28 (0, 0)) := H6.out.2
  have hcE := fun i => cell_of_row w6 w.heap.size i _ _ _ hM
  refine bodyPost_ret (v := .agg (fuc (exFu (some ⟨w5.heap.size, 0, none⟩))).toArray) (by simp [results, Try.results19, go_sem, hcE, fuc, exFu]) rfl ⟨_, rfl, ?_, ?_⟩
  · exact vals_in (L := (exFu (some ⟨w5.heap.size, 0, none⟩)).hs.flatMap hoc) hbb (lt_of_heap hbb) at0
  · exact H0.out.1.trans (((H5.out.alloc H5.out.size _).mono H0.out.1.size).trans (H6.out.1.below (Nat.le_refl _)))

end Go.Proofs.Ythjpgpelbagceaa
