/-
  The law FluteFingers.
-/
import Derived.Test.YthjpgpelbagceaaFrB
import Derived.Test.YthjpgpelbagceaaFrD
import Derived.Test.YthjpgpelbagceaaFrG
set_option linter.all false
namespace Go.Proofs.Ythjpgpelbagceaa
open Go.RowKit

theorem great_small {f : Fu} {b : Bk} {n : Int} (h : greatF f b n = false) : f.hs.length ≤ 12 ∧ b.zs.length ≤ 20 ∧ n ≤ 15 := by
  simp only [greatF, Bool.or_eq_false_iff, decide_eq_false_iff_not] at h
  omega

set_option maxRecDepth 100000 in
theorem conv_v {W : World} {B : Nat} {v : Value} {zs : List Int} (h : OwnU W B v zs) : (convert 52 9 v).run Try.prog W = .ok (.string (strOfNums zs)) W := by
  rcases h.2 with ⟨rfl, h0⟩ | ⟨g, cap, cur, rfl, _⟩
  · have hz : zs = [] := List.eq_nil_of_length_eq_zero h0
    subst hz
    exact conv_u8 (A := none) (c := 0) h
  · exact conv_u8 h

set_option maxRecDepth 100000 in
set_option maxHeartbeats 8000000 in
theorem fluteFingers_some (f : Fu) (hl : f.hs.length ≤ 1000000) (o : Int × Int) (B : Nat) (w : World) (hB : B ≤ w.heap.size) (hz : FuAt w B f) :
    Calls Try.prog 4 #[.agg (fuc f).toArray, .agg #[.int .i64 o.1, .int .i64 o.2]] w fun e w' => e = .returned (.bool true) ∧ Below w.heap.size w w' := by
  obtain ⟨o0, o1⟩ := o
  dsimp only
  obtain ⟨w1, hw1⟩ : ∃ w1, (w.alloc (.cells (fuc f).toArray 28)).alloc (.cells #[.int .i64 o0, .int .i64 o1] 25) = w1 := ⟨_, rfl⟩
  have hb1 : Below w.heap.size w w1 := by rw [← hw1]; exact ((Below.refl _ _).alloc (Nat.le_refl _) _).alloc (by simp) _
  have m0 : w1.heap[w.heap.size]? = some (.cells (fuc f).toArray 28 (0, 0)) := by rw [← hw1]; exact alloc2_at0 _ _ _
  have m1 : w1.heap[w.heap.size + 1]? = some (.cells #[.int .i64 o0, .int .i64 o1] 25 (0, 0)) := by rw [← hw1]; exact alloc2_at1 _ _ _
  have hz1 := hz.below (hb1.mono hB)
  have hB1 := Nat.le_trans hB hb1.size
  have hgr := fun W => rfGreat_any f bk0 0 W
  have hsm : greatF f bk0 0 = false → f.hs.length ≤ 12 := fun h => (great_small h).1
  generalize greatF f bk0 0 = v0 at hgr hsm
  have HGR := Lib.hid hgr
  have HSM := Lib.hid hsm
  clear hgr hsm
  have hcf := fun (W : World) (hW : Below w1.heap.size w1 W) => And.intro (fun i => cell_of_row W w.heap.size i _ _ _ ((hW.block _ (lt_of_heap m0)).trans m0)) (fun i => cell_of_row W (w.heap.size + 1) i _ _ _ ((hW.block _ (lt_of_heap m1)).trans m1))
  have HTW := Lib.hid (fun W (hW : Below w1.heap.size w1 W) => rfTwin_any f hl B W (Nat.le_trans hB1 hW.size) (hz1.below (hW.mono hB1)))
  have hfi : ∀ A' c' B' W (_ : B' ≤ W.heap.size) (_ : FuAt W B' (fuAt' f A' c')), Calls Try.prog 27 #[.agg (fuc (fuAt' f A' c')).toArray, .agg #[.int .i64 o0, .int .i64 o1]] W (FinPost W f (o0, o1)) := fun A' c' B' W hB' hz' => fingers_any (fuAt' f A' c') hl (o0, o1) B' W hB' hz'
  have hfr : ∀ (hl12 : f.hs.length ≤ 12) W (hW : Below w1.heap.size w1 W), Calls Try.prog 28 #[.agg (fuc f).toArray, .agg #[.int .i64 o0, .int .i64 o1]] W (FinPost W f (o0, o1)) := fun hl12 W (hW : Below w1.heap.size w1 W) => rfFingers_any W f hl12 (fun W2 hW2 => rfFlute_any f hl B W2 (Nat.le_trans hB1 (Nat.le_trans hW.size hW2.size)) ((hz1.below (hW.mono hB1)).below (hW2.mono (Nat.le_trans hB1 hW.size)))) (o0, o1) B (Nat.le_trans hB1 hW.size) (hz1.below (hW.mono hB1))
  unfold FinPost at hfi hfr
  generalize finE f (o0, o1) = er at hfi hfr
  generalize finL f (o0, o1) = L at hfi hfr
  have HFI := Lib.hid hfi
  have HFR := Lib.hid hfr
  clear hfi hfr
  have HSA := Lib.hid (fun A' c' B' W (hW : Below w1.heap.size w1 W) hB' hz' => rfSame_any f A' c' hl B B' W (Nat.le_trans hB1 hW.size) hB' (hz1.below (hW.mono hB1)) hz')
  have H1 := Lib.hid hb1
  clear hz hb1 m0 m1 hz1
  unfold TwinPostF at HTW
  unfold fuc bkc bk0 at HGR
  dsimp only [List.length_nil] at HGR
  unfold fuc at hw1 hcf HTW HFI HFR HSA ⊢
  unfold fuAt' at HTW HFI HSA
  dsimp only at HTW HFI HSA
  have HCF := Lib.hid hcf
  obtain ⟨hc0, hc1⟩ := HCF.out w1 (Below.refl _ _)
  clear hcf
  cases v0
  · have hl12 := HSM.out rfl
    go_enter Try.func4, Try.ntmps4
    go_wp2_with (first
      | (go_at_call 25; refine (HGR.out _).mono ?_; rintro e w2 ⟨rfl, hB2⟩; obtain ⟨hc2, hc3⟩ := HCF.out w2 hB2; have H2 := Lib.hid hB2; clear hB2 hc0 hc1)
      | (go_at_call 26
         refine (HTW.out _ H2.out).mono ?_
         rintro e w3 ⟨g, c, rfl, hF3, hg3, hB3⟩
         obtain ⟨w4, hw4⟩ : ∃ w4, w3.alloc (.cells #[.int .i64 f.len, .int .i64 f.e0, .int .i64 f.e1, .int .i64 f.c0, .int .i64 f.c1, .int .i64 f.s0, .int .i64 f.s1, .slice (some ⟨g, 0, none⟩) f.hs.length c] 28) = w4 := ⟨_, rfl⟩
         have hb4 : Below w3.heap.size w3 w4 := by rw [← hw4]; exact grow1 _ _
         have m4 : w4.heap[w3.heap.size]? = some (.cells #[.int .i64 f.len, .int .i64 f.e0, .int .i64 f.e1, .int .i64 f.c0, .int .i64 f.c1, .int .i64 f.s0, .int .i64 f.s1, .slice (some ⟨g, 0, none⟩) f.hs.length c] 28 (0, 0)) := by rw [← hw4]; exact alloc_at0 _ _
         have hB4 := H2.out.trans ((hB3.trans (hb4.mono hB3.size)).mono H2.out.size)
         obtain ⟨hc4, hc5⟩ := HCF.out w4 hB4
         have hc6 := fun i => cell_of_row w4 w3.heap.size i _ _ _ m4
         have hF4 := hF3.below hb4
         have H4 := Lib.hid (And.intro hB4 (And.intro m4 (And.intro hF4 hb4.size)))
         clear hF3 hg3 hB3 hb4 m4 hB4 hF4 hc2 hc3)
      | (go_at_call 27
         refine (HFI.out _ _ _ _ H4.out.2.2.2 H4.out.2.2.1).mono ?_
         rintro e w5 ⟨v, rfl, hU, hB5⟩
         have hB5' := H4.out.1.trans (hB5.mono H4.out.1.size)
         obtain ⟨hc7, hc8⟩ := HCF.out w5 hB5'
         have H5 := Lib.hid (And.intro hU (And.intro hB5 hB5'))
         clear hU hB5 hB5' hc4 hc5 hc6 hw4)
      | (go_at_call 28
         refine (HFR.out hl12 _ H5.out.2.2).mono ?_
         rintro e w6 ⟨u, rfl, hU, hB6⟩
         have hB6' := H5.out.2.2.trans (hB6.mono H5.out.2.2.size)
         obtain ⟨hc9, hc10⟩ := HCF.out w6 hB6'
         have hgg := H5.out.2.1.trans (hB6.mono H5.out.2.1.size)
         have hc11 := fun i => cell_of_row w6 w3.heap.size i _ _ _ ((hgg.block _ (lt_of_heap H4.out.2.1)).trans H4.out.2.1)
         have hcv1 := conv_v (own_grows H5.out.1 hB6)
         have hcv2 := conv_v hU
         have H6 := Lib.hid (And.intro hgg hB6')
         clear hU hB6 hB6' hgg hc7 hc8)
      | (go_at_call 18
         refine (HSA.out _ _ _ _ H6.out.2 (Nat.le_trans H4.out.2.2.2 H6.out.1.size) (H4.out.2.2.1.below (H6.out.1.mono H4.out.2.2.2))).mono ?_
         rintro e w7 ⟨rfl, hB7⟩
         have H7 := Lib.hid (H6.out.2.trans (hB7.mono H6.out.2.size))
         clear hB7 hc9 hc10 hc11 hcv1 hcv2))
    go_ret
    exact ⟨rfl, H1.out.trans (H7.out.mono H1.out.size)⟩
  · go_enter Try.func4, Try.ntmps4
    go_wp2_with (go_at_call 25; refine (HGR.out _).mono ?_; rintro e w2 ⟨rfl, hB2⟩; have H2 := Lib.hid hB2; clear hB2 hc0 hc1)
    go_ret
    exact ⟨rfl, H1.out.trans (H2.out.mono H1.out.size)⟩

set_option maxRecDepth 100000 in
set_option maxHeartbeats 8000000 in
theorem fluteFingers_law (f : Fu) (o : Int × Int) (B : Nat) (w : World) (hB : B ≤ w.heap.size) (hz : FuAt w B f) :
    Calls Try.prog 4 #[.agg (fuc f).toArray, .agg #[.int .i64 o.1, .int .i64 o.2]] w fun e w' => e = .returned (.bool true) ∧ Below w.heap.size w w' := by
  by_cases h12 : f.hs.length ≤ 12
  · exact fluteFingers_some f (by omega) o B w hB hz
  have hgt : greatF f bk0 0 = true := by simp [greatF]; omega
  have hgr := fun W => rfGreat_any f bk0 0 W
  rw [hgt] at hgr
  clear hgt hz
  obtain ⟨o0, o1⟩ := o
  dsimp only
  obtain ⟨w1, hw1⟩ : ∃ w1, (w.alloc (.cells (fuc f).toArray 28)).alloc (.cells #[.int .i64 o0, .int .i64 o1] 25) = w1 := ⟨_, rfl⟩
  have hb1 : Below w.heap.size w w1 := by rw [← hw1]; exact ((Below.refl _ _).alloc (Nat.le_refl _) _).alloc (by simp) _
  have m0 : w1.heap[w.heap.size]? = some (.cells (fuc f).toArray 28 (0, 0)) := by rw [← hw1]; exact alloc2_at0 _ _ _
  have hc0 := fun i => cell_of_row w1 w.heap.size i _ _ _ m0
  have H1 := Lib.hid hb1
  have HGR := Lib.hid hgr
  clear hb1 m0 hgr h12
  unfold fuc bkc bk0 at HGR
  dsimp only [List.length_nil] at HGR
  unfold fuc at hw1 hc0 ⊢
  go_enter Try.func4, Try.ntmps4
  go_wp2_with (go_at_call 25; refine (HGR.out _).mono ?_; rintro e w2 ⟨rfl, hB2⟩; have H2 := Lib.hid hB2; clear hB2 hc0)
  go_ret
  exact ⟨rfl, H1.out.trans (H2.out.mono H1.out.size)⟩

end Go.Proofs.Ythjpgpelbagceaa
