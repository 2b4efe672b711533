/-
  Whether a flute plays a note with a fingering.
-/
import Derived.Test.YthjpgpelbagceaaFuN
set_option linter.all false
namespace Go.Proofs.Ythjpgpelbagceaa
open Go.RowKit Go.Maps
open R6 (done done_ne done_me upd_ne upd_me)

attribute [local go_sem] gives

def plaE (f : Fu) (n : Nat) (o : Int × Int) : Int := if okFu f = true then (if n < 2 ^ f.hs.length then (if okNo o = true then 0 else 91) else 2) else 90
def plaV (f : Fu) (n : Nat) (o : Int × Int) : Int := if okFu f = true then (if n < 2 ^ f.hs.length then (if okNo o = true then knoF (airF f n) o (f.s0, f.s1) else 0) else 0) else 0
def PlaPost (w : World) (f : Fu) (n : Nat) (o : Int × Int) (e : Ending) (w' : World) : Prop := e = .returned (.tuple #[.int .u8 (plaV f n o), .int .i64 (plaE f n o)]) ∧ Below w.heap.size w w'

set_option maxRecDepth 100000 in
set_option maxHeartbeats 8000000 in
theorem plays_any (f : Fu) (hl : f.hs.length ≤ 1000000) (n : Nat) (hn : n < 256) (o : Int × Int) (B : Nat) (w : World) (hB : B ≤ w.heap.size) (hz : FuAt w B f) :
    Calls Try.prog 22 #[.agg (fuc f).toArray, .int .u8 (n : Int), .agg #[.int .i64 o.1, .int .i64 o.2]] w (PlaPost w f n o) := by
  unfold PlaPost plaV plaE
  obtain ⟨o0, o1⟩ := o
  dsimp only
  obtain ⟨w1, hw1⟩ : ∃ w1, (w.alloc (.cells (fuc f).toArray 28)).alloc (.cells #[.int .i64 o0, .int .i64 o1] 25) = w1 := ⟨_, rfl⟩
  have hb1 : Below w.heap.size w w1 := by rw [← hw1]; exact ((Below.refl _ _).alloc (Nat.le_refl _) _).alloc (by simp) _
  have m0 : w1.heap[w.heap.size]? = some (.cells (fuc f).toArray 28 (0, 0)) := by rw [← hw1]; exact alloc2_at0 _ _ _
  have m1 : w1.heap[w.heap.size + 1]? = some (.cells #[.int .i64 o0, .int .i64 o1] 25 (0, 0)) := by rw [← hw1]; exact alloc2_at1 _ _ _
  have hz1 := hz.below (hb1.mono hB)
  have htn := tone_any9 f hl n hn B w1 (Nat.le_trans hB hb1.size) hz1
  unfold TonePost tonV tonE at htn
  have hsd := fun (hok : okFu f = true) (hlt : n < 2 ^ f.hs.length) W (hW : Below w1.heap.size w1 W) => sounding_any f n hlt (okFu_bnd hok).2.2.2.2.1 B W (Nat.le_trans hB (Nat.le_trans hb1.size hW.size)) (hz1.below (hW.mono (Nat.le_trans hB hb1.size)))
  have HNO := Lib.hid (fun W => validNote_any o0 o1 W)
  have hcf := fun (W : World) (hW : Below w1.heap.size w1 W) => And.intro (fun i => cell_of_row W w.heap.size i _ _ _ ((hW.block _ (lt_of_heap m0)).trans m0)) (fun i => cell_of_row W (w.heap.size + 1) i _ _ _ ((hW.block _ (lt_of_heap m1)).trans m1))
  have hno : okNo (o0, o1) = okS o0 o1 1 10000000 := rfl
  have H1 := Lib.hid (And.intro hb1 (And.intro m0 m1))
  have hbn := fun (hok : okFu f = true) => okFu_bnd hok
  have hab := fun (hok : okFu f = true) (hlt : n < 2 ^ f.hs.length) => airF_bnd hok hlt
  have hoo := fun (h : okS o0 o1 1 10000000 = true) => (show 1 ≤ o0 ∧ o0 ≤ o1 ∧ o1 ≤ 10000000 by rw [okS_iff] at h; exact h)
  have hoa := fun (hok : okFu f = true) (hlt : n < 2 ^ f.hs.length) (h0 : n ≠ 0) (W1 : World) (b : Nat) hm => openAir_of f hok n hlt h0 W1 b hm
  rw [hno]
  clear hz hz1 hb1 m0 m1 hno
  unfold fuc at hw1 htn hcf
  have HCF := Lib.hid hcf
  obtain ⟨hc0, hc1⟩ := HCF.out w1 (Below.refl _ _)
  have HHN := Lib.hid hn
  clear hcf hn
  unfold fuc
  generalize okS o0 o1 1 10000000 = v3 at HNO hoo ⊢
  generalize okFu f = v1 at htn hsd hbn hab hoa ⊢
  cases v1
  · have HTN := Lib.hid htn
    clear htn hsd hbn hab hoa hoo
    go_enter Try.func22, Try.ntmps22
    go_wp2_with (go_at_call 21; refine HTN.out.mono ?_; rintro e w2 ⟨rfl, hB2⟩; have H2 := Lib.hid hB2; clear hB2 hc0 hc1)
    go_ret2
    exact ⟨rfl, (H1.out.1.trans (H2.out.mono H1.out.1.size)).alloc (by have := H1.out.1.size; have := H2.out.size; omega) _⟩
  by_cases hlt : n < 2 ^ f.hs.length
  · rw [if_pos rfl, if_pos rfl, if_pos hlt, if_pos hlt] at htn ⊢
    generalize tonF f n = tt at htn
    obtain ⟨x, y⟩ := tt
    dsimp only at htn
    have HTN := Lib.hid htn
    have hsd' := hsd rfl hlt
    unfold fuc at hsd'
    have HSD := Lib.hid hsd'
    have hair := hab rfl hlt
    have hbf := hbn rfl
    have hopen := hoa rfl hlt
    have HLT := Lib.hid hlt
    clear htn hsd hsd' hbn hab hoa hlt
    cases v3
    · clear hoo hair hbf hopen
      go_enter Try.func22, Try.ntmps22
      go_wp2_with (first
        | (go_at_call 21; refine HTN.out.mono ?_; rintro e w2 ⟨rfl, hB2⟩; obtain ⟨hd0, hd1⟩ := HCF.out w2 hB2; have hs2 := Nat.lt_of_lt_of_le (lt_of_heap H1.out.2.2) hB2.size; have H2 := Lib.hid hB2; clear hB2 hc0 hc1)
        | (go_at_call 46; refine (HNO.out _).mono ?_; rintro e w3 ⟨rfl, hB3⟩; have H3 := Lib.hid hB3; clear hB3 hd0 hd1))
      go_ret2
      exact ⟨rfl, (((H1.out.1.trans (H2.out.mono H1.out.1.size)).alloc (by have := H1.out.1.size; have := H2.out.size; omega) _).trans (H3.out.mono (by have := H1.out.1.size; have := H2.out.size; simp; omega)))⟩
    · have ho := hoo rfl
      have HKN := Lib.hid (fun W => known_any (airF f n) (o0, o1) (f.s0, f.s1) (by omega) (by dsimp only; omega) (by dsimp only; omega) W)
      have HCA := Lib.hid (fun W1 => closedAir_any f.len f.e0 f.e1 (by omega) (by omega) (by omega) W1)
      have HOA := Lib.hid hopen
      clear hoo ho hair hbf hopen
      generalize knoF (airF f n) (o0, o1) (f.s0, f.s1) = kv at HKN ⊢
      dsimp only at HKN
      go_enter Try.func22, Try.ntmps22
      go_wp2_with (first
        | (go_at_call 21; refine HTN.out.mono ?_; rintro e w2 ⟨rfl, hB2⟩; obtain ⟨hd0, hd1⟩ := HCF.out w2 hB2; have hs2 := Nat.lt_of_lt_of_le (lt_of_heap H1.out.2.2) hB2.size; have H2 := Lib.hid hB2; clear hB2 hc0 hc1)
        | (go_at_call 46; refine (HNO.out _).mono ?_; rintro e w3 ⟨rfl, hB3⟩; have H3 := Lib.hid hB3; clear hB3 hd0 hd1))
      obtain ⟨w4, hw4⟩ : ∃ w4, w3 = w4 := ⟨_, rfl⟩
      have hb4 : Below w1.heap.size w1 w4 := by rw [← hw4]; exact ((H2.out.alloc H2.out.size _).trans (H3.out.mono (by have := H2.out.size; simp; omega)))
      have H4 := Lib.hid hb4
      clear hw4
      refine R6.wp_walk (C := ResF w1 [(w.heap.size, .cells (fuc f).toArray 28 (0, 0)), (w.heap.size + 1, .cells #[.int .i64 o0, .int .i64 o1] 25 (0, 0))] (souKp f n) [(2, 24, 0)]) 30 (by kernel_rfl) (by kernel_rfl) rfl (ResF.start ?_ ⟨?_, ?_, trivial⟩ (fun _ => rfl)) ?_
      · exact ((H2.out.alloc H2.out.size _).trans (H3.out.mono (by have := H2.out.size; simp; omega)))
      · exact (((H2.out.alloc H2.out.size _).trans (H3.out.mono (by have := H2.out.size; simp; omega))).block _ (lt_of_heap H1.out.2.1)).trans H1.out.2.1
      · exact (((H2.out.alloc H2.out.size _).trans (H3.out.mono (by have := H2.out.size; simp; omega))).block _ (lt_of_heap H1.out.2.2)).trans H1.out.2.2
      clear hb4
      simp only []
      iterate 2
        (refine' R6.WalkR.det (fun _ => rfl) (fun D ρ W hK hC => ?_) ?_
         rotate_left
         · have f0 := fun i => cell_of_row W w.heap.size i _ _ _ hC.keep.1
           unfold fuc at f0
           have f1 := fun i => cell_of_row W (w.heap.size + 1) i _ _ _ hC.keep.2.1
           have HC := Lib.hid hC
           clear hC hK
           go_simp
           first
             | with_reducible exact ⟨rfl, HC.out.move (by decide)⟩
             | (go_at_call 48; refine (HKN.out W).mono ?_; rintro e W1 ⟨rfl, hB1⟩; exact ⟨_, rfl, rfl, HC.out.next (souKp_stab _ _) hB1 (by decide)⟩)
         simp only [Act.put, List.setIfInBounds_toArray, List.set_cons_succ, List.set_cons_zero])
      refine' R6.WalkR.nd (fun _ => rfl) rfl (fun D ρ W hK hC => ?_) ?_
      · have HC := Lib.hid hC
        clear hC hK
        go_simp
        go_at_call 47
        refine (HSD.out W HC.out.bel).mono ?_
        rintro e W2 ⟨⟨v, rfl, hv⟩, hB2⟩
        exact ⟨v, rfl, HC.out.made (c := 0) (souKp_stab _ _) hB2 (by decide) hv⟩
      simp only [Act.put, List.setIfInBounds_toArray, List.set_cons_succ, List.set_cons_zero]
      refine' R6.WalkR.det (c := .agg #[.int .i64 (airF f n).1, .int .i64 (airF f n).2]) (fun _ => rfl) (fun D ρ W hK hC => ?_) ?_
      · have hv := hC.get (k := 2) (d := 24) (c := 0) (by simp) (hK.pre 2 (by first | decide +kernel | (dsimp only; decide +kernel)))
        have HC := Lib.hid hC
        clear hC hK
        rcases hv with ⟨hp0, hv⟩ | ⟨hp0, b, hv, hm⟩
        · have hmt := method_closed f.len f.e0 f.e1
          have HP0 := Lib.hid hp0
          have hair : airF f n = (f.len + f.e0, f.len + f.e1) := by simp only [airF, if_pos HP0.out]
          rw [hair]
          clear hp0 hair
          go_simp
          go_at_call 113
          refine (HCA.out W).mono ?_
          rintro e W2 ⟨rfl, hB2⟩
          exact ⟨_, rfl, rfl, HC.out.next (souKp_stab _ _) hB2 (by decide)⟩
        · have hmt := method_open (f.hs[tz8 n]?.getD ⟨0, 0, 0⟩).a (f.hs[tz8 n]?.getD ⟨0, 0, 0⟩).lo (f.hs[tz8 n]?.getD ⟨0, 0, 0⟩).hi
          have hair : airF f n = ((f.hs[tz8 n]?.getD ⟨0, 0, 0⟩).a + (f.hs[tz8 n]?.getD ⟨0, 0, 0⟩).lo + cloF n (tz8 n) (f.hs.length - tz8 n - 1) * f.c0, (f.hs[tz8 n]?.getD ⟨0, 0, 0⟩).a + (f.hs[tz8 n]?.getD ⟨0, 0, 0⟩).hi + cloF n (tz8 n) (f.hs.length - tz8 n - 1) * f.c1) := by simp only [airF, if_neg hp0]
          rw [hair]
          have hoa := HOA.out hp0 W b hm
          clear hp0 hair hm
          generalize cloF n (tz8 n) (f.hs.length - tz8 n - 1) = q at hv hoa ⊢
          generalize f.hs[tz8 n]?.getD ⟨0, 0, 0⟩ = h at hv hoa hmt ⊢
          have HOA1 := Lib.hid hoa
          clear hoa
          go_simp
          go_at_call 116
          refine HOA1.out.mono ?_
          rintro e W2 ⟨rfl, hB2⟩
          exact ⟨_, rfl, rfl, HC.out.next (souKp_stab _ _) hB2 (by decide)⟩
      simp only [Act.put, List.setIfInBounds_toArray, List.set_cons_succ, List.set_cons_zero]
      iterate 6
        (refine' R6.WalkR.det (fun _ => rfl) (fun D ρ W hK hC => ?_) ?_
         rotate_left
         · have f0 := fun i => cell_of_row W w.heap.size i _ _ _ hC.keep.1
           unfold fuc at f0
           have f1 := fun i => cell_of_row W (w.heap.size + 1) i _ _ _ hC.keep.2.1
           have HC := Lib.hid hC
           clear hC hK
           go_simp
           first
             | with_reducible exact ⟨rfl, HC.out.move (by decide)⟩
             | (go_at_call 48; refine (HKN.out W).mono ?_; rintro e W1 ⟨rfl, hB1⟩; exact ⟨_, rfl, rfl, HC.out.next (souKp_stab _ _) hB1 (by decide)⟩)
         simp only [Act.put, List.setIfInBounds_toArray, List.set_cons_succ, List.set_cons_zero])
      refine R6.WalkR.nil (fun D ρ W hD hC => ?_)
      have H9 := Lib.hid (H1.out.1.trans (hC.bel.mono H1.out.1.size))
      clear hC hD
      go_wp2
      go_ret2
      exact ⟨rfl, H9.out⟩
  · rw [if_pos rfl, if_pos rfl, if_neg hlt, if_neg hlt] at htn ⊢
    have HTN := Lib.hid htn
    clear htn hsd hbn hab hoa hoo hlt
    go_enter Try.func22, Try.ntmps22
    go_wp2_with (go_at_call 21; refine HTN.out.mono ?_; rintro e w2 ⟨rfl, hB2⟩; have H2 := Lib.hid hB2; clear hB2 hc0 hc1)
    go_ret2
    exact ⟨rfl, (H1.out.1.trans (H2.out.mono H1.out.1.size)).alloc (by have := H1.out.1.size; have := H2.out.size; omega) _⟩

end Go.Proofs.Ythjpgpelbagceaa
