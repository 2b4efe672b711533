/-
  The law ClumpExamples.
-/
import Derived.Test.YtanjolmelbipoaaDoorAlive
import Derived.Test.YtanjolmelbipoaaDoorYI
import Derived.Test.YtanjolmelbipoaaDoorExaE
import Derived.Test.YtanjolmelbipoaaDoorRegs6
namespace Go.Proofs.YtanjolmelbipoaaDoor
open Go.RowKit Go.Shelf
open R6 (done done_ne done_me upd_ne upd_me)

attribute [local go_sem] gives

/-- The grove of which much is to be kept; the one of which too much was cut. -/
def g0b : Gr := ⟨3, ⟨400, 500, 2, 2, 4, 30⟩, 100, [4, 3, 3, 2, 1], [(5, 3)]⟩
def g0o : Gr := ⟨3, ⟨400, 500, 2, 2, 4, 8⟩, 100, [4, 3, 3, 2, 1], [(5, 9)]⟩

/-- The example's grove in blocks that are known whole. -/
structure G0At (W : World) (a b : Nat) : Prop where
  st : W.heap[a]? = some (.cells (ints g0.start).toArray 3 (0, 0))
  se : W.heap[b]? = some (.cells (pairs g0.seas).toArray 49 (0, 0))
theorem G0At.lt {W : World} {a b : Nat} (h : G0At W a b) : a < W.heap.size ∧ b < W.heap.size := ⟨lt_of_heap h.st, lt_of_heap h.se⟩
theorem G0At.next {W W' : World} {a b : Nat} (h : G0At W a b) (hg : Grows W W') : G0At W' a b := ⟨(hg.block _ h.lt.1).trans h.st, (hg.block _ h.lt.2).trans h.se⟩

theorem grove0_blk (w : World) :
    Calls Tryd.prog 7 #[] w fun e w' => ∃ a b, e = .returned (grv g0 (some ⟨a, 0, none⟩) 5 (some ⟨b, 0, none⟩) 1) ∧ G0At w' a b ∧ (w.heap.size ≤ a ∧ w.heap.size ≤ b) ∧ Below w.heap.size w w' := by
  go_enter Tryd.func7, Tryd.ntmps7
  go_wp2_with (first
    | (go_at_call 10; refine (span_any _ _ _).mono ?_; rintro e w1 ⟨rfl, hB1⟩
       have hs1 := hB1.size
       simp only [World.size_alloc] at hs1
       have hz1 := (hB1.block w.heap.size (by simp)).trans (alloc_at0 w _)
       have H1 := Lib.hid (And.intro (((Below.refl w.heap.size w).alloc (Nat.le_refl _) _).trans (hB1.mono (by simp))) hz1)
       clear hB1 hz1)
    | (show wpList _ _ _ (Oper.mk none (Op.store _ (Operand.tmp 0) (Operand.tmp 6)) _ _ _ _ :: _) _ _
       refine wpList_store_blk 34 (.tmp 0) (.tmp 6) (cs := (gcs g0 (some ⟨w1.heap.size, 0, none⟩) 5 (some ⟨w1.heap.size + 1, 0, none⟩) 1).toList) (L := [.int .i64 0, .int .i64 0, .int .i64 0, .int .i64 0, .int .i64 0, .int .i64 0, .int .i64 0, .int .i64 0, .slice none 0 0, .slice none 0 0]) rfl rfl rfl rfl rfl
         ((Below.heap_alloc _ _ _ (by simp; omega)).trans ((Below.heap_alloc _ _ _ (by omega)).trans H1.out.2)) (by simp) (by intro v hv; simp at hv; rcases hv with rfl | rfl | rfl | rfl | rfl | rfl | rfl | rfl | rfl | rfl <;> rfl) rowApiGrove ?_
       intro w2 hP2 hM2
       rw [splice_all (by simp)] at hM2
       have h3 : w2.heap[w1.heap.size]? = some (.cells (ints g0.start).toArray 3 (0, 0)) := (hP2.other _ (by omega)).trans (alloc2_at0 w1 _ _)
       have h4 : w2.heap[w1.heap.size + 1]? = some (.cells (pairs g0.seas).toArray 49 (0, 0)) := (hP2.other _ (by omega)).trans (alloc2_at1 w1 _ _)
       have H2 := Lib.hid (And.intro (((H1.out.1.alloc (by omega) _).alloc (by simp; omega) _).trans (hP2.below (B := w.heap.size) (Nat.le_refl _))) (And.intro h3 (And.intro h4 hM2)))
       clear hP2 hM2 h3 h4))
  have hres : ∀ i, w2.cell? ⟨w.heap.size, i, none⟩ = _ := fun i => cell_of_row w2 w.heap.size i _ _ _ H2.out.2.2.2
  simp only [g0] at hres
  refine bodyPost_ret (v := grv g0 (some ⟨w1.heap.size, 0, none⟩) 5 (some ⟨w1.heap.size + 1, 0, none⟩) 1) (by simp [results, Tryd.results7, go_sem, hres, grv, g0]) rfl ⟨_, _, rfl, ⟨H2.out.2.1, H2.out.2.2.1⟩, by omega, H2.out.1⟩

theorem gcs0_one (a b : Option Addr) : ∀ v ∈ (gcs g0 a 5 b 1).toList, v.oneCell' = true := by
  intro v hv
  simp at hv
  rcases hv with rfl | rfl | rfl | rfl | rfl | rfl | rfl | rfl | rfl | rfl <;> rfl

/-- Where the walk is behind the two copies. -/
structure ExK (w w14 : World) (a13 b13 a14 b14 : Nat) (W : World) : Prop where
  bel : Below w.heap.size w W
  bare : W.heap[w14.heap.size]? = some (.cells (gcs g0 (some ⟨a13, 0, none⟩) 5 (some ⟨b13, 0, none⟩) 1) 34 (0, 0))
  over : W.heap[w14.heap.size + 1]? = some (.cells (gcs g0 (some ⟨a14, 0, none⟩) 5 (some ⟨b14, 0, none⟩) 1) 34 (0, 0))
  g13 : G0At W a13 b13
  st14 : W.heap[a14]? = some (.cells (ints g0.start).toArray 3 (0, 0))
  seas : W.heap[b14]? = some (.cells (pairs g0.seas).toArray 49 (0, 0))
theorem exa_k {w w14 w15 w16 : World} {a13 b13 a14 b14 : Nat} (h : Below w.heap.size w w14) (h13 : G0At w14 a13 b13) (h14 : G0At w14 a14 b14)
    {Z1 Z2 : Obj} (hp : Put ((w14.alloc Z1).alloc Z2) w15 w14.heap.size) (hm : w15.heap[w14.heap.size]? = some (.cells (gcs g0 (some ⟨a13, 0, none⟩) 5 (some ⟨b13, 0, none⟩) 1).toList.toArray 34 (0, 0)))
    (hp2 : Put w15 w16 (w14.heap.size + 1)) (hm2 : w16.heap[w14.heap.size + 1]? = some (.cells (gcs g0 (some ⟨a14, 0, none⟩) 5 (some ⟨b14, 0, none⟩) 1).toList.toArray 34 (0, 0))) :
    ExK w w14 a13 b13 a14 b14 w16 := by
  have hg := grow2 w14 Z1 Z2
  have l13 := h13.lt
  have l14 := h14.lt
  have old : ∀ (k : Nat), k < w14.heap.size → w16.heap[k]? = w14.heap[k]? := fun k hk => (hp2.other _ (by omega)).trans ((hp.other _ (by omega)).trans (hg.block _ hk))
  refine ⟨h.trans (((hg.trans ((hp.below (B := w14.heap.size) (Nat.le_refl _)).trans (hp2.below (Nat.le_succ _)))).mono h.size)), (hp2.other _ (by omega)).trans hm, hm2, ⟨(old _ l13.1).trans h13.st, (old _ l13.2).trans h13.se⟩, (old _ l14.1).trans h14.st, (old _ l14.2).trans h14.se⟩


/-- What Most tells of the bare grove, in slots. -/
def tupBt (v : Value) (i : Nat) : Value := match v with
  | .tuple a => a.getD i undef
  | _ => undef
def mkK (k : Nat) (d : Option Nat) : Bool := !(k == 2 || k == 3 || d == some 116 || d == some 117)
structure MkC (w0 : World) (D : Nat → Bool) (σ : Nat → Value) (W : World) : Prop where
  bel : Below w0.heap.size w0 W
  new : D 2 = true → ∃ b, σ 116 = .slice (some ⟨b, 0, none⟩) 1 1 ∧ W.heap[b]? = some (.cells #[.int .i64 5, .int .i64 5] 29 (0, 0))
  res : D 3 = true → ∃ X x, σ 117 = .tuple #[.slice X 0 x, .int .i64 0, .int .i64 6]
theorem MkC.move {w0 W : World} {D : Nat → Bool} {σ : Nat → Value} {k : Nat} {d : Option Nat} {v : Value} (h : MkC w0 D σ W) (hk : mkK k d = true) : MkC w0 (done D k) (R4.upd σ d v) W := by
  simp only [mkK, Bool.not_eq_true', Bool.or_eq_false_iff, beq_eq_false_iff_ne, ne_eq] at hk
  obtain ⟨⟨⟨h2, h3⟩, d1⟩, d2⟩ := hk
  have e2 := done_ne (D := D) (k := k) (j := 2) (by omega)
  have e3 := done_ne (D := D) (k := k) (j := 3) (by omega)
  have u1 := upd_ne (ρ := σ) (v := v) d1
  have u2 := upd_ne (ρ := σ) (v := v) d2
  exact ⟨h.bel, by rw [e2, u1]; exact h.new, by rw [e3, u2]; exact h.res⟩
theorem MkC.next {w0 W W' : World} {D : Nat → Bool} {σ : Nat → Value} (h : MkC w0 D σ W) (hg : Grows W W') : MkC w0 D σ W' :=
  ⟨h.bel.trans (hg.mono h.bel.size), fun e => let ⟨b, h1, h2⟩ := h.new e; ⟨b, h1, (hg.block _ (lt_of_heap h2)).trans h2⟩, h.res⟩

theorem g0_facts : (standVal g0 100 = [4, 3, 3, 2, 1] ∧ standErr g0 100 = 0) ∧ (standVal g0 99 = [] ∧ standErr g0 99 = 6) ∧ takenVal g0 100 = [] ∧ (takenVal g0 102 = [] ∧ standErr g0 102 = 6) := by decide +kernel
theorem g0_looks : (lookVal g0 [(1000, 1000)] [5] = [(4, 6, 13, 15)] ∧ lookErr g0 [(1000, 1000)] [5] = 0) ∧ (lookVal g0 [] [] = [] ∧ lookErr g0 [] [] = 11) ∧ (lookVal g0 [(5, 5)] [31] = [] ∧ lookErr g0 [(5, 5)] [31] = 12) := by decide +kernel
theorem g0_mosts : mostR g0b [(5, 5)] = ([], 0, 6) ∧ mostR g0 [(6, 5)] = ([], 0, 11) ∧ errG g0o = 10 := by decide +kernel

set_option maxRecDepth 100000 in
set_option maxHeartbeats 8000000 in
theorem clumpExamples_law (w : World) : Calls Tryd.prog 3 #[] w fun e w' => e = .returned (.bool true) ∧ Below w.heap.size w w' := by
  have c1 : ∀ A1 c1 A2 c2 W, GrAt W W.heap.size g0 A1 c1 A2 c2 → Calls Tryd.prog 6 #[grv g0 A1 c1 A2 c2, .int .i64 100] W (ListPost W [4, 3, 3, 2, 1] 0) := fun A1 c1 A2 c2 W h => by
    have := stand_any g0 100 A1 c1 A2 c2 W.heap.size W (Nat.le_refl _) h
    rwa [g0_facts.1.1, g0_facts.1.2] at this
  have c2 : ∀ A1 c1 A2 c2 W, GrAt W W.heap.size g0 A1 c1 A2 c2 → Calls Tryd.prog 8 #[grv g0 A1 c1 A2 c2, .int .i64 100] W (TakePost W [] 0) := fun A1 c1 A2 c2 W h => by
    have := taken_any g0 100 A1 c1 A2 c2 W.heap.size W (Nat.le_refl _) h
    rwa [g0_facts.2.2.1, g0_facts.1.2] at this
  have c3 : ∀ A1 c1 A2 c2 P1 P2 W, GrAt W W.heap.size g0 A1 c1 A2 c2 → Vals W W.heap.size P1 (pairs [(1000, 1000)]) → Ints W W.heap.size P2 [5] →
      Calls Tryd.prog 9 #[grv g0 A1 c1 A2 c2, .slice P1 1 1, .slice P2 1 1] W (LookPost W [(4, 6, 13, 15)] 0) := fun A1 c1 A2 c2 P1 P2 W h h1 h2 => by
    have := lookP_any g0 A1 c1 A2 c2 P1 1 [(1000, 1000)] P2 1 [5] W.heap.size W (Nat.le_refl _) h h1 h2 (by decide) (by decide)
    rwa [g0_looks.1.1, g0_looks.1.2] at this
  have c4 : ∀ A1 c1 A2 c2 W, GrAt W W.heap.size g0 A1 c1 A2 c2 → Calls Tryd.prog 6 #[grv g0 A1 c1 A2 c2, .int .i64 99] W (ListPost W [] 6) := fun A1 c1 A2 c2 W h => by
    have := stand_any g0 99 A1 c1 A2 c2 W.heap.size W (Nat.le_refl _) h
    rwa [g0_facts.2.1.1, g0_facts.2.1.2] at this
  have c5 : ∀ A1 c1 A2 c2 W, GrAt W W.heap.size g0 A1 c1 A2 c2 → Calls Tryd.prog 8 #[grv g0 A1 c1 A2 c2, .int .i64 102] W (TakePost W [] 6) := fun A1 c1 A2 c2 W h => by
    have := taken_any g0 102 A1 c1 A2 c2 W.heap.size W (Nat.le_refl _) h
    rwa [g0_facts.2.2.2.1, g0_facts.2.2.2.2] at this
  have c6 : ∀ A1 c1 A2 c2 W, GrAt W W.heap.size g0 A1 c1 A2 c2 →
      Calls Tryd.prog 9 #[grv g0 A1 c1 A2 c2, .slice none 0 0, .slice none 0 0] W (LookPost W [] 11) := fun A1 c1 A2 c2 W h => by
    have := lookP_any g0 A1 c1 A2 c2 none 0 [] none 0 [] W.heap.size W (Nat.le_refl _) h (vals_nil _ _) (ints_nil _ _) (by decide) (by decide)
    rwa [g0_looks.2.1.1, g0_looks.2.1.2] at this
  have c7 : ∀ A1 c1 A2 c2 P1 P2 W, GrAt W W.heap.size g0 A1 c1 A2 c2 → Vals W W.heap.size P1 (pairs [(5, 5)]) → Ints W W.heap.size P2 [31] →
      Calls Tryd.prog 9 #[grv g0 A1 c1 A2 c2, .slice P1 1 1, .slice P2 1 1] W (LookPost W [] 12) := fun A1 c1 A2 c2 P1 P2 W h h1 h2 => by
    have := lookP_any g0 A1 c1 A2 c2 P1 1 [(5, 5)] P2 1 [31] W.heap.size W (Nat.le_refl _) h h1 h2 (by decide) (by decide)
    rwa [g0_looks.2.2.1, g0_looks.2.2.2] at this
  have c8 : ∀ A1 c1 A2 c2 P1 W, GrAt W W.heap.size g0b A1 c1 A2 c2 → Vals W W.heap.size P1 (pairs [(5, 5)]) →
      Calls Tryd.prog 13 #[grv g0b A1 c1 A2 c2, .slice P1 1 1] W (MostPost W ([], 0, 6)) := fun A1 c1 A2 c2 P1 W h h1 => by
    have := mostP_any g0b A1 c1 A2 c2 P1 1 [(5, 5)] W.heap.size W (Nat.le_refl _) h h1 (by decide)
    rwa [g0_mosts.1] at this
  have c9 : ∀ A1 c1 A2 c2 P1 W, GrAt W W.heap.size g0 A1 c1 A2 c2 → Vals W W.heap.size P1 (pairs [(6, 5)]) →
      Calls Tryd.prog 13 #[grv g0 A1 c1 A2 c2, .slice P1 1 1] W (MostPost W ([], 0, 11)) := fun A1 c1 A2 c2 P1 W h h1 => by
    have := mostP_any g0 A1 c1 A2 c2 P1 1 [(6, 5)] W.heap.size W (Nat.le_refl _) h h1 (by decide)
    rwa [g0_mosts.2.1] at this
  have c10 : ∀ A1 c1 A2 c2 W, GrAt W W.heap.size g0o A1 c1 A2 c2 → Calls Tryd.prog 14 #[grv g0o A1 c1 A2 c2] W fun e w' => e = .returned (.int .i64 10) ∧ Below W.heap.size W w' := fun A1 c1 A2 c2 W h => by
    have := check_any g0o A1 c1 A2 c2 W.heap.size W (Nat.le_refl _) h
    rwa [g0_mosts.2.2] at this
  have HC := Lib.hid (And.intro c1 (And.intro c2 (And.intro c3 (And.intro c4 (And.intro c5 (And.intro c6 (And.intro c7 (And.intro c8 (And.intro c9 c10)))))))))
  clear c1 c2 c3 c4 c5 c6 c7 c8 c9 c10
  have hA0 : AlAt w none [] none [] none [] none [] w := ⟨Below.refl _ _, ints_nil _ _, vals_nil _ _, vals_nil _ _, ints_nil _ _⟩
  have A0 := Lib.hid hA0
  clear hA0
  go_enter Tryd.func3, Tryd.ntmps3
  go_wp2_with (first
    | (show wpList _ _ _ (Oper.mk none (Op.store _ (Operand.tmp 9) (Operand.tmp 81)) _ _ _ _ :: _) _ _
       refine wpList_store_blk 34 (.tmp 9) (.tmp 81) (cs := (gcs g0 (some ⟨a14, 0, none⟩) 5 (some ⟨b14, 0, none⟩) 1).toList) (L := [.int .i64 0, .int .i64 0, .int .i64 0, .int .i64 0, .int .i64 0, .int .i64 0, .int .i64 0, .int .i64 0, .slice none 0 0, .slice none 0 0]) rfl rfl rfl rfl rfl
         ((A15.out.1.other _ (by simp)).trans (alloc2_at1 w14 _ _)) (by simp) (gcs0_one _ _) rowApiGrove ?_
       intro w16 hP16 hM16
       rw [splice_all (by simp)] at hM16
       have hk := exa_k (w := w) A14.out.1.bel A14.out.2.1 A14.out.2.2 A15.out.1 A15.out.2 hP16 hM16
       have A16 := Lib.hid hk
       have hc8 := fun i => cell_of_row w16 w14.heap.size i _ _ _ hk.bare
       have hf8 := fun i => frozen_of_row w16 w14.heap.size i _ _ hk.bare
       have hc9 := fun i => cell_of_row w16 (w14.heap.size + 1) i _ _ _ hk.over
       have hf9 := fun i => frozen_of_row w16 (w14.heap.size + 1) i _ _ hk.over
       have hcb := fun i => cell_of_row w16 b14 i #[.int .i64 5, .int .i64 3] _ _ hk.seas
       have hfb := fun i => frozen_of_row w16 b14 i _ _ hk.seas
       have hne1 : b14 < w14.heap.size := hl14.2
       have hne2 : b14 ≠ w14.heap.size := by omega
       have hne3 : b14 ≠ w14.heap.size + 1 := by omega
       clear hP16 hM16 hk)
    | (show wpList _ _ _ (Oper.mk none (Op.store _ (Operand.tmp 8) (Operand.tmp 80)) _ _ _ _ :: _) _ _
       refine wpList_store_blk 34 (.tmp 8) (.tmp 80) (cs := (gcs g0 (some ⟨a13, 0, none⟩) 5 (some ⟨b13, 0, none⟩) 1).toList) (L := [.int .i64 0, .int .i64 0, .int .i64 0, .int .i64 0, .int .i64 0, .int .i64 0, .int .i64 0, .int .i64 0, .slice none 0 0, .slice none 0 0]) rfl rfl rfl rfl rfl
         (alloc2_at0 w14 _ _) (by simp) (gcs0_one _ _) rowApiGrove ?_
       intro w15 hP15 hM15
       rw [splice_all (by simp)] at hM15
       have A15 := Lib.hid (And.intro hP15 hM15)
       clear hP15 hM15)
    | (go_at_call 7; (with_reducible refine (grove0_blk w13).mono ?_); rintro e w14 ⟨a14, b14, rfl, hG14, hn14, hB14⟩
       have hs14 := hB14.size
       have hl14 := hG14.lt
       have A14 := Lib.hid (And.intro (A13.out.1.next hB14) (And.intro (A13.out.2.next hB14) hG14))
       clear hB14 hG14)
    | (go_at_call 7; (with_reducible refine (grove0_blk w12).mono ?_); rintro e w13 ⟨a13, b13, rfl, hG13, hn13, hB13⟩
       have hs13 := hB13.size
       have hl13 := hG13.lt
       have A13 := Lib.hid (And.intro (A12.out.next hB13) hG13)
       clear hB13 hG13)
    | (go_at_call 12; refine (sameAhead_any _ _ _ 1 [(4, 6, 13, 15)] _ (w11.alloc (.cells #[.int .i64 4, .int .i64 6, .int .i64 13, .int .i64 15] 47)) (A11.out.alloc _).ic (vals_in (alloc_at0 w11 _) (lt_of_heap (alloc_at0 w11 _)) at0) (by decide)).mono ?_; rintro e w12 ⟨rfl, hB12⟩
       have A12 := Lib.hid ((A11.out.alloc _).next hB12)
       clear hB12)
    | (go_at_call 10; refine (span_any _ _ w10).mono ?_; rintro e w11 ⟨rfl, hB11⟩
       have A11 := Lib.hid (A10.out.next hB11)
       clear hB11)
    | (go_at_call 10; refine (span_any _ _ w9).mono ?_; rintro e w10 ⟨rfl, hB10⟩
       have A10 := Lib.hid (A9.out.next hB10)
       clear hB10)
    | (go_at_call 11; refine (sameInts_any _ _ _ 5 [4, 3, 3, 2, 1] [4, 3, 3, 2, 1] _ (w8.alloc (.cells #[.int .i64 4, .int .i64 3, .int .i64 3, .int .i64 2, .int .i64 1] 3)) (A8.out.alloc _).ia (vals_in (alloc_at0 w8 _) (lt_of_heap (alloc_at0 w8 _)) at0).ints (by decide) (by decide)).mono ?_; rintro e w9 ⟨rfl, hB9⟩
       rw [decide_eq_true rfl]
       have A9 := Lib.hid ((A8.out.alloc _).next hB9)
       clear hB9)
    | (go_at_call 9; refine (HC.out.2.2.1 _ _ _ _ (some ⟨w7.heap.size, 0, none⟩) (some ⟨w7.heap.size + 1, 0, none⟩) ((w7.alloc (.cells #[.int .i64 1000, .int .i64 1000] 29)).alloc (.cells #[.int .i64 5] 3)) (A7.out.2.next (grow2 _ _ _)) (vals_in (alloc2_at0 w7 _ _) (lt_of_heap (alloc2_at0 w7 _ _)) at0) (vals_in (alloc2_at1 w7 _ _) (lt_of_heap (alloc2_at1 w7 _ _)) at0).ints).mono ?_; rintro e w8 ⟨p8, q8, rfl, -, hI8, hB8⟩
       have A8 := Lib.hid (AlAt.mk (((A7.out.1.alloc _).alloc _).next hB8).bel (((A7.out.1.alloc _).alloc _).next hB8).ia (((A7.out.1.alloc _).alloc _).next hB8).ib hI8 (((A7.out.1.alloc _).alloc _).next hB8).ip)
       clear hI8 hB8)
    | (go_at_call 10; refine (span_any _ _ w6).mono ?_; rintro e w7 ⟨rfl, hB7⟩
       have A7 := Lib.hid (And.intro (A6.out.1.next hB7) (A6.out.2.next hB7))
       clear hB7)
    | (go_at_call 7; (with_reducible refine (grove0_any w5).mono ?_); rintro e w6 ⟨a6, b6, rfl, hG6, hB6⟩
       have A6 := Lib.hid (And.intro (A5.out.next hB6) hG6)
       clear hG6 hB6)
    | (go_at_call 8; refine (HC.out.2.1 _ _ _ _ w4 A4.out.2).mono ?_; rintro e w5 ⟨p5, q5, rfl, hI5, hB5⟩
       have A5 := Lib.hid (A4.out.1.next hB5)
       clear hI5 hB5)
    | (go_at_call 7; (with_reducible refine (grove0_any w3).mono ?_); rintro e w4 ⟨a4, b4, rfl, hG4, hB4⟩
       have A4 := Lib.hid (And.intro (A3.out.next hB4) hG4)
       clear hG4 hB4)
    | (go_at_call 6; refine (HC.out.1 _ _ _ _ w2 A2.out.2).mono ?_; rintro e w3 ⟨p3, q3, rfl, -, hI3, -, hB3⟩
       have A3 := Lib.hid (AlAt.mk (A2.out.1.next hB3).bel hI3 (A2.out.1.next hB3).ib (A2.out.1.next hB3).ic (A2.out.1.next hB3).ip)
       clear hI3 hB3)
    | (go_at_call 7; (with_reducible refine (grove0_any w1).mono ?_); rintro e w2 ⟨a2, b2, rfl, hG2, hB2⟩
       have A2 := Lib.hid (And.intro (A1.out.next hB2) hG2)
       clear hG2 hB2)
    | (go_at_call 5; refine (errno10 w1).mono ?_; rintro e w1' ⟨rfl, rfl⟩
       skip)
    | (go_at_call 4; refine (alive_any w).mono ?_; rintro e w1 ⟨rfl, hB1⟩
       have A1 := Lib.hid (A0.out.next hB1)
       clear hB1))
  obtain ⟨w17, hw17⟩ : ∃ w17, (w16.setCell ⟨w14.heap.size, 6, none⟩ (.int .i64 30)).setCell ⟨b14, 1, none⟩ (.int .i64 9) = w17 := ⟨_, rfl⟩
  have hk := A16.out
  have hw0 : w.heap.size ≤ w13.heap.size := A13.out.1.bel.size
  have hbel17 : Below w.heap.size w w17 := by
    rw [← hw17]
    exact (hk.bel.setCell (p := ⟨w14.heap.size, 6, none⟩) (by simp; omega) _).setCell (p := ⟨b14, 1, none⟩) (by simp; omega) _
  have hbare : w17.heap[w14.heap.size]? = some (.cells (gcs g0b (some ⟨a13, 0, none⟩) 5 (some ⟨b13, 0, none⟩) 1) 34 (0, 0)) := by
    rw [← hw17]
    exact (heap_setCell_other _ ⟨b14, 1, none⟩ w14.heap.size _ (by simp; omega)).trans (heap_setCell_same w16 w14.heap.size 6 _ _ (.int .i64 30) hk.bare)
  have hoth : ∀ k, k ≠ b14 → k ≠ w14.heap.size → w17.heap[k]? = w16.heap[k]? := fun k h1 h2 => by
    rw [← hw17]
    exact (heap_setCell_other _ ⟨b14, 1, none⟩ k _ (by simpa using h1)).trans (heap_setCell_other _ ⟨w14.heap.size, 6, none⟩ k _ (by simpa using h2))
  have hover : w17.heap[w14.heap.size + 1]? = some (.cells (gcs g0o (some ⟨a14, 0, none⟩) 5 (some ⟨b14, 0, none⟩) 1) 34 (0, 0)) := (hoth _ (by omega) (by omega)).trans hk.over
  have hseas : w17.heap[b14]? = some (.cells (pairs g0o.seas).toArray 49 (0, 0)) := by
    rw [← hw17]
    exact heap_setCell_same _ b14 1 _ _ (.int .i64 9) ((heap_setCell_other w16 ⟨w14.heap.size, 6, none⟩ b14 _ (by simp; omega)).trans hk.seas)
  have h14a : a14 ≠ b14 := fun e => by
    have h1 := hk.st14
    rw [e, hk.seas] at h1
    simp only [Option.some.injEq, Obj.cells.injEq] at h1
    exact absurd h1.2.1 (by decide)
  have hst14 : w17.heap[a14]? = some (.cells (ints g0.start).toArray 3 (0, 0)) := (hoth _ h14a (by omega)).trans hk.st14
  have hst13 : w17.heap[a13]? = some (.cells (ints g0.start).toArray 3 (0, 0)) := (hoth _ (by omega) (by omega)).trans hk.g13.st
  have hse13 : w17.heap[b13]? = some (.cells (pairs g0.seas).toArray 49 (0, 0)) := (hoth _ (by omega) (by omega)).trans hk.g13.se
  have hGb : GrAt w17 w17.heap.size g0b (some ⟨a13, 0, none⟩) 5 (some ⟨b13, 0, none⟩) 1 := ⟨(vals_in hst13 (lt_of_heap hst13) at0).ints, vals_in hse13 (lt_of_heap hse13) at0, by decide, by decide, by decide, by decide⟩
  have hGo : GrAt w17 w17.heap.size g0o (some ⟨a14, 0, none⟩) 5 (some ⟨b14, 0, none⟩) 1 := ⟨(vals_in hst14 (lt_of_heap hst14) at0).ints, vals_in hseas (lt_of_heap hseas) at0, by decide, by decide, by decide, by decide⟩
  have H17 := Lib.hid (And.intro hbel17 (And.intro hbare (And.intro hover (And.intro hGb hGo))))
  have T17 := Lib.hid (Below.refl w17.heap.size w17)
  rw [hw17]
  clear hw17 hk hbel17 hbare hoth hover hseas hst14 hst13 hse13 hGb hGo hc8 hf8 hc9 hf9 hcb hfb
  go_wp2_with (first
    | (go_at_call 9; refine (HC.out.2.2.2.2.2.2.1 _ _ _ _ (some ⟨w25.heap.size, 0, none⟩) (some ⟨w25.heap.size + 1, 0, none⟩) ((w25.alloc (.cells #[.int .i64 5, .int .i64 5] 29)).alloc (.cells #[.int .i64 31] 3)) (T25.out.2.next (grow2 _ _ _)) (vals_in (alloc2_at0 w25 _ _) (lt_of_heap (alloc2_at0 w25 _ _)) at0) (vals_in (alloc2_at1 w25 _ _) (lt_of_heap (alloc2_at1 w25 _ _)) at0).ints).mono ?_; rintro e w26 ⟨p26, q26, rfl, -, -, hB26⟩
       have T26 := Lib.hid (T25.out.1.trans ((grow2 w25 _ _).trans (hB26.mono (grow2 w25 _ _).size) |>.mono T25.out.1.size))
       clear hB26)
    | (go_at_call 10; refine (span_any _ _ w24).mono ?_; rintro e w25 ⟨rfl, hB25⟩
       have T25 := Lib.hid (And.intro (T24.out.1.trans (hB25.mono T24.out.1.size)) (T24.out.2.next hB25))
       clear hB25)
    | (go_at_call 7; (with_reducible refine (grove0_any w23).mono ?_); rintro e w24 ⟨a24, b24, rfl, hG24, hB24⟩
       have T24 := Lib.hid (And.intro (T23.out.trans (hB24.mono T23.out.size)) hG24)
       clear hG24 hB24)
    | (go_at_call 9; refine (HC.out.2.2.2.2.2.1 _ _ _ _ w22 T22.out.2).mono ?_; rintro e w23 ⟨p23, q23, rfl, -, -, hB23⟩
       have T23 := Lib.hid (T22.out.1.trans (hB23.mono T22.out.1.size))
       clear hB23)
    | (go_at_call 7; (with_reducible refine (grove0_any w21).mono ?_); rintro e w22 ⟨a22, b22, rfl, hG22, hB22⟩
       have T22 := Lib.hid (And.intro (T21.out.trans (hB22.mono T21.out.size)) hG22)
       clear hG22 hB22)
    | (go_at_call 8; refine (HC.out.2.2.2.2.1 _ _ _ _ w20 T20.out.2).mono ?_; rintro e w21 ⟨p21, q21, rfl, -, hB21⟩
       have T21 := Lib.hid (T20.out.1.trans (hB21.mono T20.out.1.size))
       clear hB21)
    | (go_at_call 7; (with_reducible refine (grove0_any w19).mono ?_); rintro e w20 ⟨a20, b20, rfl, hG20, hB20⟩
       have T20 := Lib.hid (And.intro (T19.out.trans (hB20.mono T19.out.size)) hG20)
       clear hG20 hB20)
    | (go_at_call 6; refine (HC.out.2.2.2.1 _ _ _ _ w18 T18.out.2).mono ?_; rintro e w19 ⟨p19, q19, rfl, -, -, -, hB19⟩
       have T19 := Lib.hid (T18.out.1.trans (hB19.mono T18.out.1.size))
       clear hB19)
    | (go_at_call 7; (with_reducible refine (grove0_any w17).mono ?_); rintro e w18 ⟨a18, b18, rfl, hG18, hB18⟩
       have T18 := Lib.hid (And.intro (T17.out.trans (hB18.mono T17.out.size)) hG18)
       clear hG18 hB18))
  refine R6.wp_walk (C := MkC w26) 156 (by kernel_rfl) (by kernel_rfl) rfl ⟨(Below.refl _ _).drew, fun e => (by cases e), fun e => (by cases e)⟩ ?_
  simp only []
  repeat (first
    | (refine' R6.WalkR.det (fun _ => rfl) (fun D ρ W hK hC => ?_) ?_
       rotate_left
       · have hcb := fun i => cell_of_row W w14.heap.size i _ _ _ ((hC.bel.block _ (Nat.lt_of_lt_of_le (lt_of_heap H17.out.2.1) T26.out.size)).trans ((T26.out.block _ (lt_of_heap H17.out.2.1)).trans H17.out.2.1))
         have HC' := Lib.hid hC
         have HC := Lib.hid hC
         clear hC hK
         go_simp
         first
           | with_reducible exact ⟨rfl, HC'.out.move (by decide)⟩
           | (go_at_call 10; refine (span_any _ _ W).mono ?_; rintro e W1 ⟨rfl, hB1⟩; exact ⟨_, rfl, rfl, (HC'.out.next hB1).move (by decide)⟩)
       simp only [Act.put, List.setIfInBounds_toArray, List.set_cons_succ, List.set_cons_zero]))
  refine' R6.WalkR.nd (fun _ => rfl) rfl (fun D ρ W hK hC => ?_) ?_
  · have h3 := hK.post 3 (by first | decide +kernel | (dsimp only; decide +kernel))
    have HC' := Lib.hid hC
    clear hC hK
    go_simp
    have hn := HC'.out.next (grow1 W (.cells #[.int .i64 5, .int .i64 5] 29))
    refine ⟨hn.bel, fun _ => ⟨_, upd_me, alloc_at0 _ _⟩, fun e => ?_⟩
    rw [done_ne (by decide), h3] at e
    cases e
  simp only [Act.put, List.setIfInBounds_toArray, List.set_cons_succ, List.set_cons_zero]
  refine' R6.WalkR.nd (fun _ => rfl) rfl (fun D ρ W hK hC => ?_) ?_
  · obtain ⟨bs, hv, hm⟩ := hC.new (hK.pre 2 (by first | decide +kernel | (dsimp only; decide +kernel)))
    have hHB := hC.bel
    have HC' := Lib.hid hC
    clear hC hK
    go_simp
    have hg := T26.out.trans (hHB.mono T26.out.size)
    go_at_call 13
    refine (HC.out.2.2.2.2.2.2.2.1 _ _ _ _ (some ⟨bs, 0, none⟩) W ((H17.out.2.2.2.1.below hg).mono hg.size) (vals_in hm (lt_of_heap hm) at0)).mono ?_
    rintro e W1 ⟨X, x, rfl, -, -, hB⟩
    refine ⟨_, rfl, hHB.trans (hB.mono hHB.size), fun _ => ⟨bs, ?_, (hB.block _ (lt_of_heap hm)).trans hm⟩, fun _ => ⟨X, x, upd_me⟩⟩
    rw [upd_ne (by decide)]
    exact hv
  simp only [Act.put, List.setIfInBounds_toArray, List.set_cons_succ, List.set_cons_zero]
  refine' R6.WalkR.fn 117 (fun v => v) (fun _ => rfl) (by first | decide +kernel | (dsimp only; decide +kernel)) (fun D ρ W hK hC => ?_) ?_
  · obtain ⟨X, x, hv⟩ := hC.res (hK.pre 3 (by first | decide +kernel | (dsimp only; decide +kernel)))
    have HC' := Lib.hid hC
    clear hC hK
    go_simp
    first
      | exact HC'.out.move (by decide)
      | exact ⟨by rw [hv]; rfl, HC'.out.move (by decide)⟩
      | exact ⟨rfl, HC'.out.move (by decide)⟩
  simp only [Act.put, List.setIfInBounds_toArray, List.set_cons_succ, List.set_cons_zero]
  refine' R6.WalkR.fn 117 (fun v => tupBt v 0) (fun _ => rfl) (by first | decide +kernel | (dsimp only; decide +kernel)) (fun D ρ W hK hC => ?_) ?_
  · obtain ⟨X, x, hv⟩ := hC.res (hK.pre 3 (by first | decide +kernel | (dsimp only; decide +kernel)))
    have HC' := Lib.hid hC
    clear hC hK
    go_simp
    first
      | exact HC'.out.move (by decide)
      | exact ⟨by rw [hv]; rfl, HC'.out.move (by decide)⟩
      | exact ⟨rfl, HC'.out.move (by decide)⟩
  simp only [Act.put, List.setIfInBounds_toArray, List.set_cons_succ, List.set_cons_zero]
  refine' R6.WalkR.det (fun _ => rfl) (fun D ρ W hK hC => ?_) ?_
  rotate_left
  · obtain ⟨X, x, hv⟩ := hC.res (hK.pre 3 (by first | decide +kernel | (dsimp only; decide +kernel)))
    have HC' := Lib.hid hC
    clear hC hK
    go_simp
    exact ⟨rfl, HC'.out.move (by decide)⟩
  simp only [Act.put, List.setIfInBounds_toArray, List.set_cons_succ, List.set_cons_zero]
  refine' R6.WalkR.det (fun _ => rfl) (fun D ρ W hK hC => ?_) ?_
  rotate_left
  · obtain ⟨X, x, hv⟩ := hC.res (hK.pre 3 (by first | decide +kernel | (dsimp only; decide +kernel)))
    have HC' := Lib.hid hC
    clear hC hK
    go_simp
    exact ⟨rfl, HC'.out.move (by decide)⟩
  simp only [Act.put, List.setIfInBounds_toArray, List.set_cons_succ, List.set_cons_zero]
  refine' R6.WalkR.fn 117 (fun v => tupBt v 0) (fun _ => rfl) (by first | decide +kernel | (dsimp only; decide +kernel)) (fun D ρ W hK hC => ?_) ?_
  · obtain ⟨X, x, hv⟩ := hC.res (hK.pre 3 (by first | decide +kernel | (dsimp only; decide +kernel)))
    have HC' := Lib.hid hC
    clear hC hK
    go_simp
    first
      | exact HC'.out.move (by decide)
      | exact ⟨by rw [hv]; rfl, HC'.out.move (by decide)⟩
      | exact ⟨rfl, HC'.out.move (by decide)⟩
  simp only [Act.put, List.setIfInBounds_toArray, List.set_cons_succ, List.set_cons_zero]
  refine' R6.WalkR.det (fun _ => rfl) (fun D ρ W hK hC => ?_) ?_
  rotate_left
  · obtain ⟨X, x, hv⟩ := hC.res (hK.pre 3 (by first | decide +kernel | (dsimp only; decide +kernel)))
    have HC' := Lib.hid hC
    clear hC hK
    go_simp
    exact ⟨rfl, HC'.out.move (by decide)⟩
  simp only [Act.put, List.setIfInBounds_toArray, List.set_cons_succ, List.set_cons_zero]
  refine' R6.WalkR.det (fun _ => rfl) (fun D ρ W hK hC => ?_) ?_
  rotate_left
  · obtain ⟨X, x, hv⟩ := hC.res (hK.pre 3 (by first | decide +kernel | (dsimp only; decide +kernel)))
    have HC' := Lib.hid hC
    clear hC hK
    go_simp
    exact ⟨rfl, HC'.out.move (by decide)⟩
  simp only [Act.put, List.setIfInBounds_toArray, List.set_cons_succ, List.set_cons_zero]
  refine R6.WalkR.nil (fun D ρ w27 hD hC => ?_)
  obtain ⟨X, x, hv⟩ := hC.res (hD 3 (by decide))
  have T27 := Lib.hid (T26.out.trans (hC.bel.mono T26.out.size))
  simp only [hv, tupBt]
  clear hD hC hv
  go_wp2_with (first
    | (go_at_call 14; refine (HC.out.2.2.2.2.2.2.2.2.2 _ _ _ _ w30 ((H17.out.2.2.2.2.below T30.out).mono T30.out.size)).mono ?_; rintro e w31 ⟨rfl, hB31⟩
       have T31 := Lib.hid (T30.out.trans (hB31.mono T30.out.size))
       clear hB31)
    | (go_at_call 13; refine (HC.out.2.2.2.2.2.2.2.2.1 _ _ _ _ (some ⟨w29.heap.size, 0, none⟩) (w29.alloc (.cells #[.int .i64 6, .int .i64 5] 29)) (T29.out.2.next (grow1 _ _)) (vals_in (alloc_at0 w29 _) (lt_of_heap (alloc_at0 w29 _)) at0)).mono ?_; rintro e w30 ⟨p30, q30, rfl, -, -, hB30⟩
       have hx30 := T29.out.1.trans (((grow1 w29 (.cells #[.int .i64 6, .int .i64 5] 29)).trans (hB30.mono (grow1 w29 _).size)).mono T29.out.1.size)
       have hc30 := fun i => cell_of_row w30 (w14.heap.size + 1) i _ _ _ ((hx30.block _ (lt_of_heap H17.out.2.2.1)).trans H17.out.2.2.1)
       have T30 := Lib.hid hx30
       clear hB30 hx30)
    | (go_at_call 10; refine (span_any _ _ w28).mono ?_; rintro e w29 ⟨rfl, hB29⟩
       have T29 := Lib.hid (And.intro (T28.out.1.trans (hB29.mono T28.out.1.size)) (T28.out.2.next hB29))
       clear hB29)
    | (go_at_call 7; (with_reducible refine (grove0_any w27).mono ?_); rintro e w28 ⟨a28, b28, rfl, hG28, hB28⟩
       have T28 := Lib.hid (And.intro (T27.out.trans (hB28.mono T27.out.size)) hG28)
       clear hG28 hB28))
  go_ret
  exact ⟨rfl, H17.out.1.trans (T31.out.mono H17.out.1.size)⟩

end Go.Proofs.YtanjolmelbipoaaDoor
