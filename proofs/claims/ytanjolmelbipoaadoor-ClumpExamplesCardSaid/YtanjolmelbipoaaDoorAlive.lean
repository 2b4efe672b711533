/-
  The chapter's examples of the statements: alive.
-/
import Derived.Test.YtanjolmelbipoaaDoorZI
import Derived.Test.YtanjolmelbipoaaDoorYK
import Derived.Test.YtanjolmelbipoaaDoorYE
import Derived.Test.YtanjolmelbipoaaDoorZD
namespace Go.Proofs.YtanjolmelbipoaaDoor
open Go.RowKit Go.Shelf

/-- The grove of the chapter's examples. -/
def g0 : Gr := ⟨3, ⟨400, 500, 2, 2, 4, 8⟩, 100, [4, 3, 3, 2, 1], [(5, 3)]⟩

theorem span_any (x y : Int) (w : World) :
    Calls Tryd.prog 10 #[.int .i64 x, .int .i64 y] w fun e w' => e = .returned (.agg #[.int .i64 x, .int .i64 y]) ∧ Below w.heap.size w w' := by
  go_enter Tryd.func10, Tryd.ntmps10
  go_wp2
  refine bodyPost_ret (v := .agg #[.int .i64 x, .int .i64 y]) (by simp [results, Tryd.results10, go_sem]) rfl ⟨rfl, ?_⟩
  exact (Below.refl _ _).alloc (Nat.le_refl _) _

theorem grove0_any (w : World) :
    Calls Tryd.prog 7 #[] w fun e w' => ∃ a b, e = .returned (grv g0 (some ⟨a, 0, none⟩) 5 (some ⟨b, 0, none⟩) 1) ∧ GrAt w' w'.heap.size g0 (some ⟨a, 0, none⟩) 5 (some ⟨b, 0, none⟩) 1 ∧ Below w.heap.size w w' := by
  go_enter Tryd.func7, Tryd.ntmps7
  go_wp2_with (first
    | (go_at_call 10; refine (span_any _ _ _).mono ?_; rintro e w1 ⟨rfl, hB1⟩
       have hs1 := hB1.size
       simp only [World.size_alloc] at hs1
       have hz1 := (hB1.block w.heap.size (by simp)).trans (alloc_at0 w _)
       have H1 := Lib.hid (And.intro (((Below.refl w.heap.size w).alloc (Nat.le_refl _) _).trans (hB1.mono (by simp))) hz1)
       clear hB1 hz1)
    | (show wpList _ _ _ (Oper.mk none (Op.store _ (Operand.tmp 0) (Operand.tmp 6)) _ _ _ _ :: _) _ _
       refine wpList_store_blk 34 (.tmp 0) (.tmp 6) (cs := (gcs g0 (some ⟨w1.heap.size, 0, none⟩) 5 (some ⟨w1.heap.size + 1, 0, none⟩) 1).toList) (L := [.int .i64 0, .int .i64 0, .int .i64 0, .int .i64 0, .int .i64 0, .int .i64 0, .int .i64 0, .int .i64 0, .slice none 0 0, .slice none 0 0]) rfl rfl rfl rfl rfl
         ((Below.heap_alloc _ _ _ (by simp; omega)).trans ((Below.heap_alloc _ _ _ (by omega)).trans H1.out.2)) (by simp) (by intro v hv; simp at hv; rcases hv with rfl | rfl | rfl | rfl | rfl | rfl | rfl | rfl | rfl | rfl <;> rfl) rowApiGrove ?_
       intro w2 hP2 hM2
       rw [splice_all (by simp)] at hM2
       have h3 : w2.heap[w1.heap.size]? = some (.cells (ints g0.start).toArray 3 (0, 0)) := (hP2.other _ (by omega)).trans (alloc2_at0 w1 _ _)
       have h4 : w2.heap[w1.heap.size + 1]? = some (.cells (pairs g0.seas).toArray 49 (0, 0)) := (hP2.other _ (by omega)).trans (alloc2_at1 w1 _ _)
       have H2 := Lib.hid (And.intro (((H1.out.1.alloc (by omega) _).alloc (by simp; omega) _).trans (hP2.below (B := w.heap.size) (Nat.le_refl _))) (And.intro h3 (And.intro h4 hM2)))
       clear hP2 hM2 h3 h4))
  have hres : ∀ i, w2.cell? ⟨w.heap.size, i, none⟩ = _ := fun i => cell_of_row w2 w.heap.size i _ _ _ H2.out.2.2.2
  simp only [g0] at hres
  refine bodyPost_ret (v := grv g0 (some ⟨w1.heap.size, 0, none⟩) 5 (some ⟨w1.heap.size + 1, 0, none⟩) 1) (by simp [results, Tryd.results7, go_sem, hres, grv, g0]) rfl ⟨_, _, rfl, ?_, H2.out.1⟩
  exact ⟨(vals_in H2.out.2.1 (lt_of_heap H2.out.2.1) at0).ints, vals_in H2.out.2.2.1 (lt_of_heap H2.out.2.2.1) at0, by decide, by decide, by decide, by decide⟩

/-- Where alive is: what has been told lies in memory. -/
structure AlAt (w : World) (a : Option Addr) (xs : List Int) (b : Option Addr) (ts : List (Int × Int)) (c : Option Addr) (qs : List (Int × Int × Int × Int)) (p : Option Addr) (zs : List Int) (W : World) : Prop where
  bel : Below w.heap.size w W
  ia : Ints W W.heap.size a xs
  ib : Vals W W.heap.size b (pairs ts)
  ic : Vals W W.heap.size c (quads qs)
  ip : Ints W W.heap.size p zs
theorem AlAt.next {w : World} {a : Option Addr} {xs : List Int} {b : Option Addr} {ts : List (Int × Int)} {c : Option Addr} {qs : List (Int × Int × Int × Int)} {p : Option Addr} {zs : List Int} {W W' : World} (h : AlAt w a xs b ts c qs p zs W) (hg : Grows W W') : AlAt w a xs b ts c qs p zs W' :=
  ⟨h.bel.trans (hg.mono h.bel.size), (h.ia.below hg).mono hg.size, (h.ib.below hg).mono hg.size, (h.ic.below hg).mono hg.size, (h.ip.below hg).mono hg.size⟩
theorem AlAt.alloc {w : World} {a : Option Addr} {xs : List Int} {b : Option Addr} {ts : List (Int × Int)} {c : Option Addr} {qs : List (Int × Int × Int × Int)} {p : Option Addr} {zs : List Int} {W : World} (h : AlAt w a xs b ts c qs p zs W) (o : Obj) : AlAt w a xs b ts c qs p zs (W.alloc o) :=
  h.next ((Below.refl _ _).alloc (Nat.le_refl _) _)
theorem GrAt.next {g : Gr} {A1 : Option Addr} {c1 : Nat} {A2 : Option Addr} {c2 : Nat} {W W' : World} (h : GrAt W W.heap.size g A1 c1 A2 c2) (hg : Grows W W') : GrAt W' W'.heap.size g A1 c1 A2 c2 := (h.below hg).mono hg.size
theorem grow1 (W : World) (o : Obj) : Grows W (W.alloc o) := (Below.refl _ _).alloc (Nat.le_refl _) _
theorem grow2 (W : World) (o o' : Obj) : Grows W ((W.alloc o).alloc o') := (grow1 W o).alloc (by simp) _
theorem ints_nil (W : World) (A : Option Addr) : Ints W W.heap.size A [] := fun h => by simp at h
theorem vals_nil (W : World) (A : Option Addr) : Vals W W.heap.size A [] := fun h => by simp at h

theorem g0_stand : standVal g0 101 = [5, 4, 3, 2, 0] ∧ standErr g0 101 = 0 := by decide +kernel
theorem g0_taken : takenVal g0 101 = [(97, 2), (98, 1)] := by decide +kernel
theorem g0_look : lookVal g0 [(500, 1000), (500, 1000)] [6, 5] = [(2, 6, 10, 14)] ∧ lookErr g0 [(500, 1000), (500, 1000)] [6, 5] = 0 := by decide +kernel
theorem g0_most : mostR g0 [(1000, 1000)] = ([9], 9, 0) := by decide +kernel

set_option maxRecDepth 100000 in
set_option maxHeartbeats 8000000 in
theorem alive_any (w : World) : Calls Tryd.prog 4 #[] w fun e w' => e = .returned (.bool true) ∧ Below w.heap.size w w' := by
  have hst : ∀ A1 c1 A2 c2 W, GrAt W W.heap.size g0 A1 c1 A2 c2 → Calls Tryd.prog 6 #[grv g0 A1 c1 A2 c2, .int .i64 101] W (ListPost W [5, 4, 3, 2, 0] 0) := fun A1 c1 A2 c2 W h => by
    have := stand_any g0 101 A1 c1 A2 c2 W.heap.size W (Nat.le_refl _) h
    rwa [g0_stand.1, g0_stand.2] at this
  have hta : ∀ A1 c1 A2 c2 W, GrAt W W.heap.size g0 A1 c1 A2 c2 → Calls Tryd.prog 8 #[grv g0 A1 c1 A2 c2, .int .i64 101] W (TakePost W [(97, 2), (98, 1)] 0) := fun A1 c1 A2 c2 W h => by
    have := taken_any g0 101 A1 c1 A2 c2 W.heap.size W (Nat.le_refl _) h
    rwa [g0_taken, g0_stand.2] at this
  have hlo : ∀ A1 c1 A2 c2 P1 P2 W, GrAt W W.heap.size g0 A1 c1 A2 c2 → Vals W W.heap.size P1 (pairs [(500, 1000), (500, 1000)]) → Ints W W.heap.size P2 [6, 5] →
      Calls Tryd.prog 9 #[grv g0 A1 c1 A2 c2, .slice P1 2 2, .slice P2 2 2] W (LookPost W [(2, 6, 10, 14)] 0) := fun A1 c1 A2 c2 P1 P2 W h h1 h2 => by
    have := lookP_any g0 A1 c1 A2 c2 P1 2 [(500, 1000), (500, 1000)] P2 2 [6, 5] W.heap.size W (Nat.le_refl _) h h1 h2 (by decide) (by decide)
    rwa [g0_look.1, g0_look.2] at this
  have hmo : ∀ A1 c1 A2 c2 P1 W, GrAt W W.heap.size g0 A1 c1 A2 c2 → Vals W W.heap.size P1 (pairs [(1000, 1000)]) →
      Calls Tryd.prog 13 #[grv g0 A1 c1 A2 c2, .slice P1 1 1] W (MostPost W ([9], 9, 0)) := fun A1 c1 A2 c2 P1 W h h1 => by
    have := mostP_any g0 A1 c1 A2 c2 P1 1 [(1000, 1000)] W.heap.size W (Nat.le_refl _) h h1 (by decide)
    rwa [g0_most] at this
  have HC := Lib.hid (And.intro hst (And.intro hta (And.intro hlo hmo)))
  clear hst hta hlo hmo
  have hA0 : AlAt w none [] none [] none [] none [] w := ⟨Below.refl _ _, ints_nil _ _, vals_nil _ _, vals_nil _ _, ints_nil _ _⟩
  have A0 := Lib.hid hA0
  clear hA0
  go_enter Tryd.func4, Tryd.ntmps4
  go_wp2_with (first
    | (go_at_call 11; refine (sameInts_any _ _ _ 1 [9] [9] _ (w16.alloc (.cells #[.int .i64 9] 3)) (A16.out.alloc _).ip (vals_in (alloc_at0 w16 _) (lt_of_heap (alloc_at0 w16 _)) at0).ints (by decide) (by decide)).mono ?_; rintro e w17 ⟨rfl, hB17⟩
       rw [decide_eq_true rfl]
       have A17 := Lib.hid ((A16.out.alloc _).next hB17)
       clear hB17)
    | (go_at_call 12; refine (sameAhead_any _ _ _ 1 [(2, 6, 10, 14)] _ (w15.alloc (.cells #[.int .i64 2, .int .i64 6, .int .i64 10, .int .i64 14] 47)) (A15.out.alloc _).ic (vals_in (alloc_at0 w15 _) (lt_of_heap (alloc_at0 w15 _)) at0) (by decide)).mono ?_; rintro e w16 ⟨rfl, hB16⟩
       have A16 := Lib.hid ((A15.out.alloc _).next hB16)
       clear hB16)
    | (go_at_call 10; refine (span_any _ _ w14).mono ?_; rintro e w15 ⟨rfl, hB15⟩
       have A15 := Lib.hid (A14.out.next hB15)
       clear hB15)
    | (go_at_call 10; refine (span_any _ _ w13).mono ?_; rintro e w14 ⟨rfl, hB14⟩
       have A14 := Lib.hid (A13.out.next hB14)
       clear hB14)
    | (go_at_call 15; refine (sameTakes_any _ _ _ 2 [(97, 2), (98, 1)] [(97, 2), (98, 1)] _ (w12.alloc (.cells #[.int .i64 97, .int .i64 2, .int .i64 98, .int .i64 1] 55)) (A12.out.alloc _).ib (vals_in (alloc_at0 w12 _) (lt_of_heap (alloc_at0 w12 _)) at0) (by decide) (by decide)).mono ?_; rintro e w13 ⟨rfl, hB13⟩
       rw [decide_eq_true rfl]
       have A13 := Lib.hid ((A12.out.alloc _).next hB13)
       clear hB13)
    | (go_at_call 11; refine (sameInts_any _ _ _ 5 [5, 4, 3, 2, 0] [5, 4, 3, 2, 0] _ (w11.alloc (.cells #[.int .i64 5, .int .i64 4, .int .i64 3, .int .i64 2, .int .i64 0] 3)) (A11.out.alloc _).ia (vals_in (alloc_at0 w11 _) (lt_of_heap (alloc_at0 w11 _)) at0).ints (by decide) (by decide)).mono ?_; rintro e w12 ⟨rfl, hB12⟩
       rw [decide_eq_true rfl]
       have A12 := Lib.hid ((A11.out.alloc _).next hB12)
       clear hB12)
    | (go_at_call 13; refine (HC.out.2.2.2 _ _ _ _ (some ⟨w10.heap.size, 0, none⟩) (w10.alloc (.cells #[.int .i64 1000, .int .i64 1000] 29)) (A10.out.2.next (grow1 _ _)) (vals_in (alloc_at0 w10 _) (lt_of_heap (alloc_at0 w10 _)) at0)).mono ?_; rintro e w11 ⟨p11, q11, rfl, -, hI11, hB11⟩
       have A11 := Lib.hid (AlAt.mk ((A10.out.1.alloc _).next hB11).bel ((A10.out.1.alloc _).next hB11).ia ((A10.out.1.alloc _).next hB11).ib ((A10.out.1.alloc _).next hB11).ic hI11)
       clear hI11 hB11)
    | (go_at_call 10; refine (span_any _ _ w9).mono ?_; rintro e w10 ⟨rfl, hB10⟩
       have A10 := Lib.hid (And.intro (A9.out.1.next hB10) (A9.out.2.next hB10))
       clear hB10)
    | (go_at_call 7; refine (grove0_any w8).mono ?_; rintro e w9 ⟨a9, b9, rfl, hG9, hB9⟩
       have A9 := Lib.hid (And.intro (A8.out.next hB9) hG9)
       clear hG9 hB9)
    | (go_at_call 9; refine (HC.out.2.2.1 _ _ _ _ (some ⟨w7.heap.size, 0, none⟩) (some ⟨w7.heap.size + 1, 0, none⟩) ((w7.alloc (.cells #[.int .i64 500, .int .i64 1000, .int .i64 500, .int .i64 1000] 29)).alloc (.cells #[.int .i64 6, .int .i64 5] 3)) (A7.out.2.next (grow2 _ _ _)) (vals_in (alloc2_at0 w7 _ _) (lt_of_heap (alloc2_at0 w7 _ _)) at0) (vals_in (alloc2_at1 w7 _ _) (lt_of_heap (alloc2_at1 w7 _ _)) at0).ints).mono ?_; rintro e w8 ⟨p8, q8, rfl, -, hI8, hB8⟩
       have A8 := Lib.hid (AlAt.mk (((A7.out.1.alloc _).alloc _).next hB8).bel (((A7.out.1.alloc _).alloc _).next hB8).ia (((A7.out.1.alloc _).alloc _).next hB8).ib hI8 (((A7.out.1.alloc _).alloc _).next hB8).ip)
       clear hI8 hB8)
    | (go_at_call 10; refine (span_any _ _ w6).mono ?_; rintro e w7 ⟨rfl, hB7⟩
       have A7 := Lib.hid (And.intro (A6.out.1.next hB7) (A6.out.2.next hB7))
       clear hB7)
    | (go_at_call 10; refine (span_any _ _ w5).mono ?_; rintro e w6 ⟨rfl, hB6⟩
       have A6 := Lib.hid (And.intro (A5.out.1.next hB6) (A5.out.2.next hB6))
       clear hB6)
    | (go_at_call 7; refine (grove0_any w4).mono ?_; rintro e w5 ⟨a5, b5, rfl, hG5, hB5⟩
       have A5 := Lib.hid (And.intro (A4.out.next hB5) hG5)
       clear hG5 hB5)
    | (go_at_call 8; refine (HC.out.2.1 _ _ _ _ w3 A3.out.2).mono ?_; rintro e w4 ⟨p4, q4, rfl, hI4, hB4⟩
       have A4 := Lib.hid (AlAt.mk (A3.out.1.next hB4).bel (A3.out.1.next hB4).ia hI4 (A3.out.1.next hB4).ic (A3.out.1.next hB4).ip)
       clear hI4 hB4)
    | (go_at_call 7; refine (grove0_any w2).mono ?_; rintro e w3 ⟨a3, b3, rfl, hG3, hB3⟩
       have A3 := Lib.hid (And.intro (A2.out.next hB3) hG3)
       clear hG3 hB3)
    | (go_at_call 6; refine (HC.out.1 _ _ _ _ w1 A1.out.2).mono ?_; rintro e w2 ⟨p1, q1, rfl, -, hI2, -, hB2⟩
       have A2 := Lib.hid (AlAt.mk (A1.out.1.next hB2).bel hI2 (A1.out.1.next hB2).ib (A1.out.1.next hB2).ic (A1.out.1.next hB2).ip)
       clear hI2 hB2)
    | (go_at_call 7; refine (grove0_any w).mono ?_; rintro e w1 ⟨a1, b1, rfl, hG1, hB1⟩
       have A1 := Lib.hid (And.intro (A0.out.next hB1) hG1)
       clear hG1 hB1))
  go_ret
  exact ⟨rfl, A17.out.bel⟩

end Go.Proofs.YtanjolmelbipoaaDoor
