/-
  The examples of the statements; what the outright statements begin with; what stands lies between the least and the greatest.
-/
import Derived.Test.YtanjolmelbipoaaZI
import Derived.Test.YtanjolmelbipoaaYK
import Derived.Test.YtanjolmelbipoaaYE
import Derived.Test.YtanjolmelbipoaaZD
import Derived.Test.YtanjolmelbipoaaZF
import Derived.Test.YtanjolmelbipoaaYL
namespace Go.Proofs.Ytanjolmelbipoaa
open Go.RowKit Go.Shelf

/-- The grove of the chapter's examples. -/
def g0 : Gr := ⟨3, ⟨400, 500, 2, 2, 4, 8⟩, 100, [4, 3, 3, 2, 1], [(5, 3)]⟩

theorem span_any (x y : Int) (w : World) :
    Calls Try.prog 36 #[.int .i64 x, .int .i64 y] w fun e w' => e = .returned (.agg #[.int .i64 x, .int .i64 y]) ∧ Below w.heap.size w w' := by
  go_enter Try.func36, Try.ntmps36
  go_wp2
  refine bodyPost_ret (v := .agg #[.int .i64 x, .int .i64 y]) (by simp [results, Try.results36, go_sem]) rfl ⟨rfl, ?_⟩
  exact (Below.refl _ _).alloc (Nat.le_refl _) _

theorem grove0_any (w : World) :
    Calls Try.prog 53 #[] w fun e w' => ∃ a b, e = .returned (grv g0 (some ⟨a, 0, none⟩) 5 (some ⟨b, 0, none⟩) 1) ∧ GrAt w' w'.heap.size g0 (some ⟨a, 0, none⟩) 5 (some ⟨b, 0, none⟩) 1 ∧ Below w.heap.size w w' := by
  go_enter Try.func53, Try.ntmps53
  go_wp2_with (first
    | (go_at_call 36; refine (span_any _ _ _).mono ?_; rintro e w1 ⟨rfl, hB1⟩
       have hs1 := hB1.size
       simp only [World.size_alloc] at hs1
       have hz1 := (hB1.block w.heap.size (by simp)).trans (alloc_at0 w _)
       have H1 := Lib.hid (And.intro (((Below.refl w.heap.size w).alloc (Nat.le_refl _) _).trans (hB1.mono (by simp))) hz1)
       clear hB1 hz1)
    | (show wpList _ _ _ (Oper.mk none (Op.store _ (Operand.tmp 0) (Operand.tmp 6)) _ _ _ _ :: _) _ _
       refine wpList_store_blk 29 (.tmp 0) (.tmp 6) (cs := (gcs g0 (some ⟨w1.heap.size, 0, none⟩) 5 (some ⟨w1.heap.size + 1, 0, none⟩) 1).toList) (L := [.int .i64 0, .int .i64 0, .int .i64 0, .int .i64 0, .int .i64 0, .int .i64 0, .int .i64 0, .int .i64 0, .slice none 0 0, .slice none 0 0]) rfl rfl rfl rfl rfl
         ((Below.heap_alloc _ _ _ (by simp; omega)).trans ((Below.heap_alloc _ _ _ (by omega)).trans H1.out.2)) (by simp) (by intro v hv; simp at hv; rcases hv with rfl | rfl | rfl | rfl | rfl | rfl | rfl | rfl | rfl | rfl <;> rfl) rowApiGrove ?_
       intro w2 hP2 hM2
       rw [splice_all (by simp)] at hM2
       have h3 : w2.heap[w1.heap.size]? = some (.cells (ints g0.start).toArray 3 (0, 0)) := (hP2.other _ (by omega)).trans (alloc2_at0 w1 _ _)
       have h4 : w2.heap[w1.heap.size + 1]? = some (.cells (pairs g0.seas).toArray 76 (0, 0)) := (hP2.other _ (by omega)).trans (alloc2_at1 w1 _ _)
       have H2 := Lib.hid (And.intro (((H1.out.1.alloc (by omega) _).alloc (by simp; omega) _).trans (hP2.below (B := w.heap.size) (Nat.le_refl _))) (And.intro h3 (And.intro h4 hM2)))
       clear hP2 hM2 h3 h4))
  have hres : ∀ i, w2.cell? ⟨w.heap.size, i, none⟩ = _ := fun i => cell_of_row w2 w.heap.size i _ _ _ H2.out.2.2.2
  simp only [g0] at hres
  refine bodyPost_ret (v := grv g0 (some ⟨w1.heap.size, 0, none⟩) 5 (some ⟨w1.heap.size + 1, 0, none⟩) 1) (by simp [results, Try.results53, go_sem, hres, grv, g0]) rfl ⟨_, _, rfl, ?_, H2.out.1⟩
  exact ⟨(vals_in H2.out.2.1 (lt_of_heap H2.out.2.1) at0).ints, vals_in H2.out.2.2.1 (lt_of_heap H2.out.2.2.1) at0, by decide, by decide, by decide, by decide⟩

/-- Where alive is: what has been told lies in memory. -/
structure AlAt (w : World) (a : Option Addr) (xs : List Int) (b : Option Addr) (ts : List (Int × Int)) (c : Option Addr) (qs : List (Int × Int × Int × Int)) (p : Option Addr) (zs : List Int) (W : World) : Prop where
  bel : Below w.heap.size w W
  ia : Ints W W.heap.size a xs
  ib : Vals W W.heap.size b (pairs ts)
  ic : Vals W W.heap.size c (quads qs)
  ip : Ints W W.heap.size p zs
theorem AlAt.next {w : World} {a : Option Addr} {xs : List Int} {b : Option Addr} {ts : List (Int × Int)} {c : Option Addr} {qs : List (Int × Int × Int × Int)} {p : Option Addr} {zs : List Int} {W W' : World} (h : AlAt w a xs b ts c qs p zs W) (hg : Grows W W') : AlAt w a xs b ts c qs p zs W' :=
  ⟨h.bel.trans (hg.mono h.bel.size), (h.ia.below hg).mono hg.size, (h.ib.below hg).mono hg.size, (h.ic.below hg).mono hg.size, (h.ip.below hg).mono hg.size⟩
theorem AlAt.alloc {w : World} {a : Option Addr} {xs : List Int} {b : Option Addr} {ts : List (Int × Int)} {c : Option Addr} {qs : List (Int × Int × Int × Int)} {p : Option Addr} {zs : List Int} {W : World} (h : AlAt w a xs b ts c qs p zs W) (o : Obj) : AlAt w a xs b ts c qs p zs (W.alloc o) :=
  h.next ((Below.refl _ _).alloc (Nat.le_refl _) _)
theorem GrAt.next {g : Gr} {A1 : Option Addr} {c1 : Nat} {A2 : Option Addr} {c2 : Nat} {W W' : World} (h : GrAt W W.heap.size g A1 c1 A2 c2) (hg : Grows W W') : GrAt W' W'.heap.size g A1 c1 A2 c2 := (h.below hg).mono hg.size
theorem grow1 (W : World) (o : Obj) : Grows W (W.alloc o) := (Below.refl _ _).alloc (Nat.le_refl _) _
theorem grow2 (W : World) (o o' : Obj) : Grows W ((W.alloc o).alloc o') := (grow1 W o).alloc (by simp) _
theorem ints_nil (W : World) (A : Option Addr) : Ints W W.heap.size A [] := fun h => by simp at h
theorem vals_nil (W : World) (A : Option Addr) : Vals W W.heap.size A [] := fun h => by simp at h

theorem g0_stand : standVal g0 101 = [5, 4, 3, 2, 0] ∧ standErr g0 101 = 0 := by decide +kernel
theorem g0_taken : takenVal g0 101 = [(97, 2), (98, 1)] := by decide +kernel
theorem g0_look : lookVal g0 [(500, 1000), (500, 1000)] [6, 5] = [(2, 6, 10, 14)] ∧ lookErr g0 [(500, 1000), (500, 1000)] [6, 5] = 0 := by decide +kernel
theorem g0_most : mostR g0 [(1000, 1000)] = ([9], 9, 0) := by decide +kernel

set_option maxRecDepth 100000 in
set_option maxHeartbeats 8000000 in
theorem alive_any (w : World) : Calls Try.prog 28 #[] w fun e w' => e = .returned (.bool true) ∧ Below w.heap.size w w' := by
  have hst : ∀ A1 c1 A2 c2 W, GrAt W W.heap.size g0 A1 c1 A2 c2 → Calls Try.prog 14 #[grv g0 A1 c1 A2 c2, .int .i64 101] W (ListPost W [5, 4, 3, 2, 0] 0) := fun A1 c1 A2 c2 W h => by
    have := stand_any g0 101 A1 c1 A2 c2 W.heap.size W (Nat.le_refl _) h
    rwa [g0_stand.1, g0_stand.2] at this
  have hta : ∀ A1 c1 A2 c2 W, GrAt W W.heap.size g0 A1 c1 A2 c2 → Calls Try.prog 16 #[grv g0 A1 c1 A2 c2, .int .i64 101] W (TakePost W [(97, 2), (98, 1)] 0) := fun A1 c1 A2 c2 W h => by
    have := taken_any g0 101 A1 c1 A2 c2 W.heap.size W (Nat.le_refl _) h
    rwa [g0_taken, g0_stand.2] at this
  have hlo : ∀ A1 c1 A2 c2 P1 P2 W, GrAt W W.heap.size g0 A1 c1 A2 c2 → Vals W W.heap.size P1 (pairs [(500, 1000), (500, 1000)]) → Ints W W.heap.size P2 [6, 5] →
      Calls Try.prog 23 #[grv g0 A1 c1 A2 c2, .slice P1 2 2, .slice P2 2 2] W (LookPost W [(2, 6, 10, 14)] 0) := fun A1 c1 A2 c2 P1 P2 W h h1 h2 => by
    have := lookP_any g0 A1 c1 A2 c2 P1 2 [(500, 1000), (500, 1000)] P2 2 [6, 5] W.heap.size W (Nat.le_refl _) h h1 h2 (by decide) (by decide)
    rwa [g0_look.1, g0_look.2] at this
  have hmo : ∀ A1 c1 A2 c2 P1 W, GrAt W W.heap.size g0 A1 c1 A2 c2 → Vals W W.heap.size P1 (pairs [(1000, 1000)]) →
      Calls Try.prog 26 #[grv g0 A1 c1 A2 c2, .slice P1 1 1] W (MostPost W ([9], 9, 0)) := fun A1 c1 A2 c2 P1 W h h1 => by
    have := mostP_any g0 A1 c1 A2 c2 P1 1 [(1000, 1000)] W.heap.size W (Nat.le_refl _) h h1 (by decide)
    rwa [g0_most] at this
  have HC := Lib.hid (And.intro hst (And.intro hta (And.intro hlo hmo)))
  clear hst hta hlo hmo
  have hA0 : AlAt w none [] none [] none [] none [] w := ⟨Below.refl _ _, ints_nil _ _, vals_nil _ _, vals_nil _ _, ints_nil _ _⟩
  have A0 := Lib.hid hA0
  clear hA0
  go_enter Try.func28, Try.ntmps28
  go_wp2_with (first
    | (go_at_call 20; refine (sameInts_any _ _ _ 1 [9] [9] _ (w16.alloc (.cells #[.int .i64 9] 3)) (A16.out.alloc _).ip (vals_in (alloc_at0 w16 _) (lt_of_heap (alloc_at0 w16 _)) at0).ints (by decide) (by decide)).mono ?_; rintro e w17 ⟨rfl, hB17⟩
       rw [decide_eq_true rfl]
       have A17 := Lib.hid ((A16.out.alloc _).next hB17)
       clear hB17)
    | (go_at_call 25; refine (sameAhead_any _ _ _ 1 [(2, 6, 10, 14)] _ (w15.alloc (.cells #[.int .i64 2, .int .i64 6, .int .i64 10, .int .i64 14] 65)) (A15.out.alloc _).ic (vals_in (alloc_at0 w15 _) (lt_of_heap (alloc_at0 w15 _)) at0) (by decide)).mono ?_; rintro e w16 ⟨rfl, hB16⟩
       have A16 := Lib.hid ((A15.out.alloc _).next hB16)
       clear hB16)
    | (go_at_call 36; refine (span_any _ _ w14).mono ?_; rintro e w15 ⟨rfl, hB15⟩
       have A15 := Lib.hid (A14.out.next hB15)
       clear hB15)
    | (go_at_call 36; refine (span_any _ _ w13).mono ?_; rintro e w14 ⟨rfl, hB14⟩
       have A14 := Lib.hid (A13.out.next hB14)
       clear hB14)
    | (go_at_call 21; refine (sameTakes_any _ _ _ 2 [(97, 2), (98, 1)] [(97, 2), (98, 1)] _ (w12.alloc (.cells #[.int .i64 97, .int .i64 2, .int .i64 98, .int .i64 1] 78)) (A12.out.alloc _).ib (vals_in (alloc_at0 w12 _) (lt_of_heap (alloc_at0 w12 _)) at0) (by decide) (by decide)).mono ?_; rintro e w13 ⟨rfl, hB13⟩
       rw [decide_eq_true rfl]
       have A13 := Lib.hid ((A12.out.alloc _).next hB13)
       clear hB13)
    | (go_at_call 20; refine (sameInts_any _ _ _ 5 [5, 4, 3, 2, 0] [5, 4, 3, 2, 0] _ (w11.alloc (.cells #[.int .i64 5, .int .i64 4, .int .i64 3, .int .i64 2, .int .i64 0] 3)) (A11.out.alloc _).ia (vals_in (alloc_at0 w11 _) (lt_of_heap (alloc_at0 w11 _)) at0).ints (by decide) (by decide)).mono ?_; rintro e w12 ⟨rfl, hB12⟩
       rw [decide_eq_true rfl]
       have A12 := Lib.hid ((A11.out.alloc _).next hB12)
       clear hB12)
    | (go_at_call 26; refine (HC.out.2.2.2 _ _ _ _ (some ⟨w10.heap.size, 0, none⟩) (w10.alloc (.cells #[.int .i64 1000, .int .i64 1000] 23)) (A10.out.2.next (grow1 _ _)) (vals_in (alloc_at0 w10 _) (lt_of_heap (alloc_at0 w10 _)) at0)).mono ?_; rintro e w11 ⟨p11, q11, rfl, -, hI11, hB11⟩
       have A11 := Lib.hid (AlAt.mk ((A10.out.1.alloc _).next hB11).bel ((A10.out.1.alloc _).next hB11).ia ((A10.out.1.alloc _).next hB11).ib ((A10.out.1.alloc _).next hB11).ic hI11)
       clear hI11 hB11)
    | (go_at_call 36; refine (span_any _ _ w9).mono ?_; rintro e w10 ⟨rfl, hB10⟩
       have A10 := Lib.hid (And.intro (A9.out.1.next hB10) (A9.out.2.next hB10))
       clear hB10)
    | (go_at_call 53; refine (grove0_any w8).mono ?_; rintro e w9 ⟨a9, b9, rfl, hG9, hB9⟩
       have A9 := Lib.hid (And.intro (A8.out.next hB9) hG9)
       clear hG9 hB9)
    | (go_at_call 23; refine (HC.out.2.2.1 _ _ _ _ (some ⟨w7.heap.size, 0, none⟩) (some ⟨w7.heap.size + 1, 0, none⟩) ((w7.alloc (.cells #[.int .i64 500, .int .i64 1000, .int .i64 500, .int .i64 1000] 23)).alloc (.cells #[.int .i64 6, .int .i64 5] 3)) (A7.out.2.next (grow2 _ _ _)) (vals_in (alloc2_at0 w7 _ _) (lt_of_heap (alloc2_at0 w7 _ _)) at0) (vals_in (alloc2_at1 w7 _ _) (lt_of_heap (alloc2_at1 w7 _ _)) at0).ints).mono ?_; rintro e w8 ⟨p8, q8, rfl, -, hI8, hB8⟩
       have A8 := Lib.hid (AlAt.mk (((A7.out.1.alloc _).alloc _).next hB8).bel (((A7.out.1.alloc _).alloc _).next hB8).ia (((A7.out.1.alloc _).alloc _).next hB8).ib hI8 (((A7.out.1.alloc _).alloc _).next hB8).ip)
       clear hI8 hB8)
    | (go_at_call 36; refine (span_any _ _ w6).mono ?_; rintro e w7 ⟨rfl, hB7⟩
       have A7 := Lib.hid (And.intro (A6.out.1.next hB7) (A6.out.2.next hB7))
       clear hB7)
    | (go_at_call 36; refine (span_any _ _ w5).mono ?_; rintro e w6 ⟨rfl, hB6⟩
       have A6 := Lib.hid (And.intro (A5.out.1.next hB6) (A5.out.2.next hB6))
       clear hB6)
    | (go_at_call 53; refine (grove0_any w4).mono ?_; rintro e w5 ⟨a5, b5, rfl, hG5, hB5⟩
       have A5 := Lib.hid (And.intro (A4.out.next hB5) hG5)
       clear hG5 hB5)
    | (go_at_call 16; refine (HC.out.2.1 _ _ _ _ w3 A3.out.2).mono ?_; rintro e w4 ⟨p4, q4, rfl, hI4, hB4⟩
       have A4 := Lib.hid (AlAt.mk (A3.out.1.next hB4).bel (A3.out.1.next hB4).ia hI4 (A3.out.1.next hB4).ic (A3.out.1.next hB4).ip)
       clear hI4 hB4)
    | (go_at_call 53; refine (grove0_any w2).mono ?_; rintro e w3 ⟨a3, b3, rfl, hG3, hB3⟩
       have A3 := Lib.hid (And.intro (A2.out.next hB3) hG3)
       clear hG3 hB3)
    | (go_at_call 14; refine (HC.out.1 _ _ _ _ w1 A1.out.2).mono ?_; rintro e w2 ⟨p1, q1, rfl, -, hI2, -, hB2⟩
       have A2 := Lib.hid (AlAt.mk (A1.out.1.next hB2).bel hI2 (A1.out.1.next hB2).ib (A1.out.1.next hB2).ic (A1.out.1.next hB2).ip)
       clear hI2 hB2)
    | (go_at_call 53; refine (grove0_any w).mono ?_; rintro e w1 ⟨a1, b1, rfl, hG1, hB1⟩
       have A1 := Lib.hid (And.intro (A0.out.next hB1) hG1)
       clear hG1 hB1))
  go_ret
  exact ⟨rfl, A17.out.bel⟩

end Go.Proofs.Ytanjolmelbipoaa

namespace Go.Proofs.Ytanjolmelbipoaa
open Go.RowKit

attribute [local go_sem] gives

/-- Whether a grove and rains are valid, and not great. -/
def readyB (g : Gr) (ps : List (Int × Int)) : Bool := !great g && okGrove g && rainsOk ps

set_option maxHeartbeats 1000000 in
theorem ready_any (g : Gr) (A1 : Option Addr) (c1 : Nat) (A2 : Option Addr) (c2 : Nat) (P1 : Option Addr) (k1 : Nat) (ps : List (Int × Int)) (B : Nat) (w : World) (hB : B ≤ w.heap.size) (hG : GrAt w B g A1 c1 A2 c2)
    (hV1 : Vals w B P1 (pairs ps)) (l1 : ps.length ≤ 9223372036854775807) :
    Calls Try.prog 29 #[grv g A1 c1 A2 c2, .slice P1 ps.length k1] w fun e w' => e = .returned (.bool (readyB g ps)) ∧ Below w.heap.size w w' := by
  have HG := Lib.hid hG
  have HV := Lib.hid hV1
  obtain ⟨w0, hw0⟩ : ∃ w0, w.alloc (.cells (gcs g A1 c1 A2 c2) 29) = w0 := ⟨_, rfl⟩
  have hb0 : Below w.heap.size w w0 := by rw [← hw0]; exact (Below.refl _ _).alloc (Nat.le_refl _) _
  have hs0 : w0.heap.size = w.heap.size + 1 := by rw [← hw0]; simp
  have hm0 : w0.heap[w.heap.size]? = some (.cells (gcs g A1 c1 A2 c2) 29 (0, 0)) := by rw [← hw0]; exact alloc_at0 w _
  have hc0 := fun i => cell_of_row w0 w.heap.size i _ _ _ hm0
  have B0 := Lib.hid (And.intro hb0 (And.intro hm0 hs0))
  clear hG hV1 hb0 hm0 hs0
  unfold readyB
  simp only [gcs] at hw0
  unfold grv
  cases hgr : great g with
  | true =>
    have HR := Lib.hid hgr
    clear hgr
    go_enter Try.func29, Try.ntmps29
    go_wp2_with (go_at_call 12; refine (refGreat_any g A1 c1 A2 c2 w0).mono ?_; rintro e w1 ⟨rfl, hB1⟩; rw [HR.out]; have H1 := Lib.hid hB1; clear hB1)
    go_ret
    exact ⟨rfl, B0.out.1.trans (H1.out.mono (by have := B0.out.2.2; omega))⟩
  | false =>
    cases hok : okGrove g with
    | false =>
      have he : errG g = 10 := by simp [errG, hok]
      have HR := Lib.hid (And.intro hgr he)
      clear hgr hok he
      go_enter Try.func29, Try.ntmps29
      go_wp2_with (first
        | (go_at_call 12; refine (refGreat_any g A1 c1 A2 c2 w0).mono ?_; rintro e w1 ⟨rfl, hB1⟩; rw [HR.out.1]
           have hc1 := fun i => cell_of_row w1 w.heap.size i _ _ _ ((hB1.block _ (by have := B0.out.2.2; omega)).trans B0.out.2.1)
           have H1 := Lib.hid (B0.out.1.trans (hB1.mono (by have := B0.out.2.2; omega))); clear hB1)
        | (go_at_call 19; refine (refCheck_any g A1 c1 A2 c2 B w1 (Nat.le_trans hB H1.out.size) (HG.out.below (H1.out.mono hB))).mono ?_; rintro e w2 ⟨rfl, hB2⟩; rw [HR.out.2]
           have H2 := Lib.hid (H1.out.trans (hB2.mono H1.out.size)); clear hB2))
      go_ret
      exact ⟨rfl, H2.out⟩
    | true =>
      have he : errG g = 0 := by simp [errG, hok]
      have HR := Lib.hid (And.intro hgr he)
      clear hgr hok he
      go_enter Try.func29, Try.ntmps29
      go_wp2_with (first
        | (go_at_call 12; refine (refGreat_any g A1 c1 A2 c2 w0).mono ?_; rintro e w1 ⟨rfl, hB1⟩; rw [HR.out.1]
           have hc1 := fun i => cell_of_row w1 w.heap.size i _ _ _ ((hB1.block _ (by have := B0.out.2.2; omega)).trans B0.out.2.1)
           have H1 := Lib.hid (B0.out.1.trans (hB1.mono (by have := B0.out.2.2; omega))); clear hB1)
        | (go_at_call 19; refine (refCheck_any g A1 c1 A2 c2 B w1 (Nat.le_trans hB H1.out.size) (HG.out.below (H1.out.mono hB))).mono ?_; rintro e w2 ⟨rfl, hB2⟩; rw [HR.out.2]
           have H2 := Lib.hid (H1.out.trans (hB2.mono H1.out.size)); clear hB2)
        | (go_at_call 49; refine (refRains_any P1 k1 ps B w2 (Nat.le_trans hB H2.out.size) (HV.out.below (H2.out.mono hB)) l1).mono ?_; rintro e w3 ⟨rfl, hB3⟩
           have H3 := Lib.hid (H2.out.trans (hB3.mono H2.out.size)); clear hB3))
      go_ret
      exact ⟨by simp, H3.out⟩

/-- A list of numbers of 32 bits, as cells. -/
def u32s (l : List Int) : List Value := l.map fun x => .int .u32 x
/-- Which number stands at an index that goes round. -/
def atL (l : List Int) (i : Int) : Int := if l.length = 0 then 0 else l[(i % l.length).toNat]?.getD 0

theorem at_any (A : Option Addr) (k : Nat) (l : List Int) (i : Int) (h0 : 0 ≤ i) (B : Nat) (w : World) (hV : Vals w B A (u32s l)) (hl : l.length ≤ 9223372036854775807) :
    Calls Try.prog 33 #[.slice A l.length k, .int .i64 i] w fun e w' => e = .returned (.int .u32 (atL l i)) ∧ w = w' := by
  by_cases hz : l.length = 0
  · have e1 : atL l i = 0 := by simp [atL, hz]
    rw [e1, hz]
    go_enter Try.func33, Try.ntmps33
    go_wp2
    go_ret
    exact ⟨rfl, rfl⟩
  · obtain ⟨b, off, rfl, hlt, hc⟩ := hV (by simp [u32s]; omega)
    have hm0 := Int.emod_nonneg i (show (l.length : Int) ≠ 0 by omega)
    have hm1 := Int.emod_lt_of_pos i (show (0 : Int) < l.length by omega)
    have e1 : atL l i = l[(i % l.length).toNat]?.getD 0 := by simp only [atL]; rw [if_neg hz]
    have hx := hc (i % l.length).toNat (.int .u32 (l[(i % l.length).toNat]?.getD 0)) (by
      have : (i % l.length).toNat < l.length := by omega
      simp [u32s, this])
    rw [e1]
    generalize l[(i % l.length).toNat]?.getD 0 = v at hx ⊢
    have htm : i.tmod l.length = i % l.length := Int.tmod_eq_emod_of_nonneg h0
    go_enter Try.func33, Try.ntmps33
    go_wp2
    go_ret
    exact ⟨rfl, rfl⟩

/-- A number of a span. -/
def pickL (lo hi n : Int) : Int := lo + n % (hi - lo + 1)
theorem pickL_bnd {lo hi n : Int} (h : lo ≤ hi) : lo ≤ pickL lo hi n ∧ pickL lo hi n ≤ hi := by
  have h0 := Int.emod_nonneg n (show hi - lo + 1 ≠ 0 by omega)
  have h1 := Int.emod_lt_of_pos n (show 0 < hi - lo + 1 by omega)
  unfold pickL
  omega

set_option maxHeartbeats 1000000 in
theorem pick_any (lo hi n : Int) (h0 : 0 ≤ lo) (h1 : lo ≤ hi) (h2 : hi ≤ 1000000) (n0 : 0 ≤ n) (n1 : n < 4294967296) (w : World) :
    Calls Try.prog 32 #[.agg #[.int .i64 lo, .int .i64 hi], .int .u32 n] w fun e w' => e = .returned (.int .i64 (pickL lo hi n)) ∧ Below w.heap.size w w' := by
  have hp := pickL_bnd (n := n) h1
  have htm : n.tmod (hi - lo + 1) = n % (hi - lo + 1) := Int.tmod_eq_emod_of_nonneg n0
  have hm0 := Int.emod_nonneg n (show hi - lo + 1 ≠ 0 by omega)
  have hm1 := Int.emod_lt_of_pos n (show 0 < hi - lo + 1 by omega)
  have hnz : ¬ hi - lo + 1 = 0 := by omega
  unfold pickL at hp ⊢
  have hx1 : IntKind.i64.wrap n = n := IntWalk.i64_in _ (by omega)
  have hx2 : IntKind.i64.wrap (hi - lo) = hi - lo := IntWalk.i64_in _ (by omega)
  have hx3 : IntKind.i64.wrap (hi - lo + 1) = hi - lo + 1 := IntWalk.i64_in _ (by omega)
  have hx4 : IntKind.i64.wrap (lo + n % (hi - lo + 1)) = lo + n % (hi - lo + 1) := IntWalk.i64_in _ (by omega)
  have hx5 : IntKind.i64.wrap (n % (hi - lo + 1)) = n % (hi - lo + 1) := IntWalk.i64_in _ (by omega)
  go_enter Try.func32, Try.ntmps32
  go_wp2
  obtain ⟨w1, hw1⟩ : ∃ w1, w.alloc (.cells #[.int .i64 lo, .int .i64 hi] 23) = w1 := ⟨_, rfl⟩
  have hb1 : Below w.heap.size w w1 := by rw [← hw1]; exact (Below.refl _ _).alloc (Nat.le_refl _) _
  have hm1' : w1.heap[w.heap.size]? = some (.cells #[.int .i64 lo, .int .i64 hi] 23 (0, 0)) := by rw [← hw1]; exact alloc_at0 w _
  have H1 := Lib.hid (And.intro hb1 hm1')
  rw [hw1]
  clear hw1 hb1 hm1'
  refine R2.wp_walk (C := Below w1.heap.size w1) (S := fun _ => Grows) 17 (by kernel_rfl) (by kernel_rfl) rfl (fun _ => Grows.refl) (Below.refl _ _).drew ?_
  simp only []
  repeat
    (refine' R2.WalkR.det (fun _ => rfl) rfl (fun ρ W hW hH hU => ?_) ?_
     rotate_left
     · clear hH hU
       have hc := fun i => cell_of_row W w.heap.size i _ _ _ ((hW.block _ (lt_of_heap H1.out.2)).trans H1.out.2)
       have HW := Lib.hid hW
       clear hW
       go_simp
       with_reducible exact ⟨rfl, Grows.refl _, HW.out⟩
     simp only [Act.put, List.setIfInBounds_toArray, List.set_cons_succ, List.set_cons_zero])
  refine R2.WalkR.nil (fun ρ W hW hH hF => ?_)
  clear hH hF
  go_wp2
  go_ret
  exact ⟨rfl, H1.out.1.trans (hW.mono H1.out.1.size)⟩

end Go.Proofs.Ytanjolmelbipoaa

namespace Go.Proofs.Ytanjolmelbipoaa

/-- Where the years stand, with what came. -/
structure Mid (h : Hab) (d : Nat) (lo now hi : List Int) (M : Int) : Prop where
  yr : Yr h d lo hi M
  l1 : LeL lo now
  l2 : LeL now hi
  ln : now.length = d + 1
  bn : Bnd 0 M now

theorem Mid.next {h : Hab} {d r b : Nat} (H : HabOk h d r b) {lo now hi : List Int} {M : Int} (Y : Mid h d lo now hi M) {x1 x2 : Int} (p0 : 0 ≤ x1) (p1 : x1 ≤ x2) (p2 : x2 ≤ 1500) {n : Int} (n0 : 0 ≤ n) (n1 : n ≤ 30)
    {rate rain : Int} (r0 : h.lo ≤ rate) (r1 : rate ≤ h.hi) (f0 : x1 ≤ rain) (f1 : rain ≤ x2) :
    shotsL b lo h.lo x1 ≤ shotsL b now rate rain ∧ shotsL b now rate rain ≤ shotsL b hi h.hi x2 ∧ 0 ≤ shotsL b now rate rain ∧ shotsL b now rate rain ≤ 11 * M ∧ Bnd 0 (11 * M) now ∧
    Mid h d (yearL lo (shotsL b lo h.lo x1) n) (yearL now (shotsL b now rate rain) n) (yearL hi (shotsL b hi h.hi x2) n) (11 * M) := by
  obtain ⟨a1, a2, a3, a4, a5, a6⟩ := Y.yr.next H (p := (x1, x2)) p0 p1 p2 n0 n1
  simp only at a1 a2 a3 a6
  have hl0 := H.l0
  have hh1 := H.h1
  have hd6 := H.d6
  have m0 := Y.yr.m0
  have ll := Y.yr.ll
  have lh := Y.yr.lh
  have ln := Y.ln
  have bn : Bnd 0 (11 * M) now := fun k hk => by have := Y.bn k hk; omega
  have s1 := shotsL_mono (b := b) Y.l1 Y.yr.bl hl0 r0 p0 f0
  have s2 := shotsL_mono (b := b) Y.l2 Y.bn (show 0 ≤ rate by omega) r1 (show 0 ≤ rain by omega) f1
  have s3 := shotsL_bnd (b := b) Y.bn (by omega) (rate := rate) (by omega) (by omega) (rain := rain) (by omega) (by omega) (by omega)
  refine ⟨s1, s2, s3.1, s3.2, bn, a6, Y.l1.year s1 (by omega) a4 bn a1 s3.2 n0, Y.l2.year s2 (by omega) bn a5 s3.1 a3 n0, by rw [yearL_len, ln], ?_⟩
  exact yearL_bnd bn (by omega) s3.1 s3.2 n0 (by omega)

theorem Mid.start {h : Hab} {d : Nat} {L : List Int} (hl : L.length = d + 1) (hb : Bnd 0 30 L) : Mid h d L L L 30 :=
  ⟨⟨hl, hl, LeL.refl _, hb, hb, Int.le_refl _⟩, LeL.refl _, LeL.refl _, hl, hb⟩

/-- One more of what is told. -/
theorem ahead_step {h : Hab} {r b : Nat} {lo hi : List Int} {x1 x2 n : Int} {rest : List ((Int × Int) × Int)} {out pre : List (Int × Int × Int × Int)} (he : out = pre ++ aheadL h r b lo hi (((x1, x2), n) :: rest)) (hl : pre.length < out.length) :
    okY r h.keep lo (shotsL b lo h.lo x1) n = true ∧ out[pre.length]?.getD (0, 0, 0, 0) = (shotsL b lo h.lo x1, shotsL b hi h.hi x2, (yearL lo (shotsL b lo h.lo x1) n).sum, (yearL hi (shotsL b hi h.hi x2) n).sum) ∧
    out = (pre ++ [(shotsL b lo h.lo x1, shotsL b hi h.hi x2, (yearL lo (shotsL b lo h.lo x1) n).sum, (yearL hi (shotsL b hi h.hi x2) n).sum)]) ++ aheadL h r b (yearL lo (shotsL b lo h.lo x1) n) (yearL hi (shotsL b hi h.hi x2) n) rest := by
  cases hok : okY r h.keep lo (shotsL b lo h.lo x1) n with
  | false =>
    rw [aheadL_no hok, List.append_nil] at he
    rw [he] at hl
    omega
  | true =>
    rw [aheadL_yes hok] at he
    refine ⟨rfl, ?_, by rw [he, List.append_assoc]⟩
    rw [he, List.getElem?_append_right (Nat.le_refl _), Nat.sub_self]
    rfl

theorem okY_parts {r : Nat} {keep : Int} {l : List Int} {s n : Int} (h : okY r keep l s n = true) : yearOk r l s n = true ∧ keep ≤ (yearL l s n).sum := by
  unfold okY at h
  simpa using h

theorem stand_last {g : Gr} (hok : okGrove g = true) : standVal g (g.first + g.seas.length) = lastL g ∧ standErr g (g.first + g.seas.length) = 0 := by
  have hy : hasY g (g.first + g.seas.length) = true := by
    unfold hasY
    rw [inR_iff]
    omega
  unfold standVal standErr lastL
  rw [if_pos hok, if_pos hy, if_pos ⟨hok, hy⟩]
  refine ⟨?_, rfl⟩
  rw [show g.first + (g.seas.length : Int) - g.first = (g.seas.length : Int) by omega, Int.toNat_natCast, List.take_length]

end Go.Proofs.Ytanjolmelbipoaa

