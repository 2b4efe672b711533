/-
  For every grove, all rains, every plan and all numbers that come in, the law ClumpTrue returns true, and each argument reads afterwards as it read before.
  Conditions: none beyond the row's own.
-/
import Derived.Test.YtkjdapgkojfbmaaZI
import Derived.Test.YtkjdapgkojfbmaaRecU
import Derived.Test.YtkjdapgkojfbmaaSame2
import Derived.Test.YtkjdapgkojfbmaaZD
import Derived.Test.YtkjdapgkojfbmaaZF
import Derived.Test.YtkjdapgkojfbmaaLaw
import Derived.Deep.LoopGhost
import Derived.Test.YtkjdapgkojfbmaaOpen2
import Derived.Test.YtkjdapgkojfbmaaRows
import Derived.ProofKit
namespace Go.Proofs.Ytkjdapgkojfbmaa
open Go.RowKit Go.Shelf

/-- The grove of the chapter's examples. -/
def g0 : Gr := ⟨3, ⟨400, 500, 2, 2, 4, 8⟩, 100, [4, 3, 3, 2, 1], [(5, 3)]⟩

theorem span_any (x y : Int) (w : World) :
    Calls Try.prog 36 #[.int .i64 x, .int .i64 y] w fun e w' => e = .returned (.agg #[.int .i64 x, .int .i64 y]) ∧ Below w.heap.size w w' := by
  go_enter Try.func36, Try.ntmps36
  go_wp2
  refine bodyPost_ret (v := .agg #[.int .i64 x, .int .i64 y]) (by simp [results, Try.results36, go_sem]) rfl ⟨rfl, ?_⟩
  exact (Below.refl _ _).alloc (Nat.le_refl _) _

theorem grove0_any (w : World) :
    Calls Try.prog 53 #[] w fun e w' => ∃ a b, e = .returned (grv g0 (some ⟨a, 0, none⟩) 5 (some ⟨b, 0, none⟩) 1) ∧ GrAt w' w'.heap.size g0 (some ⟨a, 0, none⟩) 5 (some ⟨b, 0, none⟩) 1 ∧ Below w.heap.size w w' := by
  go_enter Try.func53, Try.ntmps53
  go_wp2_with (first
    | (go_at_call 36; refine (span_any _ _ _).mono ?_; rintro e w1 ⟨rfl, hB1⟩
       have hs1 := hB1.size
       simp only [World.size_alloc] at hs1
       have hz1 := (hB1.block w.heap.size (by simp)).trans (alloc_at0 w _)
       have H1 := Lib.hid (And.intro (((Below.refl w.heap.size w).alloc (Nat.le_refl _) _).trans (hB1.mono (by simp))) hz1)
       clear hB1 hz1)
    | (show wpList _ _ _ (Oper.mk none (Op.store _ (Operand.tmp 0) (Operand.tmp 6)) _ _ _ _ :: _) _ _
       refine wpList_store_blk 29 (.tmp 0) (.tmp 6) (cs := (gcs g0 (some ⟨w1.heap.size, 0, none⟩) 5 (some ⟨w1.heap.size + 1, 0, none⟩) 1).toList) (L := [.int .i64 0, .int .i64 0, .int .i64 0, .int .i64 0, .int .i64 0, .int .i64 0, .int .i64 0, .int .i64 0, .slice none 0 0, .slice none 0 0]) rfl rfl rfl rfl rfl
         ((Below.heap_alloc _ _ _ (by simp; omega)).trans ((Below.heap_alloc _ _ _ (by omega)).trans H1.out.2)) (by simp) (by intro v hv; simp at hv; rcases hv with rfl | rfl | rfl | rfl | rfl | rfl | rfl | rfl | rfl | rfl <;> rfl) rowApiGrove ?_
       intro w2 hP2 hM2
       rw [splice_all (by simp)] at hM2
       have h3 : w2.heap[w1.heap.size]? = some (.cells (ints g0.start).toArray 3 (0, 0)) := (hP2.other _ (by omega)).trans (alloc2_at0 w1 _ _)
       have h4 : w2.heap[w1.heap.size + 1]? = some (.cells (pairs g0.seas).toArray 76 (0, 0)) := (hP2.other _ (by omega)).trans (alloc2_at1 w1 _ _)
       have H2 := Lib.hid (And.intro (((H1.out.1.alloc (by omega) _).alloc (by simp; omega) _).trans (hP2.below (B := w.heap.size) (Nat.le_refl _))) (And.intro h3 (And.intro h4 hM2)))
       clear hP2 hM2 h3 h4))
  have hres : ∀ i, w2.cell? ⟨w.heap.size, i, none⟩ = _ := fun i => cell_of_row w2 w.heap.size i _ _ _ H2.out.2.2.2
  simp only [g0] at hres
  refine bodyPost_ret (v := grv g0 (some ⟨w1.heap.size, 0, none⟩) 5 (some ⟨w1.heap.size + 1, 0, none⟩) 1) (by simp [results, Try.results53, go_sem, hres, grv, g0]) rfl ⟨_, _, rfl, ?_, H2.out.1⟩
  exact ⟨(vals_in H2.out.2.1 (lt_of_heap H2.out.2.1) at0).ints, vals_in H2.out.2.2.1 (lt_of_heap H2.out.2.2.1) at0, by decide, by decide, by decide, by decide⟩

/-- Where alive is: what has been told lies in memory. -/
structure AlAt (w : World) (a : Option Addr) (xs : List Int) (b : Option Addr) (ts : List (Int × Int)) (c : Option Addr) (qs : List (Int × Int × Int × Int)) (p : Option Addr) (zs : List Int) (W : World) : Prop where
  bel : Below w.heap.size w W
  ia : Ints W W.heap.size a xs
  ib : Vals W W.heap.size b (pairs ts)
  ic : Vals W W.heap.size c (quads qs)
  ip : Ints W W.heap.size p zs
theorem AlAt.next {w : World} {a : Option Addr} {xs : List Int} {b : Option Addr} {ts : List (Int × Int)} {c : Option Addr} {qs : List (Int × Int × Int × Int)} {p : Option Addr} {zs : List Int} {W W' : World} (h : AlAt w a xs b ts c qs p zs W) (hg : Grows W W') : AlAt w a xs b ts c qs p zs W' :=
  ⟨h.bel.trans (hg.mono h.bel.size), (h.ia.below hg).mono hg.size, (h.ib.below hg).mono hg.size, (h.ic.below hg).mono hg.size, (h.ip.below hg).mono hg.size⟩
theorem AlAt.alloc {w : World} {a : Option Addr} {xs : List Int} {b : Option Addr} {ts : List (Int × Int)} {c : Option Addr} {qs : List (Int × Int × Int × Int)} {p : Option Addr} {zs : List Int} {W : World} (h : AlAt w a xs b ts c qs p zs W) (o : Obj) : AlAt w a xs b ts c qs p zs (W.alloc o) :=
  h.next ((Below.refl _ _).alloc (Nat.le_refl _) _)
theorem GrAt.next {g : Gr} {A1 : Option Addr} {c1 : Nat} {A2 : Option Addr} {c2 : Nat} {W W' : World} (h : GrAt W W.heap.size g A1 c1 A2 c2) (hg : Grows W W') : GrAt W' W'.heap.size g A1 c1 A2 c2 := (h.below hg).mono hg.size
theorem grow1 (W : World) (o : Obj) : Grows W (W.alloc o) := (Below.refl _ _).alloc (Nat.le_refl _) _
theorem grow2 (W : World) (o o' : Obj) : Grows W ((W.alloc o).alloc o') := (grow1 W o).alloc (by simp) _
theorem ints_nil (W : World) (A : Option Addr) : Ints W W.heap.size A [] := fun h => by simp at h
theorem vals_nil (W : World) (A : Option Addr) : Vals W W.heap.size A [] := fun h => by simp at h

theorem g0_stand : standVal g0 101 = [5, 4, 3, 2, 0] ∧ standErr g0 101 = 0 := by decide +kernel
theorem g0_taken : takenVal g0 101 = [(97, 2), (98, 1)] := by decide +kernel
theorem g0_look : lookVal g0 [(500, 1000), (500, 1000)] [6, 5] = [(2, 6, 10, 14)] ∧ lookErr g0 [(500, 1000), (500, 1000)] [6, 5] = 0 := by decide +kernel
theorem g0_most : mostR g0 [(1000, 1000)] = ([9], 9, 0) := by decide +kernel

set_option maxRecDepth 100000 in
set_option maxHeartbeats 8000000 in
theorem alive_any (w : World) : Calls Try.prog 28 #[] w fun e w' => e = .returned (.bool true) ∧ Below w.heap.size w w' := by
  have hst : ∀ A1 c1 A2 c2 W, GrAt W W.heap.size g0 A1 c1 A2 c2 → Calls Try.prog 14 #[grv g0 A1 c1 A2 c2, .int .i64 101] W (ListPost W [5, 4, 3, 2, 0] 0) := fun A1 c1 A2 c2 W h => by
    have := stand_any g0 101 A1 c1 A2 c2 W.heap.size W (Nat.le_refl _) h
    rwa [g0_stand.1, g0_stand.2] at this
  have hta : ∀ A1 c1 A2 c2 W, GrAt W W.heap.size g0 A1 c1 A2 c2 → Calls Try.prog 16 #[grv g0 A1 c1 A2 c2, .int .i64 101] W (TakePost W [(97, 2), (98, 1)] 0) := fun A1 c1 A2 c2 W h => by
    have := taken_any g0 101 A1 c1 A2 c2 W.heap.size W (Nat.le_refl _) h
    rwa [g0_taken, g0_stand.2] at this
  have hlo : ∀ A1 c1 A2 c2 P1 P2 W, GrAt W W.heap.size g0 A1 c1 A2 c2 → Vals W W.heap.size P1 (pairs [(500, 1000), (500, 1000)]) → Ints W W.heap.size P2 [6, 5] →
      Calls Try.prog 23 #[grv g0 A1 c1 A2 c2, .slice P1 2 2, .slice P2 2 2] W (LookPost W [(2, 6, 10, 14)] 0) := fun A1 c1 A2 c2 P1 P2 W h h1 h2 => by
    have := lookP_any g0 A1 c1 A2 c2 P1 2 [(500, 1000), (500, 1000)] P2 2 [6, 5] W.heap.size W (Nat.le_refl _) h h1 h2 (by decide) (by decide)
    rwa [g0_look.1, g0_look.2] at this
  have hmo : ∀ A1 c1 A2 c2 P1 W, GrAt W W.heap.size g0 A1 c1 A2 c2 → Vals W W.heap.size P1 (pairs [(1000, 1000)]) →
      Calls Try.prog 26 #[grv g0 A1 c1 A2 c2, .slice P1 1 1] W (MostPost W ([9], 9, 0)) := fun A1 c1 A2 c2 P1 W h h1 => by
    have := mostP_any g0 A1 c1 A2 c2 P1 1 [(1000, 1000)] W.heap.size W (Nat.le_refl _) h h1 (by decide)
    rwa [g0_most] at this
  have HC := Lib.hid (And.intro hst (And.intro hta (And.intro hlo hmo)))
  clear hst hta hlo hmo
  have hA0 : AlAt w none [] none [] none [] none [] w := ⟨Below.refl _ _, ints_nil _ _, vals_nil _ _, vals_nil _ _, ints_nil _ _⟩
  have A0 := Lib.hid hA0
  clear hA0
  go_enter Try.func28, Try.ntmps28
  go_wp2_with (first
    | (go_at_call 20; refine (sameInts_any _ _ _ 1 [9] [9] _ (w16.alloc (.cells #[.int .i64 9] 3)) (A16.out.alloc _).ip (vals_in (alloc_at0 w16 _) (lt_of_heap (alloc_at0 w16 _)) at0).ints (by decide) (by decide)).mono ?_; rintro e w17 ⟨rfl, hB17⟩
       rw [decide_eq_true rfl]
       have A17 := Lib.hid ((A16.out.alloc _).next hB17)
       clear hB17)
    | (go_at_call 25; refine (sameAhead_any _ _ _ 1 [(2, 6, 10, 14)] _ (w15.alloc (.cells #[.int .i64 2, .int .i64 6, .int .i64 10, .int .i64 14] 65)) (A15.out.alloc _).ic (vals_in (alloc_at0 w15 _) (lt_of_heap (alloc_at0 w15 _)) at0) (by decide)).mono ?_; rintro e w16 ⟨rfl, hB16⟩
       have A16 := Lib.hid ((A15.out.alloc _).next hB16)
       clear hB16)
    | (go_at_call 36; refine (span_any _ _ w14).mono ?_; rintro e w15 ⟨rfl, hB15⟩
       have A15 := Lib.hid (A14.out.next hB15)
       clear hB15)
    | (go_at_call 36; refine (span_any _ _ w13).mono ?_; rintro e w14 ⟨rfl, hB14⟩
       have A14 := Lib.hid (A13.out.next hB14)
       clear hB14)
    | (go_at_call 21; refine (sameTakes_any _ _ _ 2 [(97, 2), (98, 1)] [(97, 2), (98, 1)] _ (w12.alloc (.cells #[.int .i64 97, .int .i64 2, .int .i64 98, .int .i64 1] 78)) (A12.out.alloc _).ib (vals_in (alloc_at0 w12 _) (lt_of_heap (alloc_at0 w12 _)) at0) (by decide) (by decide)).mono ?_; rintro e w13 ⟨rfl, hB13⟩
       rw [decide_eq_true rfl]
       have A13 := Lib.hid ((A12.out.alloc _).next hB13)
       clear hB13)
    | (go_at_call 20; refine (sameInts_any _ _ _ 5 [5, 4, 3, 2, 0] [5, 4, 3, 2, 0] _ (w11.alloc (.cells #[.int .i64 5, .int .i64 4, .int .i64 3, .int .i64 2, .int .i64 0] 3)) (A11.out.alloc _).ia (vals_in (alloc_at0 w11 _) (lt_of_heap (alloc_at0 w11 _)) at0).ints (by decide) (by decide)).mono ?_; rintro e w12 ⟨rfl, hB12⟩
       rw [decide_eq_true rfl]
       have A12 := Lib.hid ((A11.out.alloc _).next hB12)
       clear hB12)
    | (go_at_call 26; refine (HC.out.2.2.2 _ _ _ _ (some ⟨w10.heap.size, 0, none⟩) (w10.alloc (.cells #[.int .i64 1000, .int .i64 1000] 23)) (A10.out.2.next (grow1 _ _)) (vals_in (alloc_at0 w10 _) (lt_of_heap (alloc_at0 w10 _)) at0)).mono ?_; rintro e w11 ⟨p11, q11, rfl, -, hI11, hB11⟩
       have A11 := Lib.hid (AlAt.mk ((A10.out.1.alloc _).next hB11).bel ((A10.out.1.alloc _).next hB11).ia ((A10.out.1.alloc _).next hB11).ib ((A10.out.1.alloc _).next hB11).ic hI11)
       clear hI11 hB11)
    | (go_at_call 36; refine (span_any _ _ w9).mono ?_; rintro e w10 ⟨rfl, hB10⟩
       have A10 := Lib.hid (And.intro (A9.out.1.next hB10) (A9.out.2.next hB10))
       clear hB10)
    | (go_at_call 53; refine (grove0_any w8).mono ?_; rintro e w9 ⟨a9, b9, rfl, hG9, hB9⟩
       have A9 := Lib.hid (And.intro (A8.out.next hB9) hG9)
       clear hG9 hB9)
    | (go_at_call 23; refine (HC.out.2.2.1 _ _ _ _ (some ⟨w7.heap.size, 0, none⟩) (some ⟨w7.heap.size + 1, 0, none⟩) ((w7.alloc (.cells #[.int .i64 500, .int .i64 1000, .int .i64 500, .int .i64 1000] 23)).alloc (.cells #[.int .i64 6, .int .i64 5] 3)) (A7.out.2.next (grow2 _ _ _)) (vals_in (alloc2_at0 w7 _ _) (lt_of_heap (alloc2_at0 w7 _ _)) at0) (vals_in (alloc2_at1 w7 _ _) (lt_of_heap (alloc2_at1 w7 _ _)) at0).ints).mono ?_; rintro e w8 ⟨p8, q8, rfl, -, hI8, hB8⟩
       have A8 := Lib.hid (AlAt.mk (((A7.out.1.alloc _).alloc _).next hB8).bel (((A7.out.1.alloc _).alloc _).next hB8).ia (((A7.out.1.alloc _).alloc _).next hB8).ib hI8 (((A7.out.1.alloc _).alloc _).next hB8).ip)
       clear hI8 hB8)
    | (go_at_call 36; refine (span_any _ _ w6).mono ?_; rintro e w7 ⟨rfl, hB7⟩
       have A7 := Lib.hid (And.intro (A6.out.1.next hB7) (A6.out.2.next hB7))
       clear hB7)
    | (go_at_call 36; refine (span_any _ _ w5).mono ?_; rintro e w6 ⟨rfl, hB6⟩
       have A6 := Lib.hid (And.intro (A5.out.1.next hB6) (A5.out.2.next hB6))
       clear hB6)
    | (go_at_call 53; refine (grove0_any w4).mono ?_; rintro e w5 ⟨a5, b5, rfl, hG5, hB5⟩
       have A5 := Lib.hid (And.intro (A4.out.next hB5) hG5)
       clear hG5 hB5)
    | (go_at_call 16; refine (HC.out.2.1 _ _ _ _ w3 A3.out.2).mono ?_; rintro e w4 ⟨p4, q4, rfl, hI4, hB4⟩
       have A4 := Lib.hid (AlAt.mk (A3.out.1.next hB4).bel (A3.out.1.next hB4).ia hI4 (A3.out.1.next hB4).ic (A3.out.1.next hB4).ip)
       clear hI4 hB4)
    | (go_at_call 53; refine (grove0_any w2).mono ?_; rintro e w3 ⟨a3, b3, rfl, hG3, hB3⟩
       have A3 := Lib.hid (And.intro (A2.out.next hB3) hG3)
       clear hG3 hB3)
    | (go_at_call 14; refine (HC.out.1 _ _ _ _ w1 A1.out.2).mono ?_; rintro e w2 ⟨p1, q1, rfl, -, hI2, -, hB2⟩
       have A2 := Lib.hid (AlAt.mk (A1.out.1.next hB2).bel hI2 (A1.out.1.next hB2).ib (A1.out.1.next hB2).ic (A1.out.1.next hB2).ip)
       clear hI2 hB2)
    | (go_at_call 53; refine (grove0_any w).mono ?_; rintro e w1 ⟨a1, b1, rfl, hG1, hB1⟩
       have A1 := Lib.hid (And.intro (A0.out.next hB1) hG1)
       clear hG1 hB1))
  go_ret
  exact ⟨rfl, A17.out.bel⟩

end Go.Proofs.Ytkjdapgkojfbmaa

namespace Go.Proofs.Ytkjdapgkojfbmaa
open Go.RowKit

attribute [local go_sem] gives

/-- Whether a grove and rains are valid, and not great. -/
def readyB (g : Gr) (ps : List (Int × Int)) : Bool := !great g && okGrove g && rainsOk ps

set_option maxHeartbeats 1000000 in
theorem ready_any (g : Gr) (A1 : Option Addr) (c1 : Nat) (A2 : Option Addr) (c2 : Nat) (P1 : Option Addr) (k1 : Nat) (ps : List (Int × Int)) (B : Nat) (w : World) (hB : B ≤ w.heap.size) (hG : GrAt w B g A1 c1 A2 c2)
    (hV1 : Vals w B P1 (pairs ps)) (l1 : ps.length ≤ 9223372036854775807) :
    Calls Try.prog 29 #[grv g A1 c1 A2 c2, .slice P1 ps.length k1] w fun e w' => e = .returned (.bool (readyB g ps)) ∧ Below w.heap.size w w' := by
  have HG := Lib.hid hG
  have HV := Lib.hid hV1
  obtain ⟨w0, hw0⟩ : ∃ w0, w.alloc (.cells (gcs g A1 c1 A2 c2) 29) = w0 := ⟨_, rfl⟩
  have hb0 : Below w.heap.size w w0 := by rw [← hw0]; exact (Below.refl _ _).alloc (Nat.le_refl _) _
  have hs0 : w0.heap.size = w.heap.size + 1 := by rw [← hw0]; simp
  have hm0 : w0.heap[w.heap.size]? = some (.cells (gcs g A1 c1 A2 c2) 29 (0, 0)) := by rw [← hw0]; exact alloc_at0 w _
  have hc0 := fun i => cell_of_row w0 w.heap.size i _ _ _ hm0
  have B0 := Lib.hid (And.intro hb0 (And.intro hm0 hs0))
  clear hG hV1 hb0 hm0 hs0
  unfold readyB
  simp only [gcs] at hw0
  unfold grv
  cases hgr : great g with
  | true =>
    have HR := Lib.hid hgr
    clear hgr
    go_enter Try.func29, Try.ntmps29
    go_wp2_with (go_at_call 12; refine (refGreat_any g A1 c1 A2 c2 w0).mono ?_; rintro e w1 ⟨rfl, hB1⟩; rw [HR.out]; have H1 := Lib.hid hB1; clear hB1)
    go_ret
    exact ⟨rfl, B0.out.1.trans (H1.out.mono (by have := B0.out.2.2; omega))⟩
  | false =>
    cases hok : okGrove g with
    | false =>
      have he : errG g = 10 := by simp [errG, hok]
      have HR := Lib.hid (And.intro hgr he)
      clear hgr hok he
      go_enter Try.func29, Try.ntmps29
      go_wp2_with (first
        | (go_at_call 12; refine (refGreat_any g A1 c1 A2 c2 w0).mono ?_; rintro e w1 ⟨rfl, hB1⟩; rw [HR.out.1]
           have hc1 := fun i => cell_of_row w1 w.heap.size i _ _ _ ((hB1.block _ (by have := B0.out.2.2; omega)).trans B0.out.2.1)
           have H1 := Lib.hid (B0.out.1.trans (hB1.mono (by have := B0.out.2.2; omega))); clear hB1)
        | (go_at_call 19; refine (refCheck_any g A1 c1 A2 c2 B w1 (Nat.le_trans hB H1.out.size) (HG.out.below (H1.out.mono hB))).mono ?_; rintro e w2 ⟨rfl, hB2⟩; rw [HR.out.2]
           have H2 := Lib.hid (H1.out.trans (hB2.mono H1.out.size)); clear hB2))
      go_ret
      exact ⟨rfl, H2.out⟩
    | true =>
      have he : errG g = 0 := by simp [errG, hok]
      have HR := Lib.hid (And.intro hgr he)
      clear hgr hok he
      go_enter Try.func29, Try.ntmps29
      go_wp2_with (first
        | (go_at_call 12; refine (refGreat_any g A1 c1 A2 c2 w0).mono ?_; rintro e w1 ⟨rfl, hB1⟩; rw [HR.out.1]
           have hc1 := fun i => cell_of_row w1 w.heap.size i _ _ _ ((hB1.block _ (by have := B0.out.2.2; omega)).trans B0.out.2.1)
           have H1 := Lib.hid (B0.out.1.trans (hB1.mono (by have := B0.out.2.2; omega))); clear hB1)
        | (go_at_call 19; refine (refCheck_any g A1 c1 A2 c2 B w1 (Nat.le_trans hB H1.out.size) (HG.out.below (H1.out.mono hB))).mono ?_; rintro e w2 ⟨rfl, hB2⟩; rw [HR.out.2]
           have H2 := Lib.hid (H1.out.trans (hB2.mono H1.out.size)); clear hB2)
        | (go_at_call 49; refine (refRains_any P1 k1 ps B w2 (Nat.le_trans hB H2.out.size) (HV.out.below (H2.out.mono hB)) l1).mono ?_; rintro e w3 ⟨rfl, hB3⟩
           have H3 := Lib.hid (H2.out.trans (hB3.mono H2.out.size)); clear hB3))
      go_ret
      exact ⟨by simp, H3.out⟩

/-- A list of numbers of 32 bits, as cells. -/
def u32s (l : List Int) : List Value := l.map fun x => .int .u32 x
/-- Which number stands at an index that goes round. -/
def atL (l : List Int) (i : Int) : Int := if l.length = 0 then 0 else l[(i % l.length).toNat]?.getD 0

theorem at_any (A : Option Addr) (k : Nat) (l : List Int) (i : Int) (h0 : 0 ≤ i) (B : Nat) (w : World) (hV : Vals w B A (u32s l)) (hl : l.length ≤ 9223372036854775807) :
    Calls Try.prog 33 #[.slice A l.length k, .int .i64 i] w fun e w' => e = .returned (.int .u32 (atL l i)) ∧ w = w' := by
  by_cases hz : l.length = 0
  · have e1 : atL l i = 0 := by simp [atL, hz]
    rw [e1, hz]
    go_enter Try.func33, Try.ntmps33
    go_wp2
    go_ret
    exact ⟨rfl, rfl⟩
  · obtain ⟨b, off, rfl, hlt, hc⟩ := hV (by simp [u32s]; omega)
    have hm0 := Int.emod_nonneg i (show (l.length : Int) ≠ 0 by omega)
    have hm1 := Int.emod_lt_of_pos i (show (0 : Int) < l.length by omega)
    have e1 : atL l i = l[(i % l.length).toNat]?.getD 0 := by simp only [atL]; rw [if_neg hz]
    have hx := hc (i % l.length).toNat (.int .u32 (l[(i % l.length).toNat]?.getD 0)) (by
      have : (i % l.length).toNat < l.length := by omega
      simp [u32s, this])
    rw [e1]
    generalize l[(i % l.length).toNat]?.getD 0 = v at hx ⊢
    have htm : i.tmod l.length = i % l.length := Int.tmod_eq_emod_of_nonneg h0
    go_enter Try.func33, Try.ntmps33
    go_wp2
    go_ret
    exact ⟨rfl, rfl⟩

/-- A number of a span. -/
def pickL (lo hi n : Int) : Int := lo + n % (hi - lo + 1)
theorem pickL_bnd {lo hi n : Int} (h : lo ≤ hi) : lo ≤ pickL lo hi n ∧ pickL lo hi n ≤ hi := by
  have h0 := Int.emod_nonneg n (show hi - lo + 1 ≠ 0 by omega)
  have h1 := Int.emod_lt_of_pos n (show 0 < hi - lo + 1 by omega)
  unfold pickL
  omega

set_option maxHeartbeats 1000000 in
theorem pick_any (lo hi n : Int) (h0 : 0 ≤ lo) (h1 : lo ≤ hi) (h2 : hi ≤ 1000000) (n0 : 0 ≤ n) (n1 : n < 4294967296) (w : World) :
    Calls Try.prog 32 #[.agg #[.int .i64 lo, .int .i64 hi], .int .u32 n] w fun e w' => e = .returned (.int .i64 (pickL lo hi n)) ∧ Below w.heap.size w w' := by
  have hp := pickL_bnd (n := n) h1
  have htm : n.tmod (hi - lo + 1) = n % (hi - lo + 1) := Int.tmod_eq_emod_of_nonneg n0
  have hm0 := Int.emod_nonneg n (show hi - lo + 1 ≠ 0 by omega)
  have hm1 := Int.emod_lt_of_pos n (show 0 < hi - lo + 1 by omega)
  have hnz : ¬ hi - lo + 1 = 0 := by omega
  unfold pickL at hp ⊢
  have hx1 : IntKind.i64.wrap n = n := IntWalk.i64_in _ (by omega)
  have hx2 : IntKind.i64.wrap (hi - lo) = hi - lo := IntWalk.i64_in _ (by omega)
  have hx3 : IntKind.i64.wrap (hi - lo + 1) = hi - lo + 1 := IntWalk.i64_in _ (by omega)
  have hx4 : IntKind.i64.wrap (lo + n % (hi - lo + 1)) = lo + n % (hi - lo + 1) := IntWalk.i64_in _ (by omega)
  have hx5 : IntKind.i64.wrap (n % (hi - lo + 1)) = n % (hi - lo + 1) := IntWalk.i64_in _ (by omega)
  go_enter Try.func32, Try.ntmps32
  go_wp2
  obtain ⟨w1, hw1⟩ : ∃ w1, w.alloc (.cells #[.int .i64 lo, .int .i64 hi] 23) = w1 := ⟨_, rfl⟩
  have hb1 : Below w.heap.size w w1 := by rw [← hw1]; exact (Below.refl _ _).alloc (Nat.le_refl _) _
  have hm1' : w1.heap[w.heap.size]? = some (.cells #[.int .i64 lo, .int .i64 hi] 23 (0, 0)) := by rw [← hw1]; exact alloc_at0 w _
  have H1 := Lib.hid (And.intro hb1 hm1')
  rw [hw1]
  clear hw1 hb1 hm1'
  refine R2.wp_walk (C := Below w1.heap.size w1) (S := fun _ => Grows) 17 (by kernel_rfl) (by kernel_rfl) rfl (fun _ => Grows.refl) (Below.refl _ _).drew ?_
  simp only []
  repeat
    (refine' R2.WalkR.det (fun _ => rfl) rfl (fun ρ W hW hH hU => ?_) ?_
     rotate_left
     · clear hH hU
       have hc := fun i => cell_of_row W w.heap.size i _ _ _ ((hW.block _ (lt_of_heap H1.out.2)).trans H1.out.2)
       have HW := Lib.hid hW
       clear hW
       go_simp
       with_reducible exact ⟨rfl, Grows.refl _, HW.out⟩
     simp only [Act.put, List.setIfInBounds_toArray, List.set_cons_succ, List.set_cons_zero])
  refine R2.WalkR.nil (fun ρ W hW hH hF => ?_)
  clear hH hF
  go_wp2
  go_ret
  exact ⟨rfl, H1.out.1.trans (hW.mono H1.out.1.size)⟩

end Go.Proofs.Ytkjdapgkojfbmaa

namespace Go.Proofs.Ytkjdapgkojfbmaa

/-- Where the years stand, with what came. -/
structure Mid (h : Hab) (d : Nat) (lo now hi : List Int) (M : Int) : Prop where
  yr : Yr h d lo hi M
  l1 : LeL lo now
  l2 : LeL now hi
  ln : now.length = d + 1
  bn : Bnd 0 M now

theorem Mid.next {h : Hab} {d r b : Nat} (H : HabOk h d r b) {lo now hi : List Int} {M : Int} (Y : Mid h d lo now hi M) {x1 x2 : Int} (p0 : 0 ≤ x1) (p1 : x1 ≤ x2) (p2 : x2 ≤ 1500) {n : Int} (n0 : 0 ≤ n) (n1 : n ≤ 30)
    {rate rain : Int} (r0 : h.lo ≤ rate) (r1 : rate ≤ h.hi) (f0 : x1 ≤ rain) (f1 : rain ≤ x2) :
    shotsL b lo h.lo x1 ≤ shotsL b now rate rain ∧ shotsL b now rate rain ≤ shotsL b hi h.hi x2 ∧ 0 ≤ shotsL b now rate rain ∧ shotsL b now rate rain ≤ 11 * M ∧ Bnd 0 (11 * M) now ∧
    Mid h d (yearL lo (shotsL b lo h.lo x1) n) (yearL now (shotsL b now rate rain) n) (yearL hi (shotsL b hi h.hi x2) n) (11 * M) := by
  obtain ⟨a1, a2, a3, a4, a5, a6⟩ := Y.yr.next H (p := (x1, x2)) p0 p1 p2 n0 n1
  simp only at a1 a2 a3 a6
  have hl0 := H.l0
  have hh1 := H.h1
  have hd6 := H.d6
  have m0 := Y.yr.m0
  have ll := Y.yr.ll
  have lh := Y.yr.lh
  have ln := Y.ln
  have bn : Bnd 0 (11 * M) now := fun k hk => by have := Y.bn k hk; omega
  have s1 := shotsL_mono (b := b) Y.l1 Y.yr.bl hl0 r0 p0 f0
  have s2 := shotsL_mono (b := b) Y.l2 Y.bn (show 0 ≤ rate by omega) r1 (show 0 ≤ rain by omega) f1
  have s3 := shotsL_bnd (b := b) Y.bn (by omega) (rate := rate) (by omega) (by omega) (rain := rain) (by omega) (by omega) (by omega)
  refine ⟨s1, s2, s3.1, s3.2, bn, a6, Y.l1.year s1 (by omega) a4 bn a1 s3.2 n0, Y.l2.year s2 (by omega) bn a5 s3.1 a3 n0, by rw [yearL_len, ln], ?_⟩
  exact yearL_bnd bn (by omega) s3.1 s3.2 n0 (by omega)

theorem Mid.start {h : Hab} {d : Nat} {L : List Int} (hl : L.length = d + 1) (hb : Bnd 0 30 L) : Mid h d L L L 30 :=
  ⟨⟨hl, hl, LeL.refl _, hb, hb, Int.le_refl _⟩, LeL.refl _, LeL.refl _, hl, hb⟩

/-- One more of what is told. -/
theorem ahead_step {h : Hab} {r b : Nat} {lo hi : List Int} {x1 x2 n : Int} {rest : List ((Int × Int) × Int)} {out pre : List (Int × Int × Int × Int)} (he : out = pre ++ aheadL h r b lo hi (((x1, x2), n) :: rest)) (hl : pre.length < out.length) :
    okY r h.keep lo (shotsL b lo h.lo x1) n = true ∧ out[pre.length]?.getD (0, 0, 0, 0) = (shotsL b lo h.lo x1, shotsL b hi h.hi x2, (yearL lo (shotsL b lo h.lo x1) n).sum, (yearL hi (shotsL b hi h.hi x2) n).sum) ∧
    out = (pre ++ [(shotsL b lo h.lo x1, shotsL b hi h.hi x2, (yearL lo (shotsL b lo h.lo x1) n).sum, (yearL hi (shotsL b hi h.hi x2) n).sum)]) ++ aheadL h r b (yearL lo (shotsL b lo h.lo x1) n) (yearL hi (shotsL b hi h.hi x2) n) rest := by
  cases hok : okY r h.keep lo (shotsL b lo h.lo x1) n with
  | false =>
    rw [aheadL_no hok, List.append_nil] at he
    rw [he] at hl
    omega
  | true =>
    rw [aheadL_yes hok] at he
    refine ⟨rfl, ?_, by rw [he, List.append_assoc]⟩
    rw [he, List.getElem?_append_right (Nat.le_refl _), Nat.sub_self]
    rfl

theorem okY_parts {r : Nat} {keep : Int} {l : List Int} {s n : Int} (h : okY r keep l s n = true) : yearOk r l s n = true ∧ keep ≤ (yearL l s n).sum := by
  unfold okY at h
  simpa using h

theorem stand_last {g : Gr} (hok : okGrove g = true) : standVal g (g.first + g.seas.length) = lastL g ∧ standErr g (g.first + g.seas.length) = 0 := by
  have hy : hasY g (g.first + g.seas.length) = true := by
    unfold hasY
    rw [inR_iff]
    omega
  unfold standVal standErr lastL
  rw [if_pos hok, if_pos hy, if_pos ⟨hok, hy⟩]
  refine ⟨?_, rfl⟩
  rw [show g.first + (g.seas.length : Int) - g.first = (g.seas.length : Int) by omega, Int.toNat_natCast, List.take_length]

end Go.Proofs.Ytkjdapgkojfbmaa

namespace Go.Proofs.Ytkjdapgkojfbmaa
open Go.RowKit Go.Shelf

attribute [local go_sem] gives

/-- Numbers of 32 bits lie in memory. -/
structure ByAt (w : World) (B : Nat) (A : Option Addr) (l : List Int) : Prop where
  va : Vals w B A (u32s l)
  rg : ∀ k, k < l.length → 0 ≤ l[k]?.getD 0 ∧ l[k]?.getD 0 < 4294967296
  ln : l.length ≤ 9223372036854775807
theorem ByAt.below {w w' : World} {B : Nat} {A : Option Addr} {l : List Int} (h : ByAt w B A l) (hb : Below B w w') : ByAt w' B A l := ⟨h.va.below hb, h.rg, h.ln⟩
theorem atL_bnd {w : World} {B : Nat} {A : Option Addr} {l : List Int} (h : ByAt w B A l) {i : Int} : 0 ≤ atL l i ∧ atL l i < 4294967296 := by
  unfold atL
  split
  · omega
  · have hm0 := Int.emod_nonneg i (show (l.length : Int) ≠ 0 by omega)
    have hm1 := Int.emod_lt_of_pos i (show (0 : Int) < l.length by omega)
    exact h.rg _ (by omega)

set_option maxRecDepth 100000 in
set_option maxHeartbeats 4000000 in
theorem clumpTrue_idle (g : Gr) (ps : List (Int × Int)) (zs : List Int) (A1 : Option Addr) (c1 : Nat) (A2 : Option Addr) (c2 : Nat) (P1 : Option Addr) (k1 : Nat) (P2 : Option Addr) (k2 : Nat) (P3 : Option Addr) (k3 n3 : Nat) (w : World) (hG : GrAt w w.heap.size g A1 c1 A2 c2)
    (hV1 : Vals w w.heap.size P1 (pairs ps)) (hV2 : Ints w w.heap.size P2 zs) (l1 : ps.length ≤ 9223372036854775807) (l2 : zs.length ≤ 9223372036854775807)
    (h : readyB g ps = false ∨ planOk zs ps.length = false) :
    Calls Try.prog 6 #[grv g A1 c1 A2 c2, .slice P1 ps.length k1, .slice P2 zs.length k2, .slice P3 n3 k3] w fun e w' => e = .returned (.bool true) ∧ Below w.heap.size w w' := by
  have HG := Lib.hid hG
  have HV := Lib.hid (And.intro hV1 hV2)
  obtain ⟨w0, hw0⟩ : ∃ w0, w.alloc (.cells (gcs g A1 c1 A2 c2) 29) = w0 := ⟨_, rfl⟩
  have hb0 : Below w.heap.size w w0 := by rw [← hw0]; exact (Below.refl _ _).alloc (Nat.le_refl _) _
  have hs0 : w0.heap.size = w.heap.size + 1 := by rw [← hw0]; simp
  have hm0 : w0.heap[w.heap.size]? = some (.cells (gcs g A1 c1 A2 c2) 29 (0, 0)) := by rw [← hw0]; exact alloc_at0 w _
  have B0 := Lib.hid (And.intro hb0 (And.intro hm0 hs0))
  clear hG hV1 hV2 hb0 hm0 hs0
  simp only [gcs] at hw0
  unfold grv
  rcases Bool.eq_false_or_eq_true (readyB g ps) with hr | hr
  · have hp : planOk zs ps.length = false := h.resolve_left (by rw [hr]; decide)
    have HR := Lib.hid (And.intro hr hp)
    clear h hr hp
    go_enter Try.func6, Try.ntmps6
    go_wp2_with (first
      | (go_at_call 28; refine (alive_any w0).mono ?_; rintro e w1 ⟨rfl, hB1⟩
         have hc1 := fun i => cell_of_row w1 w.heap.size i _ _ _ ((hB1.block _ (by have := B0.out.2.2; omega)).trans B0.out.2.1)
         have H1 := Lib.hid (B0.out.1.trans (hB1.mono (by have := B0.out.2.2; omega))); clear hB1)
      | (go_at_call 29; refine (ready_any g A1 c1 A2 c2 P1 k1 ps w.heap.size w1 H1.out.size (HG.out.below H1.out) (HV.out.1.below H1.out) l1).mono ?_; rintro e w2 ⟨rfl, hB2⟩; rw [HR.out.1]
         have H2 := Lib.hid (H1.out.trans (hB2.mono H1.out.size)); clear hB2)
      | (go_at_call 30; refine (refPlan_any P1 k1 ps P2 k2 zs w.heap.size w2 (HV.out.2.below H2.out) l2 l1).mono ?_; rintro e w3 ⟨rfl, rfl⟩; rw [HR.out.2]))
    go_ret
    exact ⟨rfl, H2.out⟩
  · have HR := Lib.hid hr
    clear h hr
    go_enter Try.func6, Try.ntmps6
    go_wp2_with (first
      | (go_at_call 28; refine (alive_any w0).mono ?_; rintro e w1 ⟨rfl, hB1⟩
         have hc1 := fun i => cell_of_row w1 w.heap.size i _ _ _ ((hB1.block _ (by have := B0.out.2.2; omega)).trans B0.out.2.1)
         have H1 := Lib.hid (B0.out.1.trans (hB1.mono (by have := B0.out.2.2; omega))); clear hB1)
      | (go_at_call 29; refine (ready_any g A1 c1 A2 c2 P1 k1 ps w.heap.size w1 H1.out.size (HG.out.below H1.out) (HV.out.1.below H1.out) l1).mono ?_; rintro e w2 ⟨rfl, hB2⟩; rw [HR.out]
         have H2 := Lib.hid (H1.out.trans (hB2.mono H1.out.size)); clear hB2))
    go_ret
    exact ⟨rfl, H2.out⟩

set_option maxRecDepth 100000 in
set_option maxHeartbeats 8000000 in
theorem clumpTrue_main (g : Gr) (ps : List (Int × Int)) (zs : List Int) (ys : List Int) (A1 : Option Addr) (c1 : Nat) (A2 : Option Addr) (c2 : Nat) (P1 : Option Addr) (k1 : Nat) (P2 : Option Addr) (k2 : Nat) (P3 : Option Addr) (k3 : Nat) (w : World) (hG : GrAt w w.heap.size g A1 c1 A2 c2)
    (hV1 : Vals w w.heap.size P1 (pairs ps)) (hV2 : Ints w w.heap.size P2 zs) (hV3 : ByAt w w.heap.size P3 ys) (hrd : readyB g ps = true) (hp : planOk zs ps.length = true) :
    Calls Try.prog 6 #[grv g A1 c1 A2 c2, .slice P1 ps.length k1, .slice P2 zs.length k2, .slice P3 ys.length k3] w fun e w' => e = .returned (.bool true) ∧ Below w.heap.size w w' := by
  have hrd2 := hrd
  simp only [readyB, Bool.and_eq_true, Bool.not_eq_true'] at hrd2
  obtain ⟨⟨hgr, hok⟩, hr⟩ := hrd2
  obtain ⟨d, r, R⟩ := okGrove_runs hok
  have hab := habOk_of hok R
  have h4 := (rainsOk_len hr).2
  have hzl := planOk_len hp
  have e1 : lookErr g ps zs = 0 := by simp [lookErr, hok, hr, hp]
  have e2 : lookVal g ps zs = aheadL g.hab r g.hab.bears.toNat (lastL g) (lastL g) (ps.zip zs) := by
    have : g.hab.ripe.toNat = r := by rw [R.pre.hr, Int.toNat_natCast]
    simp [lookVal, hok, hr, hp, this]
  have hlv := lookVal_len g ps zs
  have hlk := fun B W hBW hGW h1 h2 => lookP_any g A1 c1 A2 c2 P1 k1 ps P2 k2 zs B W hBW hGW h1 h2 (by omega) (by omega)
  rw [e1] at hlk
  have hst := fun B W hBW hGW => stand_any g (g.first + g.seas.length) A1 c1 A2 c2 B W hBW hGW
  rw [(stand_last hok).1, (stand_last hok).2] at hst
  have hll := lastL_len R
  have hlb := lastL_bnd R
  have hls : (lastL g).length = g.start.length := by rw [hll, R.pre.ls]
  have hf0 := R.pre.f0
  have hf1 := R.pre.f1
  have h60 := R.pre.l60
  obtain ⟨b, hb⟩ : ∃ b, g.hab.bears.toNat = b := ⟨_, rfl⟩
  rw [hb] at e2 hab
  generalize lookVal g ps zs = out at e2 hlv hlk
  have HG := Lib.hid hG
  have HV := Lib.hid (And.intro hV1 (And.intro hV2 hV3))
  have HLK := Lib.hid hlk
  have HST := Lib.hid hst
  have HR := Lib.hid (And.intro hrd (And.intro hp (And.intro hr hzl)))
  have HH := Lib.hid hab
  generalize lastL g = L at e2 hll hlb hls HST
  have HE := Lib.hid (And.intro e2 (And.intro hll (And.intro hlb hls)))
  obtain ⟨w0, hw0⟩ : ∃ w0, w.alloc (.cells (gcs g A1 c1 A2 c2) 29) = w0 := ⟨_, rfl⟩
  have hb0 : Below w.heap.size w w0 := by rw [← hw0]; exact (Below.refl _ _).alloc (Nat.le_refl _) _
  have hs0 : w0.heap.size = w.heap.size + 1 := by rw [← hw0]; simp
  have hm0 : w0.heap[w.heap.size]? = some (.cells (gcs g A1 c1 A2 c2) 29 (0, 0)) := by rw [← hw0]; exact alloc_at0 w _
  have B0 := Lib.hid (And.intro hb0 (And.intro hm0 hs0))
  have hlsz : (L.length : Int) = g.start.length := by omega
  have hlv2 : (out.length : Int) ≤ zs.length := by omega
  clear hG hV1 hV2 hV3 hb0 hm0 hs0 hlk hst hrd hp hr hzl hab e2 hll hlb hls hgr hok R e1 hb hlv
  simp only [gcs] at hw0
  unfold grv at HLK HST ⊢
  go_enter Try.func6, Try.ntmps6
  go_wp2_with (first
    | (go_at_call 28; refine (alive_any w0).mono ?_; rintro e w1 ⟨rfl, hB1⟩
       have hc1 := fun i => cell_of_row w1 w.heap.size i _ _ _ ((hB1.block _ (by have := B0.out.2.2; omega)).trans B0.out.2.1)
       have hs1 : w.heap.size < w1.heap.size := by have := B0.out.2.2; have := hB1.size; omega
       have H1 := Lib.hid (And.intro (B0.out.1.trans (hB1.mono (by have := B0.out.2.2; omega))) ((hB1.block _ (by have := B0.out.2.2; omega)).trans B0.out.2.1)); clear hB1)
    | (go_at_call 29; refine (ready_any g A1 c1 A2 c2 P1 k1 ps w.heap.size w1 H1.out.1.size (HG.out.below H1.out.1) (HV.out.1.below H1.out.1) (by omega)).mono ?_; rintro e w2 ⟨rfl, hB2⟩; rw [HR.out.1]
       have hc2 := fun i => cell_of_row w2 w.heap.size i _ _ _ ((hB2.block _ hs1).trans H1.out.2)
       have hs2 : w.heap.size < w2.heap.size := by have := hB2.size; omega
       have H2 := Lib.hid (And.intro (H1.out.1.trans (hB2.mono H1.out.1.size)) ((hB2.block _ hs1).trans H1.out.2)); clear hB2 hc1)
    | (go_at_call 30; refine (refPlan_any P1 k1 ps P2 k2 zs w.heap.size w2 (HV.out.2.1.below H2.out.1) (by have := HR.out.2.2.2; omega) (by omega)).mono ?_; rintro e w3 ⟨rfl, rfl⟩; rw [HR.out.2.1])
    | (go_at_call 23; refine (HLK.out w.heap.size w2 H2.out.1.size (HG.out.below H2.out.1) (HV.out.1.below H2.out.1) (HV.out.2.1.below H2.out.1)).mono ?_; rintro e w4 ⟨D, q, rfl, -, hD, hB4⟩
       have hc4 := fun i => cell_of_row w4 w.heap.size i _ _ _ ((hB4.block _ hs2).trans H2.out.2)
       have hs4 : w.heap.size < w4.heap.size := by have := hB4.size; omega
       have H4 := Lib.hid (And.intro (H2.out.1.trans (hB4.mono H2.out.1.size)) (And.intro ((hB4.block _ hs2).trans H2.out.2) hD)); clear hB4 hc2 hD)
    | (go_at_call 14; refine (HST.out w.heap.size w4 H4.out.1.size (HG.out.below H4.out.1)).mono ?_; rintro e w5 ⟨E, q5, rfl, hq5, hE, -, hB5⟩
       have hc5 := fun i => cell_of_row w5 w.heap.size i _ _ _ ((hB5.block _ hs4).trans H4.out.2.1)
       have H5 := Lib.hid (And.intro (H4.out.1.trans (hB5.mono H4.out.1.size)) (And.intro ((hB5.block _ hs4).trans H4.out.2.1) (And.intro ((H4.out.2.2.below hB5).mono hB5.size) (And.intro hq5 hE)))); clear hB5 hc4 hq5 hE))
  have q1 : decide ((out.length : Int) < 0) = false := decide_eq_false (by omega)
  have q2 : decide (zs.length < out.length) = false := decide_eq_false (by omega)
  simp only [q1, q2, Bool.or_false]
  have HLV := Lib.hid hlv2
  clear hlv2 q1 q2
  go_loopg [13, 87] out.length (fun gg s13 s87 wx => ∃ (i : Nat) (F : Option Addr) (f : Nat) (pre : List (Int × Int × Int × Int)) (lo now hi : List Int) (M : Int), i + gg = out.length ∧ s87 = .int .i64 i ∧ s13 = .slice F now.length f ∧
    Hid (pre.length = i ∧ out = pre ++ aheadL g.hab r b lo hi ((ps.zip zs).drop i) ∧ Mid g.hab d lo now hi M ∧ M ≤ 30 * 11 ^ i ∧ now.length ≤ f ∧ Ints wx wx.heap.size F now ∧ Below w5.heap.size w5 wx))
  case atStart => exact ⟨0, E, q5, [], L, L, L, 30, by omega, rfl, rfl, rfl, HE.out.1, Mid.start HE.out.2.1 HE.out.2.2.1, by decide, H5.out.2.2.2.1, H5.out.2.2.2.2, Below.refl _ _⟩
  case round =>
    obtain ⟨i, F, f, pre, lo, now, hi, M, hig, rfl, rfl, hI⟩ := hrel
    cases gk with
    | zero =>
      obtain rfl : i = out.length := by omega
      go_wp2
      go_ret
      exact ⟨rfl, H5.out.1.trans (hI.out.2.2.2.2.2.2.mono H5.out.1.size)⟩
    | succ gg =>
      have hlt : i < out.length := by omega
      have hltz : (i : Int) < out.length := by omega
      have hzl := HR.out.2.2.2
      have hip : i < ps.length := by have := HLV.out; omega
      have hipz : (i : Int) < ps.length := by omega
      have hizz : (i : Int) < zs.length := by have := HLV.out; omega
      obtain ⟨b1, off1, hA1, hb1, hq1⟩ := HV.out.1 (by rw [pairs_len]; omega)
      subst hA1
      obtain ⟨b2, off2, hA2, hb2, hq2⟩ := HV.out.2.1 (by omega)
      subst hA2
      obtain ⟨b3, off3, hA3, hb3, hq3⟩ := H5.out.2.2.1 (by rw [quads_len]; omega)
      subst hA3
      have hbel := H5.out.1.trans (hI.out.2.2.2.2.2.2.mono H5.out.1.size)
      have hpa := pairs_at ps i hip
      have hqa := quads_at out i hlt
      have rn := rainsOk_at HR.out.2.2.1 hip
      have pn := planOk_at HR.out.2.1 (k := i) (by omega)
      have hzip : (ps.zip zs).drop i = (ps[i]?.getD (0, 0), zs[i]?.getD 0) :: (ps.zip zs).drop (i + 1) := by
        rw [List.drop_eq_getElem_cons (by simp; omega)]
        congr 1
        simp [hip, show i < zs.length by omega]
      have hst := hI.out.2.1
      rw [hzip] at hst
      have hr0 : ∀ W, Below wr.heap.size wr W → W.cell? ⟨b1, off1 + i * 2, none⟩ = _ := fun W hW => ((hbel.trans (hW.mono hbel.size)).cell (p := ⟨b1, off1 + i * 2, none⟩) (by simp; omega)).trans (hq1 _ _ hpa.1)
      have hr1 : ∀ W, Below wr.heap.size wr W → W.cell? ⟨b1, off1 + i * 2 + 1, none⟩ = _ := fun W hW => ((hbel.trans (hW.mono hbel.size)).cell (p := ⟨b1, off1 + i * 2 + 1, none⟩) (by simp; omega)).trans (hq1 _ _ hpa.2)
      have hz0 : ∀ W, Below wr.heap.size wr W → W.cell? ⟨b2, off2 + i, none⟩ = _ := fun W hW => ((hbel.trans (hW.mono hbel.size)).cell (p := ⟨b2, off2 + i, none⟩) (by simp; omega)).trans (hq2 i (by omega))
      generalize ps[i]?.getD (0, 0) = x at rn hr0 hr1 hst
      generalize zs[i]?.getD 0 = n at pn hz0 hst
      obtain ⟨x1, x2⟩ := x
      simp only at rn hr0 hr1
      obtain ⟨hokY, hq0, hout⟩ := ahead_step hst (by rw [hI.out.1]; exact hlt)
      rw [hI.out.1] at hq0
      rw [hq0] at hqa
      simp only at hqa
      obtain ⟨hqa0, hqa1, hqa2, hqa3⟩ := hqa
      have ha0 : wr.cell? ⟨b3, off3 + i * 4, none⟩ = _ := (hI.out.2.2.2.2.2.2.cell (p := ⟨b3, off3 + i * 4, none⟩) hb3).trans (hq3 _ _ hqa0)
      have ha1 : wr.cell? ⟨b3, off3 + i * 4 + 1, none⟩ = _ := (hI.out.2.2.2.2.2.2.cell (p := ⟨b3, off3 + i * 4 + 1, none⟩) hb3).trans (hq3 _ _ hqa1)
      have ha2 : wr.cell? ⟨b3, off3 + i * 4 + 2, none⟩ = _ := (hI.out.2.2.2.2.2.2.cell (p := ⟨b3, off3 + i * 4 + 2, none⟩) hb3).trans (hq3 _ _ hqa2)
      have ha3 : wr.cell? ⟨b3, off3 + i * 4 + 3, none⟩ = _ := (hI.out.2.2.2.2.2.2.cell (p := ⟨b3, off3 + i * 4 + 3, none⟩) hb3).trans (hq3 _ _ hqa3)
      obtain ⟨rn0, rn1, rn2⟩ := rn
      obtain ⟨pn0, pn1⟩ := pn
      have hab := HH.out
      have hl0 := hab.l0
      have hlh := hab.lh
      have hh1 := hab.h1
      have hd6 := hab.d6
      have hbd := hab.bd
      have hv0 := atL_bnd HV.out.2.2 (i := 2 * (i : Int))
      have hv1 := atL_bnd HV.out.2.2 (i := 2 * (i : Int) + 1)
      have hat := fun (j : Int) (hj : 0 ≤ j) (W : World) (hW : Below w.heap.size w W) => at_any P3 k3 ys j hj w.heap.size W (HV.out.2.2.below hW).va HV.out.2.2.ln
      have hp0 := fun W => pick_any g.hab.lo g.hab.hi (atL ys (2 * (i : Int))) hl0 hlh (by omega) hv0.1 hv0.2 W
      have hp1 := fun W => pick_any x1 x2 (atL ys (2 * (i : Int) + 1)) rn0 rn1 (by omega) hv1.1 hv1.2 W
      have hb0' := pickL_bnd (n := atL ys (2 * (i : Int))) hlh
      have hb1' := pickL_bnd (n := atL ys (2 * (i : Int) + 1)) rn1
      generalize pickL g.hab.lo g.hab.hi (atL ys (2 * (i : Int))) = rate at hp0 hb0'
      generalize pickL x1 x2 (atL ys (2 * (i : Int) + 1)) = rain at hp1 hb1'
      have hMM := pow11 (k := i) (by omega)
      have hm11 := hI.out.2.2.2.1
      have hmid := hI.out.2.2.1.next hab rn0 rn1 rn2 pn0 pn1 hb0'.1 hb0'.2 hb1'.1 hb1'.2
      have hyok := okY_parts hokY
      have hmln := hI.out.2.2.1.ln
      have hm0 := hI.out.2.2.1.yr.m0
      have hyk : yearOk r now (shotsL b now rate rain) n = true := hI.out.2.2.1.l1.yearOk hmid.1 (by have := hI.out.2.2.1.yr.ll; omega) hyok.1
      have hsh := fun W hz => refShots_any g.hab b hab.hb F f now W.heap.size W (Nat.le_refl _) hz (by omega) hI.out.2.2.2.2.1 (by omega) (fun k hk => by have := hI.out.2.2.1.bn k hk; omega) rate rain (by omega) (by omega) (by omega) (by omega)
      have hyr := fun W hz => (refYear_round hab (A := F) (cap := f) hmln hmid.2.2.2.2.1 (show M ≤ 39930 by omega) hm0 hmid.2.2.1 hmid.2.2.2.1 pn0 pn1 W hz).2 hyk
      have hsu := fun (A : Option Addr) (c : Nat) W hz => refSum_any A c (yearL now (shotsL b now rate rain) n) W.heap.size W hz (by rw [hmid.2.2.2.2.2.ln]; omega) (fun k hk => by have := hmid.2.2.2.2.2.bn k hk; omega)
      have hle1 := hmid.2.2.2.2.2.l1.sum
      have hle2 := hmid.2.2.2.2.2.l2.sum
      have hnlen := hmid.2.2.2.2.2.ln
      have hnext := hmid.2.2.2.2.2
      have hS1 := hmid.1
      have hS2 := hmid.2.1
      have hke := hyok.2
      clear hokY hyk hyok hmid hst hzip hq0
      generalize goneL now (shotsL b now rate rain) n = gn at hyr
      generalize yearL now (shotsL b now rate rain) n = now' at hyr hsu hle1 hle2 hnlen hnext
      generalize yearL lo (shotsL b lo g.hab.lo x1) n = lo' at hnext hle1 hke hout ha2
      generalize yearL hi (shotsL b hi g.hab.hi x2) n = hi' at hnext hle2 hout ha3
      generalize shotsL b lo g.hab.lo x1 = s1 at hS1 hout ha0
      generalize shotsL b hi g.hab.hi x2 = s2 at hS2 hout ha1
      generalize shotsL b now rate rain = S at hsh hyr hS1 hS2
      generalize lo'.sum = t1 at hle1 hke hout ha2
      generalize hi'.sum = t2 at hle2 hout ha3
      generalize hsn : now'.sum = tn at hsu hle1 hle2
      have HC := Lib.hid (And.intro hat (And.intro hp0 (And.intro hp1 (And.intro hsh (And.intro hyr hsu)))))
      have HN := Lib.hid (And.intro hnext (And.intro hnlen (And.intro hout hbel)))
      have HC1 := Lib.hid (And.intro hr0 (And.intro hr1 hz0))
      have hx1 : IntKind.i64.wrap (2 * (i : Int)) = 2 * (i : Int) := IntWalk.i64_in _ (by omega)
      have hx2 : IntKind.i64.wrap (2 * (i : Int) + 1) = 2 * (i : Int) + 1 := IntWalk.i64_in _ (by omega)
      have hi0 : (0 : Int) ≤ 2 * (i : Int) := by omega
      have hi1 : (0 : Int) ≤ 2 * (i : Int) + 1 := by omega
      have hken : g.hab.keep ≤ tn := by omega
      clear hat hp0 hp1 hsh hyr hsu hnext hnlen hout hr0 hr1 hz0 hq1 hq2 hq3 hpa hbel hqa0 hqa1 hqa2 hqa3 hMM hm11 hsn hab hmln hzl
      go_wp2
      obtain ⟨w6, hw6⟩ : ∃ w6, wr.alloc (.cells #[.int .i64 s1, .int .i64 s2, .int .i64 t1, .int .i64 t2] 65) = w6 := ⟨_, rfl⟩
      have hb6 : Below wr.heap.size wr w6 := by rw [← hw6]; exact (Below.refl _ _).alloc (Nat.le_refl _) _
      have hm6 : w6.heap[wr.heap.size]? = some (.cells #[.int .i64 s1, .int .i64 s2, .int .i64 t1, .int .i64 t2] 65 (0, 0)) := by rw [← hw6]; exact alloc_at0 wr _
      have hbw6 := HN.out.2.2.2.trans (hb6.mono HN.out.2.2.2.size)
      have hg6 : w6.heap[w.heap.size]? = some (.cells (gcs g A1 c1 A2 c2) 29 (0, 0)) := (hb6.block _ (by have := HN.out.2.2.2.size; have := hI.out.2.2.2.2.2.2.size; have := lt_of_heap H5.out.2.1; omega)).trans ((hI.out.2.2.2.2.2.2.block _ (lt_of_heap H5.out.2.1)).trans H5.out.2.1)
      have H6 := Lib.hid (And.intro hb6 (And.intro hm6 (And.intro hbw6 (And.intro hg6 ((hI.out.2.2.2.2.2.1.below hb6).mono hb6.size)))))
      rw [hw6]
      clear hw6 hb6 hm6 hbw6 hg6 ha0 ha1 ha2 ha3
      refine R2.wp_walk (C := Below w6.heap.size w6) (S := fun _ => Grows) 167 (by kernel_rfl) (by kernel_rfl) rfl (fun _ => Grows.refl) (Below.refl _ _).drew ?_
      simp only []
      repeat
        (refine' R2.WalkR.det (fun _ => rfl) rfl (fun ρ W hW hH hU => ?_) ?_
         rotate_left
         · clear hH hU
           have hcg := fun i => cell_of_row W w.heap.size i _ _ _ ((hW.block _ (lt_of_heap H6.out.2.2.2.1)).trans H6.out.2.2.2.1)
           have hbr := H6.out.1.trans (hW.mono H6.out.1.size)
           have hx0 := HC1.out.1 W hbr
           have hx1' := HC1.out.2.1 W hbr
           have HB := Lib.hid (And.intro (H6.out.2.2.1.trans (hW.mono H6.out.2.2.1.size)) ((H6.out.2.2.2.2.below hW).mono hW.size))
           have HW := Lib.hid hW
           clear hW hbr
           go_simp
           first
             | with_reducible exact ⟨rfl, Grows.refl _, HW.out⟩
             | ((with_reducible show Calls _ _ #[_, .int .i64 (2 * (i : Int))] _ _); go_at_call 33; refine (HC.out.1 _ hi0 W HB.out.1).mono ?_; rintro e W1 ⟨rfl, rfl⟩; exact ⟨_, rfl, rfl, Grows.refl _, HW.out⟩)
             | ((with_reducible show Calls _ _ #[_, .int .i64 (2 * (i : Int) + 1)] _ _); go_at_call 33; refine (HC.out.1 _ hi1 W HB.out.1).mono ?_; rintro e W1 ⟨rfl, rfl⟩; exact ⟨_, rfl, rfl, Grows.refl _, HW.out⟩)
             | ((with_reducible show Calls _ _ #[.agg #[.int .i64 g.hab.lo, _], _] _ _); go_at_call 32; refine (HC.out.2.1 W).mono ?_; rintro e W1 ⟨rfl, hB1⟩; exact ⟨_, rfl, rfl, hB1, HW.out.trans (hB1.mono HW.out.size)⟩)
             | ((with_reducible show Calls _ _ #[.agg #[.int .i64 x1, _], _] _ _); go_at_call 32; refine (HC.out.2.2.1 W).mono ?_; rintro e W1 ⟨rfl, hB1⟩; exact ⟨_, rfl, rfl, hB1, HW.out.trans (hB1.mono HW.out.size)⟩)
             | (go_at_call 31; refine (HC.out.2.2.2.1 W HB.out.2).mono ?_; rintro e W1 ⟨rfl, hB1⟩; exact ⟨_, rfl, rfl, hB1, HW.out.trans (hB1.mono HW.out.size)⟩)
         simp only [Act.put, List.setIfInBounds_toArray, List.set_cons_succ, List.set_cons_zero])
      refine R2.WalkR.nil (fun ρ w7 hW hH hF => ?_)
      clear hH hF
      have H7 := Lib.hid (And.intro (H6.out.1.trans (hW.mono H6.out.1.size)) (And.intro ((hW.block _ (lt_of_heap H6.out.2.1)).trans H6.out.2.1) (And.intro (H6.out.2.2.1.trans (hW.mono H6.out.2.2.1.size)) (And.intro ((hW.block _ (lt_of_heap H6.out.2.2.2.1)).trans H6.out.2.2.2.1) ((H6.out.2.2.2.2.below hW).mono hW.size)))))
      clear hW
      go_wp2
      refine R2.wp_walk (C := Below w7.heap.size w7) (S := fun _ => Grows) 167 (by kernel_rfl) (by kernel_rfl) rfl (fun _ => Grows.refl) (Below.refl _ _).drew ?_
      simp only []
      repeat
        (refine' R2.WalkR.det (fun _ => rfl) rfl (fun ρ W hW hH hU => ?_) ?_
         rotate_left
         · clear hH hU
           have hcg := fun i => cell_of_row W w.heap.size i _ _ _ ((hW.block _ (lt_of_heap H7.out.2.2.2.1)).trans H7.out.2.2.2.1)
           have hz := HC1.out.2.2 W (H7.out.1.trans (hW.mono H7.out.1.size))
           have HW := Lib.hid hW
           clear hW
           go_simp
           with_reducible exact ⟨rfl, Grows.refl _, HW.out⟩
         simp only [Act.put, List.setIfInBounds_toArray, List.set_cons_succ, List.set_cons_zero])
      refine' R2.WalkR.nd (YrF 0 now' gn) (fun _ => rfl) rfl rfl (fun o' v W W' _ _ hv hs _ => hv.keep hs) (fun ρ W hW hH hU => ?_) ?_
      · clear hH hU
        have HW := Lib.hid hW
        clear hW
        go_simp
        go_at_call 34
        refine (HC.out.2.2.2.2.1 W ((H7.out.2.2.2.2.below HW.out).mono HW.out.size)).mono ?_
        rintro e W1 ⟨v, rfl, hv, hB1⟩
        exact ⟨v, rfl, hv.mono (Nat.zero_le _), hB1, HW.out.trans (hB1.mono HW.out.size)⟩
      simp only [Act.put, List.setIfInBounds_toArray, List.set_cons_succ, List.set_cons_zero]
      refine' R2.WalkR.nd (YrF 0 now' gn) (fun _ => rfl) rfl rfl (fun o' v W W' _ _ hv hs _ => hv.keep hs) (fun ρ W hW hH hU => ?_) ?_
      · have hv := hH _ (.head _) (by first | decide +kernel | (dsimp only; decide +kernel))
        clear hH hU
        have HW := Lib.hid (And.intro hv hW)
        clear hW hv
        go_simp
        exact ⟨HW.out.1, Grows.refl _, HW.out.2⟩
      simp only [Act.put, List.setIfInBounds_toArray, List.set_cons_succ, List.set_cons_zero]
      refine' R2.WalkR.nd (PlF now') (fun _ => rfl) rfl rfl (fun o' v W W' _ _ hv hs _ => hv.next hs) (fun ρ W hW hH hU => ?_) ?_
      · obtain ⟨X, x, X', x', hv, hx, hi, -⟩ := hH _ (.head _) (by first | decide +kernel | (dsimp only; decide +kernel))
        have hv' : ρ 114 = .tuple #[.slice X now'.length x, .slice X' gn.length x', .bool true] := hv
        clear hH hU hv
        have HW := Lib.hid (And.intro hx (And.intro hi hW))
        clear hi hW hx
        go_simp
        exact ⟨⟨X, x, rfl, HW.out.1, HW.out.2.1⟩, Grows.refl _, HW.out.2.2⟩
      simp only [Act.put, List.setIfInBounds_toArray, List.set_cons_succ, List.set_cons_zero]
      refine' R2.WalkR.nd (fun _ _ => True) (fun _ => rfl) rfl rfl (fun o' v W W' _ _ hv hs _ => trivial) (fun ρ W hW hH hU => ?_) ?_
      · obtain ⟨X, x, X', x', hv, hx, hi, -⟩ := hH _ (.tail _ (.head _)) (by first | decide +kernel | (dsimp only; decide +kernel))
        have hv' : ρ 114 = .tuple #[.slice X now'.length x, .slice X' gn.length x', .bool true] := hv
        clear hH hU hv
        have HW := Lib.hid (And.intro hx (And.intro hi hW))
        clear hi hW hx
        go_simp
        exact ⟨Grows.refl _, HW.out.2.2⟩
      simp only [Act.put, List.setIfInBounds_toArray, List.set_cons_succ, List.set_cons_zero]
      refine' R2.WalkR.det (fun _ => rfl) rfl (fun ρ W hW hH hU => ?_) ?_
      rotate_left
      · obtain ⟨X, x, X', x', hv, hx, hi, -⟩ := hH _ (.tail _ (.tail _ (.head _))) (by first | decide +kernel | (dsimp only; decide +kernel))
        have hv' : ρ 114 = .tuple #[.slice X now'.length x, .slice X' gn.length x', .bool true] := hv
        clear hH hU hv
        have HW := Lib.hid (And.intro hx (And.intro hi hW))
        clear hi hW hx
        go_simp
        exact ⟨rfl, Grows.refl _, HW.out.2.2⟩
      simp only [Act.put, List.setIfInBounds_toArray, List.set_cons_succ, List.set_cons_zero]
      refine' R2.WalkR.nd (PlF now') (fun _ => rfl) rfl rfl (fun o' v W W' _ _ hv hs _ => hv.next hs) (fun ρ W hW hH hU => ?_) ?_
      · have hv := hH _ (.tail _ (.head _)) (by first | decide +kernel | (dsimp only; decide +kernel))
        clear hH hU
        have HW := Lib.hid (And.intro hv hW)
        clear hW hv
        go_simp
        exact ⟨HW.out.1, Grows.refl _, HW.out.2⟩
      simp only [Act.put, List.setIfInBounds_toArray, List.set_cons_succ, List.set_cons_zero]
      refine' R2.WalkR.nd (fun _ _ => True) (fun _ => rfl) rfl rfl (fun o' v W W' _ _ hv hs _ => trivial) (fun ρ W hW hH hU => ?_) ?_
      · clear hH hU
        have HW := Lib.hid hW
        clear hW
        go_simp
        exact ⟨Grows.refl _, HW.out⟩
      simp only [Act.put, List.setIfInBounds_toArray, List.set_cons_succ, List.set_cons_zero]
      refine' R2.WalkR.det (fun _ => rfl) rfl (fun ρ W hW hH hU => ?_) ?_
      rotate_left
      · clear hH hU
        have HW := Lib.hid hW
        clear hW
        go_simp
        with_reducible exact ⟨rfl, Grows.refl _, HW.out⟩
      simp only [Act.put, List.setIfInBounds_toArray, List.set_cons_succ, List.set_cons_zero]
      refine R2.WalkR.nil (fun ρ w8 hW hH hF => ?_)
      obtain ⟨X, x, hv, hx, hX⟩ := hH _ (.tail _ (.head _))
      have hv' : ρ 18 = .slice X now'.length x := hv
      rw [hv']
      have hcg := fun i => cell_of_row w8 w.heap.size i _ _ _ ((hW.block _ (lt_of_heap H7.out.2.2.2.1)).trans H7.out.2.2.2.1)
      have hca := fun i => cell_of_row w8 wr.heap.size i _ _ _ ((hW.block _ (lt_of_heap H7.out.2.1)).trans H7.out.2.1)
      have H8 := Lib.hid (And.intro (H7.out.1.trans (hW.mono H7.out.1.size)) (And.intro hx hX))
      clear hH hF hv hv' hW hx hX
      go_wp2_with (go_at_call 35; refine (HC.out.2.2.2.2.2 X x w8 H8.out.2.2).mono ?_; rintro e W1 ⟨rfl, rfl⟩)
      have hpl : (pre ++ [(s1, s2, t1, t2)]).length = i + 1 := by simp [hI.out.1]
      have hb8 : Below w5.heap.size w5 w8 := hI.out.2.2.2.2.2.2.trans (H8.out.1.mono hI.out.2.2.2.2.2.2.size)
      have hM1 : 11 * M ≤ 30 * 11 ^ (i + 1) := by have := hI.out.2.2.2.1; rw [Int.pow_succ]; omega
      have HF := Lib.hid (And.intro hpl (And.intro hb8 hM1))
      clear hpl hb8 hM1
      go_roundg gg
      case measure => omega
      case rel => exact ⟨i + 1, X, x, pre ++ [(s1, s2, t1, t2)], lo', now', hi', 11 * M, by omega, by go_num, rfl, HF.out.1, HN.out.2.2.1, HN.out.1, HF.out.2.2, H8.out.2.1, H8.out.2.2, HF.out.2.1⟩

theorem clumpTrue_law (g : Gr) (ps : List (Int × Int)) (zs : List Int) (ys : List Int) (A1 : Option Addr) (c1 : Nat) (A2 : Option Addr) (c2 : Nat) (P1 : Option Addr) (k1 : Nat) (P2 : Option Addr) (k2 : Nat) (P3 : Option Addr) (k3 : Nat) (w : World) (hG : GrAt w w.heap.size g A1 c1 A2 c2)
    (hV1 : Vals w w.heap.size P1 (pairs ps)) (hV2 : Ints w w.heap.size P2 zs) (hV3 : ByAt w w.heap.size P3 ys) (l1 : ps.length ≤ 9223372036854775807) (l2 : zs.length ≤ 9223372036854775807) :
    Calls Try.prog 6 #[grv g A1 c1 A2 c2, .slice P1 ps.length k1, .slice P2 zs.length k2, .slice P3 ys.length k3] w fun e w' => e = .returned (.bool true) ∧ Below w.heap.size w w' := by
  by_cases h : readyB g ps = false ∨ planOk zs ps.length = false
  · exact clumpTrue_idle g ps zs A1 c1 A2 c2 P1 k1 P2 k2 P3 k3 ys.length w hG hV1 hV2 l1 l2 h
  · refine clumpTrue_main g ps zs ys A1 c1 A2 c2 P1 k1 P2 k2 P3 k3 w hG hV1 hV2 hV3 ?_ ?_
    · cases hc : readyB g ps with
      | true => rfl
      | false => exact absurd (.inl hc) h
    · cases hc : planOk zs ps.length with
      | true => rfl
      | false => exact absurd (.inr hc) h

end Go.Proofs.Ytkjdapgkojfbmaa

namespace Go.Proofs.Ytkjdapgkojfbmaa
open Go.ChangeShapes Go.WideShapes Go.ChangeAt Go.RowKit Go.Deep

section
variable {H : Type} {enc : TypeId × Value → H} {w : World} {base : Nat} {spare : Nat → Bool} {held : Bool}

theorem open_u32s_raw {fuel : Nat} {c : Value} {x : DataW H × List MemPlace} (h : DataW.trod enc Try.prog w base spare held fuel 61 [c] = some x) :
    ∃ (A : Option Addr) (zs : List Int) (cap : Nat), c = .slice A zs.length cap ∧ zs.length ≤ maxLen ∧ ByAt w w.heap.size A zs := by
  rcases open_ints Try.underlying61 Try.underlying68 (by kernel_rfl) h with ⟨hc, _⟩ | ⟨a, len, cap, zs, hc, _, hl, hm, hz, _, hcell, hwf⟩
  · simp only [List.cons.injEq, and_true] at hc
    exact ⟨none, [], 0, hc, by simp, ⟨fun h => by simp [u32s] at h, fun k hk => absurd hk (by simp), by simp⟩⟩
  · simp only [List.cons.injEq, and_true] at hc
    have hle : len ≤ zs.length := by rw [hz]; split <;> omega
    have hl2 : (zs.take len).length = len := by simp; omega
    have hmx : maxLen ≤ 9223372036854775807 := by simp [maxLen]
    refine ⟨some a, zs.take len, cap, by rw [hl2]; exact hc, by rw [hl2]; omega, ⟨fun h0 => ?_, fun k hk => ?_, by rw [hl2]; omega⟩⟩
    · have h0' : 0 < len := by simp [u32s] at h0; omega
      have h1 := hcell 0 (by omega)
      obtain ⟨b, off, spot⟩ := a
      have hs1 : spot = none := by
        have e0 : (⟨b, off, spot⟩ : Addr).add 0 = ⟨b, off, spot⟩ := by simp [Addr.add]
        rw [e0] at h1
        exact World.cell?_spot h1
      subst hs1
      rw [Addr.add_mid] at h1
      refine ⟨b, off, rfl, lt_of_cell h1, fun k v hk => ?_⟩
      have hkl : k < len := by
        have := (List.getElem?_eq_some_iff.1 hk).1
        simp [u32s] at this
        omega
      have h2 := hcell k (by omega)
      rw [Addr.add_mid] at h2
      rw [h2]
      simp only [u32s, List.getElem?_map, List.getElem?_take, hkl, if_true] at hk
      have hkz : k < zs.length := by omega
      simp only [List.getElem?_eq_getElem hkz, Option.map_some, Option.some.injEq] at hk
      rw [← hk]
      simp [List.getD, hkz]
    · rw [hl2] at hk
      have hkz : k < zs.length := by omega
      have := hwf zs[k] (List.getElem_mem hkz)
      simp only [List.getElem?_take, hk, if_true, List.getElem?_eq_getElem hkz, Option.getD_some]
      simp [Lit.wf, IntKind.min, IntKind.max, IntKind.signed, IntKind.bits] at this
      omega

set_option maxRecDepth 100000 in
theorem open_u32s_arg {r : Reach} {b0 : Nat} {v : Value} {d : DataW H} {p : List MemPlace} (hv : Value.okWide Try.prog w r b0 61 v) (h : DataW.Trod enc Try.prog w base spare held 61 v d p) :
    ∃ (A : Option Addr) (zs : List Int) (cap : Nat), v = .slice A zs.length cap ∧ zs.length ≤ maxLen ∧ ByAt w w.heap.size A zs := by
  obtain ⟨a, len, cap, rfl⟩ := okWide_slice Try.underlying61 hv
  obtain ⟨fuel, hf⟩ := h
  exact open_u32s_raw hf
end

end Go.Proofs.Ytkjdapgkojfbmaa

namespace Go.Proofs.Ytkjdapgkojfbmaa
open Go.ChangeShapes Go.WideShapes Go.ChangeAt Go.RowKit

theorem Try.own : ownKnob Try.prog.godebug = none := by kernel_rfl
theorem Try.laidOut : laidOutB Try.prog = true := by kernel_rfl

set_option maxRecDepth 100000 in
set_option maxHeartbeats 4000000 in
theorem clumpTrue_lifted (os : Os) (started : os.Started) (H : Type) (enc : TypeId × Value → H) :
    ReturnsInHanded {} Try.checked os 6 .any (Rows.clumpTrueSpec.pre6 enc Try.prog Try.f6 Rows.clumpTrueRow.domain false) (Rows.clumpTrueSpec.post enc Try.prog Try.f6 false true false false) := by
  refine returnsInHanded_of_change (C := Try.checked) Try.own started (by kernel_rfl) Try.func6
    (ChangeSpec.witness6 (enc := enc) (C := Try.checked) false ⟨#[], #[.agg #[.int .i64 0, .int .i64 0, .int .i64 0, .int .i64 0, .int .i64 0, .int .i64 0, .int .i64 0, .int .i64 0, .slice none 0 0, .slice none 0 0], .slice none 0 0, .slice none 0 0, .slice none 0 0], []⟩ 8 (by kernel_rfl) (by kernel_rfl) (by kernel_rfl) (by kernel_rfl)) ?_
  intro W base args ds gs before hval0 hW hcnd _
  have hval : ∀ (j : Nat) t v, Try.f6.params[j]? = some t → args[j]? = some v → Value.okWide Try.prog W .any base t v := hval0
  have hW' := hW
  obtain ⟨p, q, hA0, hV, rfl, hfz, hnd⟩ := hW
  have hA : DataW.TrodAll enc Try.prog W 0 (fun _ => true) true Try.f6.params.toList args.toList ds p := hA0
  rw [Try.params6] at hA hval
  obtain ⟨v0, v1, v2, v3, d0, d1, d2, d3, p0, p1, p2, p3, rfl, rfl, rfl, h0, h1, h2, h3⟩ := trodAll_four hA
  obtain ⟨rfl, rfl⟩ := trodVars_none hV
  obtain ⟨g, A1, c1, A2, c2, rfl, hG⟩ := open_grove (hval 0 29 v0 rfl rfl) h0
  obtain ⟨P1, ps, k1, rfl, l1, hP⟩ := open_spans_arg (hval 1 48 v1 rfl rfl) h1
  obtain ⟨P2, zs, k2, rfl, l2, hZ⟩ := open_ints_arg (hval 2 26 v2 rfl rfl) h2
  obtain ⟨P3, ys, k3, rfl, _, hY⟩ := open_u32s_arg (hval 3 61 v3 rfl rfl) h3
  clear hA0 hval0
  simp only [List.append_nil, List.append_assoc] at hW'
  have hlt0 : ∀ x ∈ p0, x.block < W.heap.size := fun x hx => hW'.lt x (by simp [hx])
  have hlt1 : ∀ x ∈ p1, x.block < W.heap.size := fun x hx => hW'.lt x (by simp [hx])
  have hlt2 : ∀ x ∈ p2, x.block < W.heap.size := fun x hx => hW'.lt x (by simp [hx])
  have hlt3 : ∀ x ∈ p3, x.block < W.heap.size := fun x hx => hW'.lt x (by simp [hx])
  refine (clumpTrue_law g ps zs ys A1 c1 A2 c2 P1 k1 P2 k2 P3 k3 W hG hP hZ hY (by simp only [maxLen] at l1; omega) (by simp only [maxLen] at l2; omega)).mono fun e W' ⟨he, hB⟩ => ?_
  subst he
  refine ⟨_, rfl, _, _, _, [], p0 ++ (p1 ++ (p2 ++ p3)), [], hW', ?_, ?_, rfl, hB.frame _, fun h => by cases h⟩
  · exact trodAll_mk1 (shut_bool Try.underlying4 true)
  · exact trodAll_mk4 (Below.trod Try.laidOut (by kernel_rfl) (of_decide_eq_true (by kernel_rfl)) h0 hB hlt0) (Below.trod Try.laidOut (by kernel_rfl) (of_decide_eq_true (by kernel_rfl)) h1 hB hlt1) (Below.trod Try.laidOut (by kernel_rfl) (of_decide_eq_true (by kernel_rfl)) h2 hB hlt2) (Below.trod Try.laidOut (by kernel_rfl) (of_decide_eq_true (by kernel_rfl)) h3 hB hlt3)

theorem clumpTrue : Rows.ClumpTrueSaid :=
  OpenClaim.holds_of_wide 6 Try.f6 rfl rfl rfl rfl rfl rfl rfl ⟨rfl, rfl, rfl, rfl, rfl⟩ rfl rfl rfl rfl rfl (by kernel_rfl) Try.func6 (by kernel_rfl)
    (of_decide_eq_true (by kernel_rfl)) (by unfold Func.isWrapper; rw [if_neg (by decide +kernel)]; exact ⟨rfl, rfl⟩)
    (fun os started H enc _ => clumpTrue_lifted os started H enc)

end Go.Proofs.Ytkjdapgkojfbmaa

