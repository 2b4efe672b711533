/-
  The chapter's examples of the statements: alive.
-/
import Derived.Test.YtfampdiompjmeaaCeV
import Derived.Test.YtfampdiompjmeaaCeP
namespace Go.Proofs.Ytfampdiompjmeaa
open Go.RowKit Go.Shelf

theorem span4_any (x y : Int) (w : World) :
    Calls Try.prog 21 #[.int .i64 x, .int .i64 y] w fun e w' => e = .returned (.agg #[.int .i64 x, .int .i64 y]) ∧ Below w.heap.size w w' := by
  go_enter Try.func21, Try.ntmps21
  go_wp2
  refine bodyPost_ret (v := .agg #[.int .i64 x, .int .i64 y]) (by simp [results, Try.results21, go_sem]) rfl ⟨rfl, ?_⟩
  exact (Below.refl _ _).alloc (Nat.le_refl _) _

/-- The batch of the chapter's examples. -/
def bt0 (lo hi : Int) : Bt := ⟨10, 1000, lo, hi, 20⟩
def sl0 (a : Nat) : List Sl := [⟨some ⟨a, 0, none⟩, 2, [0, 0]⟩]
theorem short0 (a : Nat) : shortL (sl0 a) := ⟨by simp [sl0], fun s hs => by simp [sl0] at hs; subst hs; simp⟩

set_option maxRecDepth 100000 in
theorem batch0_any (lo hi : Int) (w : World) :
    Calls Try.prog 16 #[.int .i64 lo, .int .i64 hi] w fun e w' => ∃ a b, e = .returned (.agg (btcells (bt0 lo hi) (.slice (some ⟨b, 0, none⟩) 1 1))) ∧ Rows w' w'.heap.size (some ⟨b, 0, none⟩) (sl0 a) ∧ Below w.heap.size w w' := by
  go_enter Try.func16, Try.ntmps16
  go_wp2_with (first
    | (go_at_call 21; refine (span4_any _ _ _).mono ?_; rintro e w1 ⟨rfl, hB1⟩
       have hs1 := hB1.size
       simp only [World.size_alloc] at hs1
       have h0 := (hB1.block w.heap.size (by simp; omega)).trans (alloc3_at0 w _ _ _)
       have h1 := (hB1.block (w.heap.size + 1) (by simp)).trans (alloc3_at1 w _ _ _)
       have h2 := (hB1.block (w.heap.size + 1 + 1) (by simp)).trans (alloc3_at2 w _ _ _)
       have hb := ((((Below.refl w.heap.size w).alloc (Nat.le_refl _) _).alloc (by simp) _).alloc (by simp; omega) _).trans (hB1.mono (by simp; omega))
       have H1 := Lib.hid (And.intro hb (And.intro h0 (And.intro h1 h2)))
       clear hB1 h0 h1 h2 hb)
    | (show wpList _ _ _ (Oper.mk none (Op.store _ (Operand.tmp 4) (Operand.tmp 10)) _ _ _ _ :: _) _ _
       refine wpList_store_blk 28 (.tmp 4) (.tmp 10) (cs := (btcells (bt0 lo hi) (.slice (some ⟨w.heap.size + 1 + 1, 0, none⟩) 1 1)).toList) (L := [.int .i64 0, .int .i64 0, .slice none 0 0, .int .i64 0, .int .i64 0, .int .i64 0]) rfl rfl rfl rfl rfl H1.out.2.1 (by simp [btcells]) (by intro v hv; simp [btcells] at hv; rcases hv with rfl | rfl | rfl | rfl | rfl | rfl <;> rfl) rowApiBatch ?_
       intro w2 hP2 hM2
       rw [splice_all (by simp [btcells])] at hM2
       have h3 := (hP2.other (w.heap.size + 1) (by omega)).trans H1.out.2.2.1
       have h4 := (hP2.other (w.heap.size + 1 + 1) (by omega)).trans H1.out.2.2.2
       have H2 := Lib.hid (And.intro (H1.out.1.trans (hP2.below (B := w.heap.size) (Nat.le_refl _))) (And.intro h3 (And.intro h4 hM2)))
       clear hP2 hM2 h3 h4))
  have hres : ∀ i, w2.cell? ⟨w.heap.size, i, none⟩ = _ := fun i => cell_of_row w2 w.heap.size i _ _ _ H2.out.2.2.2
  simp only [btcells, bt0] at hres
  refine bodyPost_ret (v := .agg (btcells (bt0 lo hi) (.slice (some ⟨w.heap.size + 1 + 1, 0, none⟩) 1 1))) (by simp [results, Try.results16, go_sem, hres, btcells, bt0]) rfl ⟨w.heap.size + 1, w.heap.size + 1 + 1, rfl, ⟨?_, ?_⟩, H2.out.1⟩
  · exact vals_in (L := [.slice (some ⟨w.heap.size + 1, 0, none⟩) 2 2]) H2.out.2.2.1 (lt_of_heap H2.out.2.2.1) at0
  · intro s hs
    simp only [sl0, List.mem_singleton] at hs
    subst hs
    exact (vals_in (L := ints [0, 0]) H2.out.2.1 (lt_of_heap H2.out.2.1) at0).ints

set_option maxRecDepth 100000 in
set_option maxHeartbeats 4000000 in
theorem holds_any (h n f c : Int) (hE : runE (bt0 200 200) [[0, 0]] 200 h = 0) (hN : runB (bt0 200 200) [[0, 0]] 200 h = n) (hR : runR (bt0 200 200) [[0, 0]] 200 h = [[f, c]]) (w : World) :
    Calls Try.prog 15 #[.int .i64 h, .int .i64 n, .int .i64 f, .int .i64 c] w fun e w' => e = .returned (.bool true) ∧ Below w.heap.size w w' := by
  have hrun := fun a b W (hz : Rows W W.heap.size (some ⟨b, 0, none⟩) (sl0 a)) => run_any (bt0 200 200) (some ⟨b, 0, none⟩) 1 (sl0 a) 200 h W.heap.size W (Nat.le_refl _) hz (short0 a)
  have hrw : ∀ a, rws (sl0 a) = [[0, 0]] := fun a => rfl
  simp only [hrw] at hrun
  unfold RunPost at hrun
  simp only [hE, hN, hR] at hrun
  have HRUN := Lib.hid hrun
  clear hrun hE hN hR hrw
  have hq : ∀ W : World, Rows ((W.alloc (.cells #[.int .i64 f, .int .i64 c] 3)).alloc (.cells #[.slice (some ⟨W.heap.size, 0, none⟩) 2 2] 47)) ((W.alloc (.cells #[.int .i64 f, .int .i64 c] 3)).alloc (.cells #[.slice (some ⟨W.heap.size, 0, none⟩) 2 2] 47)).heap.size (some ⟨W.heap.size + 1, 0, none⟩) [⟨some ⟨W.heap.size, 0, none⟩, 2, [f, c]⟩] := fun W => by
    refine ⟨vals_in (L := [.slice (some ⟨W.heap.size, 0, none⟩) 2 2]) (alloc2_at1 W _ _) (lt_of_heap (alloc2_at1 W _ _)) at0, fun s hs => ?_⟩
    simp only [List.mem_singleton] at hs
    subst hs
    exact (vals_in (L := ints [f, c]) (alloc2_at0 W _ _) (lt_of_heap (alloc2_at0 W _ _)) at0).ints
  have HQ := Lib.hid hq
  clear hq
  unfold btcells at HRUN
  go_enter Try.func15, Try.ntmps15
  go_wp2_with (first
    | (go_at_call 16; refine (batch0_any _ _ _).mono ?_; rintro e w1 ⟨a, b, rfl, hR1, hB1⟩
       unfold btcells
       have H1 := Lib.hid (And.intro hB1 hR1)
       clear hB1 hR1)
    | (go_at_call 17; refine (HRUN.out a b w1 H1.out.2).mono ?_; rintro e w2 ⟨A2, c2, ls, rfl, hr2, hO2, hB2⟩
       have hl1 : ls.length = 1 := by have := congrArg List.length hr2; simpa [rws] using this
       have hs2 : smallL ls := ⟨by omega, fun s hs => by
         have hm : s.zs ∈ rws ls := by simp only [rws, List.mem_map]; exact ⟨s, hs, rfl⟩
         rw [hr2] at hm
         simp only [List.mem_singleton] at hm
         rw [hm]; simp⟩
       have H2 := Lib.hid (And.intro (H1.out.1.trans (hB2.mono H1.out.1.size)) (And.intro hr2 (And.intro hO2 hs2)))
       clear hr2 hO2 hB2 hs2 hl1)
    | (go_at_call 28; refine (sameCells_any A2 (some ⟨w2.heap.size + 1, 0, none⟩) c2 1 ls [⟨some ⟨w2.heap.size, 0, none⟩, 2, [f, c]⟩] _ _ (Nat.le_refl _) (H2.out.2.2.1.grows (grow2 w2 _ _)).rows (HQ.out w2) H2.out.2.1 H2.out.2.2.2).mono ?_; rintro e w3 ⟨rfl, hB3⟩
       have H3 := Lib.hid ((H2.out.1.trans ((grow2 w2 _ _).mono H2.out.1.size)).trans (hB3.mono (by have := H2.out.1.size; simp; omega)))
       clear hB3))
  go_ret
  exact ⟨rfl, H3.out⟩

set_option maxRecDepth 100000 in
set_option maxHeartbeats 4000000 in
theorem treated4_any (h k : Int) (hE : treatE (bt0 249 250) [[0, 0]] h = 0) (hK : treatL (bt0 249 250) [[0, 0]] h = [k]) (w : World) :
    Calls Try.prog 44 #[.int .i64 h, .int .u8 k] w fun e w' => e = .returned (.bool true) ∧ Below w.heap.size w w' := by
  have hrun := fun a b W (hz : Rows W W.heap.size (some ⟨b, 0, none⟩) (sl0 a)) => cureTreated_any (bt0 249 250) (some ⟨b, 0, none⟩) 1 (sl0 a) h W.heap.size W (Nat.le_refl _) hz (short0 a)
  have hrw : ∀ a, rws (sl0 a) = [[0, 0]] := fun a => rfl
  simp only [hrw] at hrun
  unfold TrePost at hrun
  simp only [hE, hK] at hrun
  have HRUN := Lib.hid hrun
  clear hrun hE hK hrw
  unfold btcells at HRUN
  go_enter Try.func44, Try.ntmps44
  go_wp2_with (first
    | (go_at_call 16; refine (batch0_any _ _ _).mono ?_; rintro e w1 ⟨a, b, rfl, hR1, hB1⟩
       unfold btcells
       have H1 := Lib.hid (And.intro hB1 hR1)
       clear hB1 hR1)
    | (go_at_call 18; refine (HRUN.out a b w1 H1.out.2).mono ?_; rintro e w2 ⟨A2, c2, rfl, hO2, hB2⟩
       obtain ⟨g2, o2, rfl, hg2, hc2⟩ := Vals.own hO2 (by simp [u8s])
       have hcx : w2.cell? ⟨g2, o2, none⟩ = some (.int .u8 k) := hc2 0 _ rfl
       have H2 := Lib.hid (H1.out.1.trans (hB2.mono H1.out.1.size))
       clear hO2 hB2 hc2 hg2))
  go_ret
  exact ⟨rfl, H2.out⟩

theorem ex_run2 : runE (bt0 200 200) [[0, 0]] 200 2 = 0 ∧ runB (bt0 200 200) [[0, 0]] 200 2 = 965 ∧ runR (bt0 200 200) [[0, 0]] 200 2 = [[31, 4]] := by decide +kernel
theorem ex_run5 : runE (bt0 200 200) [[0, 0]] 200 5 = 0 ∧ runB (bt0 200 200) [[0, 0]] 200 5 = 931 ∧ runR (bt0 200 200) [[0, 0]] 200 5 = [[49, 20]] := by decide +kernel
theorem ex_tre3 : treatE (bt0 249 250) [[0, 0]] 3 = 0 ∧ treatL (bt0 249 250) [[0, 0]] 3 = [0] := by decide +kernel
theorem ex_tre4 : treatE (bt0 249 250) [[0, 0]] 4 = 0 ∧ treatL (bt0 249 250) [[0, 0]] 4 = [1] := by decide +kernel
theorem ex_tre5 : treatE (bt0 249 250) [[0, 0]] 5 = 0 ∧ treatL (bt0 249 250) [[0, 0]] 5 = [2] := by decide +kernel
theorem ex_ready : readyE (bt0 249 250) [[0, 0]] = 0 ∧ readyV (bt0 249 250) [[0, 0]] = 5 := by decide +kernel
theorem ex_dry : dryV ⟨800, 1000, 100, 200, 600⟩ = 5 ∧ dryE ⟨800, 1000, 100, 200, 600⟩ = 0 := by decide +kernel
theorem ex_lev : levsV ⟨300, 500, 200⟩ [150, 100, 0] = [(150, 150), (175, 205), (88, 144)] ∧ levsF ⟨300, 500, 200⟩ [150, 100, 0] = 1 ∧ levsE ⟨300, 500, 200⟩ [150, 100, 0] = 0 := by decide +kernel

structure Al4 (w : World) (A : Option Addr) (ps : List (Int × Int)) (W : World) : Prop where
  bel : Below w.heap.size w W
  v : Vals W W.heap.size A (pairs ps)
theorem Al4.next {w W W' : World} {A : Option Addr} {ps : List (Int × Int)} (h : Al4 w A ps W) (hB : Grows W W') : Al4 w A ps W' := ⟨h.bel.trans (hB.mono h.bel.size), (h.v.below hB).mono hB.size⟩

set_option maxRecDepth 100000 in
set_option maxHeartbeats 8000000 in
theorem alive_any (w : World) : Calls Try.prog 14 #[] w fun e w' => e = .returned (.bool true) ∧ Below w.heap.size w w' := by
  have hrd : ∀ a b W (_ : Rows W W.heap.size (some ⟨b, 0, none⟩) (sl0 a)), Calls Try.prog 19 #[.agg #[.int .i64 10, .int .i64 1000, .slice (some ⟨b, 0, none⟩) 1 1, .int .i64 249, .int .i64 250, .int .i64 20]] W fun e w' => e = .returned (.tuple #[.int .i64 5, .int .i64 0]) ∧ Below W.heap.size W w' := fun a b W hz => by
    have := cureReady_any (bt0 249 250) (some ⟨b, 0, none⟩) 1 (sl0 a) W.heap.size W (Nat.le_refl _) hz (short0 a)
    unfold RedPost at this
    rw [show rws (sl0 a) = [[0, 0]] from rfl, ex_ready.1, ex_ready.2] at this
    exact this
  have hdr : ∀ W, Calls Try.prog 20 #[.agg #[.int .i64 800, .int .i64 1000, .int .i64 100, .int .i64 200, .int .i64 600]] W fun e w' => e = .returned (.tuple #[.int .i64 5, .int .i64 0]) ∧ Below W.heap.size W w' := fun W => by
    have := dry_any ⟨800, 1000, 100, 200, 600⟩ W
    rw [ex_dry.1, ex_dry.2] at this
    exact this
  have hlv : ∀ g W, Ints W W.heap.size (some ⟨g, 0, none⟩) [150, 100, 0] → Calls Try.prog 22 #[.agg #[.int .i64 300, .int .i64 500, .int .i64 200], .slice (some ⟨g, 0, none⟩) 3 3] W fun e w' =>
      ∃ A c, e = .returned (.tuple #[.slice A 3 c, .int .i64 1, .int .i64 0]) ∧ Vals w' w'.heap.size A (pairs [(150, 150), (175, 205), (88, 144)]) ∧ Below W.heap.size W w' := fun g W hI => by
    have := levels_any ⟨300, 500, 200⟩ [150, 100, 0] (some ⟨g, 0, none⟩) 3 W.heap.size W (Nat.le_refl _) hI (by decide)
    unfold LevsPost at this
    rw [ex_lev.1, ex_lev.2.1, ex_lev.2.2] at this
    exact this
  have HC := Lib.hid (And.intro hrd (And.intro hdr hlv))
  clear hrd hdr hlv
  go_enter Try.func14, Try.ntmps14
  go_wp2_with (first
    | (go_at_call 34; refine (sameSpans_any _ _ _ 3 [(150, 150), (175, 205), (88, 144)] [(150, 150), (175, 205), (88, 144)] _ (w14.alloc (.cells #[.int .i64 150, .int .i64 150, .int .i64 175, .int .i64 205, .int .i64 88, .int .i64 144] 26)) (A14.out.next (grow1 _ _)).v (vals_in (alloc_at0 w14 _) (lt_of_heap (alloc_at0 w14 _)) at0) (by decide) (by decide)).mono ?_; rintro e w15 ⟨rfl, hB15⟩
       rw [decide_eq_true rfl]
       have A15 := Lib.hid ((A14.out.next (grow1 _ _)).next hB15)
       clear hB15)
    | (go_at_call 21; refine (span4_any _ _ w13).mono ?_; rintro e w14 ⟨rfl, hB14⟩; have A14 := Lib.hid (A13.out.next hB14); clear hB14)
    | (go_at_call 21; refine (span4_any _ _ w12).mono ?_; rintro e w13 ⟨rfl, hB13⟩; have A13 := Lib.hid (A12.out.next hB13); clear hB13)
    | (go_at_call 21; refine (span4_any _ _ w11).mono ?_; rintro e w12 ⟨rfl, hB12⟩; have A12 := Lib.hid (A11.out.next hB12); clear hB12)
    | (go_at_call 44; refine (treated4_any 5 2 ex_tre5.1 ex_tre5.2 w10).mono ?_; rintro e w11 ⟨rfl, hB11⟩; have A11 := Lib.hid (A10.out.next hB11); clear hB11)
    | (go_at_call 44; refine (treated4_any 4 1 ex_tre4.1 ex_tre4.2 w9).mono ?_; rintro e w10 ⟨rfl, hB10⟩; have A10 := Lib.hid (A9.out.next hB10); clear hB10)
    | (go_at_call 44; refine (treated4_any 3 0 ex_tre3.1 ex_tre3.2 w8).mono ?_; rintro e w9 ⟨rfl, hB9⟩; have A9 := Lib.hid (A8.out.next hB9); clear hB9)
    | (go_at_call 15; refine (holds_any 5 931 49 20 ex_run5.1 ex_run5.2.1 ex_run5.2.2 w7).mono ?_; rintro e w8 ⟨rfl, hB8⟩; have A8 := Lib.hid (A7.out.next hB8); clear hB8)
    | (go_at_call 15; refine (holds_any 2 965 31 4 ex_run2.1 ex_run2.2.1 ex_run2.2.2 w6).mono ?_; rintro e w7 ⟨rfl, hB7⟩; have A7 := Lib.hid (A6.out.next hB7); clear hB7)
    | (go_at_call 22; refine (HC.out.2.2 w5.heap.size (w5.alloc (.cells #[.int .i64 150, .int .i64 100, .int .i64 0] 3)) (vals_in (L := ints [150, 100, 0]) (alloc_at0 w5 _) (lt_of_heap (alloc_at0 w5 _)) at0).ints).mono ?_; rintro e w6 ⟨L6, c6, rfl, hV6, hB6⟩
       have A6 := Lib.hid (Al4.mk (A5.out.trans (((grow1 _ _).trans (hB6.mono (by simp))).mono A5.out.size)) hV6); clear hB6 hV6)
    | (go_at_call 21; refine (span4_any _ _ w4).mono ?_; rintro e w5 ⟨rfl, hB5⟩; have A5 := Lib.hid (A4.out.trans (hB5.mono A4.out.size)); clear hB5)
    | (go_at_call 20; refine (HC.out.2.1 w3).mono ?_; rintro e w4 ⟨rfl, hB4⟩; have A4 := Lib.hid (A3.out.trans (hB4.mono A3.out.size)); clear hB4)
    | (go_at_call 21; refine (span4_any _ _ w2b).mono ?_; rintro e w3 ⟨rfl, hB3⟩; have A3 := Lib.hid (A2b.out.trans (hB3.mono A2b.out.size)); clear hB3)
    | (go_at_call 21; refine (span4_any _ _ w2).mono ?_; rintro e w2b ⟨rfl, hB2b⟩; have A2b := Lib.hid (A2.out.trans (hB2b.mono A2.out.size)); clear hB2b)
    | (go_at_call 19; refine (HC.out.1 a1 b1 w1 A1.out.2).mono ?_; rintro e w2 ⟨rfl, hB2⟩; have A2 := Lib.hid (A1.out.1.trans (hB2.mono A1.out.1.size)); clear hB2)
    | (go_at_call 16; refine (batch0_any _ _ w).mono ?_; rintro e w1 ⟨a1, b1, rfl, hR1, hB1⟩
       unfold btcells bt0
       have A1 := Lib.hid (And.intro hB1 hR1)
       clear hR1 hB1))
  go_ret
  exact ⟨rfl, A15.out.bel⟩

end Go.Proofs.Ytfampdiompjmeaa
