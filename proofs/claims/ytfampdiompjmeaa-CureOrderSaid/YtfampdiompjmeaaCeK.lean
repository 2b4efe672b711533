/-
  Which batches are valid, and which are great (the reference's); what flows.
-/
import Derived.Test.YtfampdiompjmeaaCdI
import Derived.Test.YtfampdiompjmeaaCeJ
namespace Go.Proofs.Ytfampdiompjmeaa
open Go.RowKit Go.Shelf

attribute [local go_sem] gives

theorem refFlow_any (o c sp : Int) (h1 : 1 ≤ sp) (h2 : sp ≤ 250) (o0 : 0 ≤ o) (o1 : o ≤ 10000) (c0 : 0 ≤ c) (c1 : c ≤ 10000) (w : World) :
    Calls Try.prog 84 #[.int .i64 o, .int .i64 c, .int .i64 sp] w fun e w' => e = .returned (.int .i64 (fl sp o c)) ∧ w = w' := by
  by_cases h : c ≤ o
  · have p0 : 0 ≤ (o - c) * sp := Int.mul_nonneg (by omega) (by omega)
    have p1 : (o - c) * sp ≤ (o - c) * 250 := Int.mul_le_mul_of_nonneg_left h2 (by omega)
    have q0 : ((o - c) * sp).tdiv 1000 = (o - c) * sp / 1000 := Int.tdiv_eq_ediv_of_nonneg p0
    unfold fl
    rw [q0]
    clear q0
    go_enter Try.func84, Try.ntmps84
    go_wp2
    go_ret
    exact ⟨rfl, rfl⟩
  · have p0 : 0 ≤ (c - o) * sp := Int.mul_nonneg (by omega) (by omega)
    have p1 : (c - o) * sp ≤ (c - o) * 250 := Int.mul_le_mul_of_nonneg_left h2 (by omega)
    have q0 : ((c - o) * sp).tdiv 1000 = (c - o) * sp / 1000 := Int.tdiv_eq_ediv_of_nonneg p0
    have q1 : 0 ≤ ((c - o) * sp).tdiv 1000 := by rw [q0]; omega
    have q2 : ((c - o) * sp).tdiv 1000 ≤ 2500000 := by rw [q0]; omega
    have hn : fl sp o c = - ((c - o) * sp).tdiv 1000 := fl_neg sp o c
    rw [hn]
    clear q0 hn
    go_enter Try.func84, Try.ntmps84
    go_wp2
    go_ret
    exact ⟨rfl, rfl⟩

/-- A batch that is larger than the statements consider. -/
def greatB (l : List Sl) : Bool := decide (8 < l.length) || l.any fun s => decide (12 < s.zs.length)

set_option maxRecDepth 100000 in
set_option maxHeartbeats 4000000 in
theorem great_any (t : Bt) (A : Option Addr) (cap : Nat) (l : List Sl) (B : Nat) (w : World) (hB : B ≤ w.heap.size) (hz : Rows w B A l) (hl : l.length ≤ 9223372036854775807) :
    Calls Try.prog 24 #[.agg (btcells t (.slice A l.length cap))] w fun e w' => e = .returned (.bool (greatB l)) ∧ Below w.heap.size w w' := by
  unfold btcells
  have HZ := Lib.hid hz
  obtain ⟨w1, hw1⟩ : ∃ w1, w.alloc (.cells #[.int .i64 t.water, .int .i64 t.borax, .slice A l.length cap, .int .i64 t.lo, .int .i64 t.hi, .int .i64 t.need] 28) = w1 := ⟨_, rfl⟩
  have hbw : Below w.heap.size w w1 := by rw [← hw1]; exact grow1 _ _
  have hc1 := fun i => cell_of_row w1 w.heap.size i _ _ _ (show w1.heap[w.heap.size]? = some (.cells #[.int .i64 t.water, .int .i64 t.borax, .slice A l.length cap, .int .i64 t.lo, .int .i64 t.hi, .int .i64 t.need] 28 (0, 0)) by rw [← hw1]; exact alloc_at0 _ _)
  have HBW := Lib.hid hbw
  clear hbw hz
  by_cases h8 : 8 < l.length
  · have e : greatB l = true := by simp [greatB, h8]
    have h8z : (8 : Int) < l.length := by omega
    rw [e]
    clear e
    go_enter Try.func24, Try.ntmps24
    go_wp2
    go_ret
    exact ⟨rfl, HBW.out⟩
  · have e : greatB l = l.any fun s => decide (12 < s.zs.length) := by simp [greatB, h8]
    have h8z : ¬ (8 : Int) < l.length := by omega
    rw [e]
    clear e
    have hP : ∃ P : Sl → Bool, P = fun s => decide (12 < s.zs.length) := ⟨_, rfl⟩
    obtain ⟨P, hP⟩ := hP
    rw [← hP]
    have HPP := Lib.hid hP
    clear hP
    go_enter Try.func24, Try.ntmps24
    go_wp2
    go_loopg [3] l.length (fun gg s3 wx => ∃ k : Nat, k + gg = l.length ∧ s3 = .int .i64 k ∧ Hid ((l.drop k).any P = l.any P) ∧ wx = w1)
    case atStart => exact ⟨0, by omega, rfl, rfl, rfl⟩
    case round =>
      obtain ⟨k, hkg, rfl, hI, rfl⟩ := hrel
      cases gk with
      | zero =>
        obtain rfl : k = l.length := by omega
        go_wp2
        go_ret
        refine ⟨?_, HBW.out⟩
        rw [← hI.out, List.drop_length]
        rfl
      | succ gg =>
        have hk : k < l.length := by omega
        have hkz : (k : Int) < l.length := by omega
        obtain ⟨c, off, hA, hcB, hc⟩ := HZ.out.va (by rw [slvs_len]; omega)
        subst hA
        have hc0 : wr.cell? ⟨c, off + k, none⟩ = _ := (HBW.out.cell (p := ⟨c, off + k, none⟩) (by simp; omega)).trans (hc k _ (slvs_at l k hk))
        have hst : (l.drop k).any P = (P l[k] || (l.drop (k + 1)).any P) := by rw [List.drop_eq_getElem_cons hk]; rfl
        rw [hI.out] at hst
        have hpp := congrFun HPP.out l[k]
        generalize l[k] = y at hc0 hst hpp
        unfold slv at hc0
        have HST := Lib.hid hst
        clear hc hst
        by_cases hp : 12 < y.zs.length
        · have hpz : (12 : Int) < y.zs.length := by omega
          have e : P y = true := by rw [hpp]; simp [hp]
          have HE := Lib.hid e
          clear e hpp
          go_wp2
          go_ret
          exact ⟨by rw [HST.out, HE.out]; rfl, HBW.out⟩
        · have hpz : ¬ (12 : Int) < y.zs.length := by omega
          have e : P y = false := by rw [hpp]; simp [hp]
          have HE := Lib.hid e
          clear e hpp
          go_wp2
          go_roundg gg
          case measure => omega
          case rel => exact ⟨k + 1, by omega, by go_num, by rw [HST.out, HE.out]; rfl, rfl⟩

set_option maxRecDepth 100000 in
theorem refBatch_1 (t : Bt) (A : Option Addr) (cap : Nat) (l : List Sl) (w : World) (h1 : inR t.water 10 10000 = false) :
    Calls Try.prog 40 #[.agg (btcells t (.slice A l.length cap))] w fun e w' => e = .returned (.bool false) ∧ Below w.heap.size w w' := by
  unfold btcells
  obtain ⟨w1, hw1⟩ : ∃ w1, w.alloc (.cells #[.int .i64 t.water, .int .i64 t.borax, .slice A l.length cap, .int .i64 t.lo, .int .i64 t.hi, .int .i64 t.need] 28) = w1 := ⟨_, rfl⟩
  have hbw : Below w.heap.size w w1 := by rw [← hw1]; exact grow1 _ _
  have hs1 : w1.heap.size = w.heap.size + 1 := by rw [← hw1]; simp
  have hb1 : w1.heap[w.heap.size]? = some (.cells #[.int .i64 t.water, .int .i64 t.borax, .slice A l.length cap, .int .i64 t.lo, .int .i64 t.hi, .int .i64 t.need] 28 (0, 0)) := by rw [← hw1]; exact alloc_at0 _ _
  have hc1 := fun i => cell_of_row w1 w.heap.size i _ _ _ hb1
  have HBW := Lib.hid hbw
  clear hbw hb1 hs1
  have H1 := Lib.hid h1
  clear h1
  go_enter Try.func40, Try.ntmps40
  go_wp2_with (first
    | (go_at_call 61; (with_reducible show Calls _ _ #[.int _ t.water, _, _] _ _); refine (refWithin_any _ _ _ _).mono ?_; rintro e w2 ⟨rfl, rfl⟩; rw [H1.out]))
  go_ret
  exact ⟨rfl, HBW.out⟩

set_option maxRecDepth 100000 in
theorem refBatch_2 (t : Bt) (A : Option Addr) (cap : Nat) (l : List Sl) (w : World) (h1 : inR t.water 10 10000 = true) (h2 : inR t.borax 0 100000 = false) :
    Calls Try.prog 40 #[.agg (btcells t (.slice A l.length cap))] w fun e w' => e = .returned (.bool false) ∧ Below w.heap.size w w' := by
  unfold btcells
  obtain ⟨w1, hw1⟩ : ∃ w1, w.alloc (.cells #[.int .i64 t.water, .int .i64 t.borax, .slice A l.length cap, .int .i64 t.lo, .int .i64 t.hi, .int .i64 t.need] 28) = w1 := ⟨_, rfl⟩
  have hbw : Below w.heap.size w w1 := by rw [← hw1]; exact grow1 _ _
  have hs1 : w1.heap.size = w.heap.size + 1 := by rw [← hw1]; simp
  have hb1 : w1.heap[w.heap.size]? = some (.cells #[.int .i64 t.water, .int .i64 t.borax, .slice A l.length cap, .int .i64 t.lo, .int .i64 t.hi, .int .i64 t.need] 28 (0, 0)) := by rw [← hw1]; exact alloc_at0 _ _
  have hc1 := fun i => cell_of_row w1 w.heap.size i _ _ _ hb1
  have HBW := Lib.hid hbw
  clear hbw hb1 hs1
  have H1 := Lib.hid h1
  have H2 := Lib.hid h2
  clear h1 h2
  go_enter Try.func40, Try.ntmps40
  go_wp2_with (first
    | (go_at_call 61; (with_reducible show Calls _ _ #[.int _ t.water, _, _] _ _); refine (refWithin_any _ _ _ _).mono ?_; rintro e w2 ⟨rfl, rfl⟩; rw [H1.out])
    | (go_at_call 61; (with_reducible show Calls _ _ #[.int _ t.borax, _, _] _ _); refine (refWithin_any _ _ _ _).mono ?_; rintro e w2 ⟨rfl, rfl⟩; rw [H2.out]))
  go_ret
  exact ⟨rfl, HBW.out⟩

set_option maxRecDepth 100000 in
theorem refBatch_3 (t : Bt) (A : Option Addr) (cap : Nat) (l : List Sl) (w : World) (h1 : inR t.water 10 10000 = true) (h2 : inR t.borax 0 100000 = true) (h3 : inR (l.length : Int) 1 4 = false) :
    Calls Try.prog 40 #[.agg (btcells t (.slice A l.length cap))] w fun e w' => e = .returned (.bool false) ∧ Below w.heap.size w w' := by
  unfold btcells
  obtain ⟨w1, hw1⟩ : ∃ w1, w.alloc (.cells #[.int .i64 t.water, .int .i64 t.borax, .slice A l.length cap, .int .i64 t.lo, .int .i64 t.hi, .int .i64 t.need] 28) = w1 := ⟨_, rfl⟩
  have hbw : Below w.heap.size w w1 := by rw [← hw1]; exact grow1 _ _
  have hs1 : w1.heap.size = w.heap.size + 1 := by rw [← hw1]; simp
  have hb1 : w1.heap[w.heap.size]? = some (.cells #[.int .i64 t.water, .int .i64 t.borax, .slice A l.length cap, .int .i64 t.lo, .int .i64 t.hi, .int .i64 t.need] 28 (0, 0)) := by rw [← hw1]; exact alloc_at0 _ _
  have hc1 := fun i => cell_of_row w1 w.heap.size i _ _ _ hb1
  have HBW := Lib.hid hbw
  clear hbw hb1 hs1
  have H1 := Lib.hid h1
  have H2 := Lib.hid h2
  have H3 := Lib.hid h3
  clear h1 h2 h3
  go_enter Try.func40, Try.ntmps40
  go_wp2_with (first
    | (go_at_call 61; (with_reducible show Calls _ _ #[.int _ t.water, _, _] _ _); refine (refWithin_any _ _ _ _).mono ?_; rintro e w2 ⟨rfl, rfl⟩; rw [H1.out])
    | (go_at_call 61; (with_reducible show Calls _ _ #[.int _ t.borax, _, _] _ _); refine (refWithin_any _ _ _ _).mono ?_; rintro e w2 ⟨rfl, rfl⟩; rw [H2.out])
    | (go_at_call 61; (with_reducible show Calls _ _ #[.int _ (l.length : Int), _, _] _ _); refine (refWithin_any _ _ _ _).mono ?_; rintro e w2 ⟨rfl, rfl⟩; rw [H3.out]))
  go_ret
  exact ⟨rfl, HBW.out⟩

set_option maxRecDepth 100000 in
theorem refBatch_4 (t : Bt) (A : Option Addr) (cap : Nat) (l : List Sl) (w : World) (h1 : inR t.water 10 10000 = true) (h2 : inR t.borax 0 100000 = true) (h3 : inR (l.length : Int) 1 4 = true) (h4 : okS t.lo t.hi 1 250 = false) :
    Calls Try.prog 40 #[.agg (btcells t (.slice A l.length cap))] w fun e w' => e = .returned (.bool false) ∧ Below w.heap.size w w' := by
  unfold btcells
  obtain ⟨w1, hw1⟩ : ∃ w1, w.alloc (.cells #[.int .i64 t.water, .int .i64 t.borax, .slice A l.length cap, .int .i64 t.lo, .int .i64 t.hi, .int .i64 t.need] 28) = w1 := ⟨_, rfl⟩
  have hbw : Below w.heap.size w w1 := by rw [← hw1]; exact grow1 _ _
  have hs1 : w1.heap.size = w.heap.size + 1 := by rw [← hw1]; simp
  have hb1 : w1.heap[w.heap.size]? = some (.cells #[.int .i64 t.water, .int .i64 t.borax, .slice A l.length cap, .int .i64 t.lo, .int .i64 t.hi, .int .i64 t.need] 28 (0, 0)) := by rw [← hw1]; exact alloc_at0 _ _
  have hc1 := fun i => cell_of_row w1 w.heap.size i _ _ _ hb1
  have HBW := Lib.hid hbw
  have HB1 := Lib.hid hb1
  have HS1 := Lib.hid hs1
  clear hbw hb1 hs1
  have H1 := Lib.hid h1
  have H2 := Lib.hid h2
  have H3 := Lib.hid h3
  have H4 := Lib.hid h4
  clear h1 h2 h3 h4
  go_enter Try.func40, Try.ntmps40
  go_wp2_with (first
    | (go_at_call 61; (with_reducible show Calls _ _ #[.int _ t.water, _, _] _ _); refine (refWithin_any _ _ _ _).mono ?_; rintro e w2 ⟨rfl, rfl⟩; rw [H1.out])
    | (go_at_call 61; (with_reducible show Calls _ _ #[.int _ t.borax, _, _] _ _); refine (refWithin_any _ _ _ _).mono ?_; rintro e w2 ⟨rfl, rfl⟩; rw [H2.out])
    | (go_at_call 61; (with_reducible show Calls _ _ #[.int _ (l.length : Int), _, _] _ _); refine (refWithin_any _ _ _ _).mono ?_; rintro e w2 ⟨rfl, rfl⟩; rw [H3.out])
    | (go_at_call 64; refine (refSpanned_any _ _ _ _ _).mono ?_; rintro e w2 ⟨rfl, hB2⟩; rw [H4.out]; have B2 := Lib.hid (HBW.out.trans (hB2.mono HBW.out.size)); have hc2 := fun i => cell_of_row w2 w.heap.size i _ _ _ ((hB2.block _ (by have := HS1.out; omega)).trans HB1.out); clear hB2))
  go_ret
  exact ⟨rfl, B2.out⟩

set_option maxRecDepth 100000 in
theorem refBatch_5 (t : Bt) (A : Option Addr) (cap : Nat) (l : List Sl) (w : World) (h1 : inR t.water 10 10000 = true) (h2 : inR t.borax 0 100000 = true) (h3 : inR (l.length : Int) 1 4 = true) (h4 : okS t.lo t.hi 1 250 = true) (h5 : inR t.need 1 1000 = false) :
    Calls Try.prog 40 #[.agg (btcells t (.slice A l.length cap))] w fun e w' => e = .returned (.bool false) ∧ Below w.heap.size w w' := by
  unfold btcells
  obtain ⟨w1, hw1⟩ : ∃ w1, w.alloc (.cells #[.int .i64 t.water, .int .i64 t.borax, .slice A l.length cap, .int .i64 t.lo, .int .i64 t.hi, .int .i64 t.need] 28) = w1 := ⟨_, rfl⟩
  have hbw : Below w.heap.size w w1 := by rw [← hw1]; exact grow1 _ _
  have hs1 : w1.heap.size = w.heap.size + 1 := by rw [← hw1]; simp
  have hb1 : w1.heap[w.heap.size]? = some (.cells #[.int .i64 t.water, .int .i64 t.borax, .slice A l.length cap, .int .i64 t.lo, .int .i64 t.hi, .int .i64 t.need] 28 (0, 0)) := by rw [← hw1]; exact alloc_at0 _ _
  have hc1 := fun i => cell_of_row w1 w.heap.size i _ _ _ hb1
  have HBW := Lib.hid hbw
  have HB1 := Lib.hid hb1
  have HS1 := Lib.hid hs1
  clear hbw hb1 hs1
  have H1 := Lib.hid h1
  have H2 := Lib.hid h2
  have H3 := Lib.hid h3
  have H4 := Lib.hid h4
  have H5 := Lib.hid h5
  clear h1 h2 h3 h4 h5
  go_enter Try.func40, Try.ntmps40
  go_wp2_with (first
    | (go_at_call 61; (with_reducible show Calls _ _ #[.int _ t.water, _, _] _ _); refine (refWithin_any _ _ _ _).mono ?_; rintro e w2 ⟨rfl, rfl⟩; rw [H1.out])
    | (go_at_call 61; (with_reducible show Calls _ _ #[.int _ t.borax, _, _] _ _); refine (refWithin_any _ _ _ _).mono ?_; rintro e w2 ⟨rfl, rfl⟩; rw [H2.out])
    | (go_at_call 61; (with_reducible show Calls _ _ #[.int _ (l.length : Int), _, _] _ _); refine (refWithin_any _ _ _ _).mono ?_; rintro e w2 ⟨rfl, rfl⟩; rw [H3.out])
    | (go_at_call 64; refine (refSpanned_any _ _ _ _ _).mono ?_; rintro e w2 ⟨rfl, hB2⟩; rw [H4.out]; have B2 := Lib.hid (HBW.out.trans (hB2.mono HBW.out.size)); have hc2 := fun i => cell_of_row w2 w.heap.size i _ _ _ ((hB2.block _ (by have := HS1.out; omega)).trans HB1.out); clear hB2)
    | (go_at_call 61; (with_reducible show Calls _ _ #[.int _ t.need, _, _] _ _); refine (refWithin_any _ _ _ _).mono ?_; rintro e w2 ⟨rfl, rfl⟩; rw [H5.out]))
  go_ret
  exact ⟨rfl, B2.out⟩

theorem drop_all {α : Type} (P : α → Bool) (l : List α) (k : Nat) (hk : k < l.length) : (l.drop k).all P = (P l[k] && (l.drop (k + 1)).all P) := by rw [List.drop_eq_getElem_cons hk]; rfl

set_option maxRecDepth 100000 in
set_option maxHeartbeats 4000000 in
theorem refBatch_6 (t : Bt) (A : Option Addr) (cap : Nat) (l : List Sl) (B : Nat) (w : World) (hB : B ≤ w.heap.size) (hz : Rows w B A l) (hl : ∀ s ∈ l, s.zs.length ≤ 9223372036854775807) (h1 : inR t.water 10 10000 = true) (h2 : inR t.borax 0 100000 = true) (h3 : inR (l.length : Int) 1 4 = true) (h4 : okS t.lo t.hi 1 250 = true) (h5 : inR t.need 1 1000 = true) :
    Calls Try.prog 40 #[.agg (btcells t (.slice A l.length cap))] w fun e w' => e = .returned (.bool (l.all fun s => okPole s.zs)) ∧ Below w.heap.size w w' := by
  unfold btcells
  obtain ⟨w1, hw1⟩ : ∃ w1, w.alloc (.cells #[.int .i64 t.water, .int .i64 t.borax, .slice A l.length cap, .int .i64 t.lo, .int .i64 t.hi, .int .i64 t.need] 28) = w1 := ⟨_, rfl⟩
  have hbw : Below w.heap.size w w1 := by rw [← hw1]; exact grow1 _ _
  have hs1 : w1.heap.size = w.heap.size + 1 := by rw [← hw1]; simp
  have hb1 : w1.heap[w.heap.size]? = some (.cells #[.int .i64 t.water, .int .i64 t.borax, .slice A l.length cap, .int .i64 t.lo, .int .i64 t.hi, .int .i64 t.need] 28 (0, 0)) := by rw [← hw1]; exact alloc_at0 _ _
  have hc1 := fun i => cell_of_row w1 w.heap.size i _ _ _ hb1
  have HBW := Lib.hid hbw
  have HB1 := Lib.hid hb1
  have HS1 := Lib.hid hs1
  clear hbw hb1 hs1
  have H1 := Lib.hid h1
  have H2 := Lib.hid h2
  have H3 := Lib.hid h3
  have H4 := Lib.hid h4
  have H5 := Lib.hid h5
  have HZ := Lib.hid hz
  have HL := Lib.hid hl
  have hlz : l.length ≤ 4 := by have := inR_iff.1 h3; omega
  clear h1 h2 h3 h4 h5 hz hl
  obtain ⟨P, hP⟩ : ∃ P : Sl → Bool, P = fun s => okPole s.zs := ⟨_, rfl⟩
  rw [← hP]
  have HPP := Lib.hid hP
  clear hP
  go_enter Try.func40, Try.ntmps40
  go_wp2_with (first
    | (go_at_call 61; (with_reducible show Calls _ _ #[.int _ t.water, _, _] _ _); refine (refWithin_any _ _ _ _).mono ?_; rintro e w2 ⟨rfl, rfl⟩; rw [H1.out])
    | (go_at_call 61; (with_reducible show Calls _ _ #[.int _ t.borax, _, _] _ _); refine (refWithin_any _ _ _ _).mono ?_; rintro e w2 ⟨rfl, rfl⟩; rw [H2.out])
    | (go_at_call 61; (with_reducible show Calls _ _ #[.int _ (l.length : Int), _, _] _ _); refine (refWithin_any _ _ _ _).mono ?_; rintro e w2 ⟨rfl, rfl⟩; rw [H3.out])
    | (go_at_call 64; refine (refSpanned_any _ _ _ _ _).mono ?_; rintro e w2 ⟨rfl, hB2⟩; rw [H4.out]; have B2 := Lib.hid (HBW.out.trans (hB2.mono HBW.out.size)); have hc2 := fun i => cell_of_row w2 w.heap.size i _ _ _ ((hB2.block _ (by have := HS1.out; omega)).trans HB1.out); clear hB2)
    | (go_at_call 61; (with_reducible show Calls _ _ #[.int _ t.need, _, _] _ _); refine (refWithin_any _ _ _ _).mono ?_; rintro e w2 ⟨rfl, rfl⟩; rw [H5.out]))
  go_loopg [3] l.length (fun gg s3 wx => ∃ k : Nat, k + gg = l.length ∧ s3 = .int .i64 k ∧ Hid ((l.drop k).all P = l.all P) ∧ wx = w2)
  case atStart => exact ⟨0, by omega, rfl, rfl, rfl⟩
  case round =>
    obtain ⟨k, hkg, rfl, hI, rfl⟩ := hrel
    cases gk with
    | zero =>
      obtain rfl : k = l.length := by omega
      go_wp2
      go_ret
      refine ⟨?_, B2.out⟩
      rw [← hI.out, List.drop_length]
      rfl
    | succ gg =>
      have hk : k < l.length := by omega
      have hkz : (k : Int) < l.length := by omega
      obtain ⟨c, off, hA, hcB, hc⟩ := HZ.out.va (by rw [slvs_len]; omega)
      subst hA
      have hc0 : wr.cell? ⟨c, off + k, none⟩ = _ := (B2.out.cell (p := ⟨c, off + k, none⟩) (by simp; omega)).trans (hc k _ (slvs_at l k hk))
      have hst := drop_all P l k hk
      rw [hI.out] at hst
      have hpp := congrFun HPP.out l[k]
      have hin := (HZ.out.each _ (List.getElem_mem hk))
      have hyl := HL.out _ (List.getElem_mem hk)
      generalize l[k] = y at hc0 hst hpp hin hyl
      obtain ⟨yA, yc, ys⟩ := y
      unfold slv at hc0
      simp only at hc0 hpp hin hyl
      have HST := Lib.hid hst
      have HIN := Lib.hid hin
      have HCB := Lib.hid hcB
      clear hc hst hin hcB
      cases h16 : inR (ys.length : Int) 1 6 with
      | false =>
        have e : P ⟨yA, yc, ys⟩ = false := by rw [hpp]; simp [okPole, allB, h16]
        have HE := Lib.hid e
        have H16 := Lib.hid h16
        clear e hpp h16
        go_wp2_with (go_at_call 61; refine (refWithin_any _ _ _ _).mono ?_; rintro e w3 ⟨rfl, rfl⟩; rw [H16.out])
        go_ret
        exact ⟨by rw [HST.out, HE.out]; rfl, B2.out⟩
      | true =>
        have e : P ⟨yA, yc, ys⟩ = ys.all fun n => inR n 0 1000 := by rw [hpp]; simp [okPole, allB, h16]
        have hy6 := inR_iff.1 h16
        have HE := Lib.hid e
        have H16 := Lib.hid h16
        clear e hpp h16
        go_wp2_with (go_at_call 61; refine (refWithin_any _ _ _ _).mono ?_; rintro e w3 ⟨rfl, rfl⟩; rw [H16.out])
        obtain ⟨wo, rfl⟩ : ∃ wo : World, wo = wr := ⟨_, rfl⟩
        go_loopg [4] ys.length (fun gh s4 wx => ∃ j : Nat, j + gh = ys.length ∧ s4 = .int .i64 j ∧ Hid ((ys.drop j).all (fun n => inR n 0 1000) = ys.all fun n => inR n 0 1000) ∧ wx = wo)
        case atStart => exact ⟨0, by omega, rfl, rfl, rfl⟩
        case round =>
          obtain ⟨j, hjg, rfl, hJ, rfl⟩ := hrel
          cases gk with
          | zero =>
            obtain rfl : j = ys.length := by omega
            have hok : P ⟨yA, yc, ys⟩ = true := by rw [HE.out, ← hJ.out, List.drop_length]; rfl
            have HOK := Lib.hid hok
            clear hok
            go_wp2
            go_roundg gg
            case measure => omega
            case rel => exact ⟨k + 1, by omega, by go_num, by rw [HST.out, HOK.out]; rfl, rfl⟩
          | succ gh =>
            have hj : j < ys.length := by omega
            have hjz : (j : Int) < ys.length := by omega
            obtain ⟨d, o2, hA2, hdB, hd⟩ := HIN.out (by omega)
            subst hA2
            have hx := (B2.out.cell (p := ⟨d, o2 + j, none⟩) (by simp; omega)).trans (hd j hj)
            have hsj := drop_all (fun n => inR n 0 1000) ys j hj
            rw [hJ.out] at hsj
            have hg : ys[j]?.getD 0 = ys[j] := by simp [hj]
            rw [hg] at hx
            generalize ys[j] = x at hx hsj
            have HSJ := Lib.hid hsj
            clear hd hg hsj
            cases hp : inR x 0 1000 with
            | false =>
              have HP := Lib.hid hp
              clear hp
              go_wp2_with (go_at_call 61; refine (refWithin_any _ _ _ _).mono ?_; rintro e w3 ⟨rfl, rfl⟩; rw [HP.out])
              go_ret
              exact ⟨by rw [HST.out, HE.out, HSJ.out, HP.out]; rfl, B2.out⟩
            | true =>
              have HP := Lib.hid hp
              clear hp
              go_wp2_with (go_at_call 61; refine (refWithin_any _ _ _ _).mono ?_; rintro e w3 ⟨rfl, rfl⟩; rw [HP.out])
              go_roundg gh
              case measure => omega
              case rel => exact ⟨j + 1, by omega, by go_num, by rw [HSJ.out, HP.out]; rfl, rfl⟩

theorem refBatch_any (t : Bt) (A : Option Addr) (cap : Nat) (l : List Sl) (B : Nat) (w : World) (hB : B ≤ w.heap.size) (hz : Rows w B A l) (hl : ∀ s ∈ l, s.zs.length ≤ 9223372036854775807) :
    Calls Try.prog 40 #[.agg (btcells t (.slice A l.length cap))] w fun e w' => e = .returned (.bool (okBatch t (rws l))) ∧ Below w.heap.size w w' := by
  have hn : (rws l).length = l.length := by simp [rws]
  have ha : (rws l).all okPole = l.all fun s => okPole s.zs := by simp [rws, List.all_map, Function.comp_def]
  have hk : okBatch t (rws l) = (inR t.water 10 10000 && (inR t.borax 0 100000 && (inR (l.length : Int) 1 4 && (okS t.lo t.hi 1 250 && (inR t.need 1 1000 && l.all fun s => okPole s.zs))))) := by
    unfold okBatch okHead
    rw [hn, ha]
    simp only [allB, List.all_cons, List.all_nil, Bool.and_true]
    generalize inR t.water 10 10000 = a
    generalize inR t.borax 0 100000 = b
    generalize inR (l.length : Int) 1 4 = c
    generalize okS t.lo t.hi 1 250 = d
    generalize inR t.need 1 1000 = e
    generalize (l.all fun s => okPole s.zs) = f
    cases a <;> cases b <;> cases c <;> cases d <;> cases e <;> cases f <;> rfl
  rw [hk]
  cases h1 : inR t.water 10 10000 with
  | false => rw [Bool.false_and]; exact refBatch_1 t A cap l w h1
  | true =>
  rw [Bool.true_and]
  cases h2 : inR t.borax 0 100000 with
  | false => rw [Bool.false_and]; exact refBatch_2 t A cap l w h1 h2
  | true =>
  rw [Bool.true_and]
  cases h3 : inR (l.length : Int) 1 4 with
  | false => rw [Bool.false_and]; exact refBatch_3 t A cap l w h1 h2 h3
  | true =>
  rw [Bool.true_and]
  cases h4 : okS t.lo t.hi 1 250 with
  | false => rw [Bool.false_and]; exact refBatch_4 t A cap l w h1 h2 h3 h4
  | true =>
  rw [Bool.true_and]
  cases h5 : inR t.need 1 1000 with
  | false => rw [Bool.false_and]; exact refBatch_5 t A cap l w h1 h2 h3 h4 h5
  | true =>
  rw [Bool.true_and]
  exact refBatch_6 t A cap l B w hB hz hl h1 h2 h3 h4 h5

theorem refCheck_any (t : Bt) (A : Option Addr) (cap : Nat) (l : List Sl) (B : Nat) (w : World) (hB : B ≤ w.heap.size) (hz : Rows w B A l) (hl : ∀ s ∈ l, s.zs.length ≤ 9223372036854775807) :
    Calls Try.prog 27 #[.agg (btcells t (.slice A l.length cap))] w fun e w' => e = .returned (.int .i64 (checkE t (rws l))) ∧ Below w.heap.size w w' := by
  have H := fun W (h : Below w.heap.size w W) => refBatch_any t A cap l B W (Nat.le_trans hB h.size) (hz.below (h.mono hB)) hl
  unfold checkE
  unfold btcells at H ⊢
  cases h : okBatch t (rws l)
  all_goals
    rw [h] at H
    have HH := Lib.hid H
    clear H h hz hl
    go_enter Try.func27, Try.ntmps27
    go_wp2_with (go_at_call 40; refine (HH.out _ (grow1 w _)).mono ?_; rintro e w1 ⟨rfl, hB1⟩; have H1 := Lib.hid ((grow1 w _).trans (hB1.mono (by simp))); clear hB1)
    go_ret
    exact ⟨rfl, H1.out⟩

end Go.Proofs.Ytfampdiompjmeaa
