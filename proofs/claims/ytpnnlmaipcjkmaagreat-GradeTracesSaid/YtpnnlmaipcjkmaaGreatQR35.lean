/-
  The reference's hour.
-/
import Derived.Test.YtpnnlmaipcjkmaaGreatQR33
import Derived.Test.YtpnnlmaipcjkmaaGreatQR34
import Derived.Test.YtpnnlmaipcjkmaaGreatQR29
set_option linter.all false
namespace Go.Proofs.YtpnnlmaipcjkmaaGreat
open Go.RowKit Go.Shelf
open R6 (done done_ne done_me upd_ne upd_me)

attribute [local go_sem] gives

theorem allB_iff {lo hi n : Int} : allB lo hi [n] = true ↔ lo ≤ n ∧ n ≤ hi := by simp [allB, inR_iff]
theorem okPole_row {zs : List Int} (h : okPole zs = true) : okRow zs := by
  simp only [okPole, Bool.and_eq_true, allB_iff] at h
  obtain ⟨⟨h1, h2⟩, h3⟩ := h
  have hb : ∀ k, 0 ≤ atR zs k ∧ atR zs k ≤ 1000 := fun k => by
    by_cases hk : k < zs.length
    · have : zs[k] ∈ zs := List.getElem_mem hk
      have := (List.all_eq_true.1 h3) _ this
      rw [inR_iff] at this
      simp only [atR, List.getElem?_eq_getElem hk, Option.getD_some]
      exact this
    · rw [atR_out hk]; omega
  exact ⟨by omega, by omega, fun k => (hb k).1, fun k => by have := (hb k).2; omega⟩
theorem okBatch_good {t : Bt} {ws : List (List Int)} (h : okBatch t ws = true) : GoodS t.water (t.borax, ws) ∧ 1 ≤ t.lo ∧ t.lo ≤ t.hi ∧ t.hi ≤ 250 ∧ 1 ≤ ws.length ∧ 1 ≤ t.need ∧ t.need ≤ 1000 := by
  simp only [okBatch, okHead, Bool.and_eq_true, allB_iff, okS, decide_eq_true_eq] at h
  obtain ⟨⟨⟨⟨⟨h1, h2⟩, h3⟩, h4⟩, h5, h6⟩, h7⟩ := h
  have h6' : 1 ≤ t.lo ∧ t.hi ≤ 250 := by
    simp only [allB, List.all_cons, List.all_nil, Bool.and_true, Bool.and_eq_true, inR_iff] at h6
    omega
  refine ⟨⟨h1.1, h1.2, h2.1, ?_, ?_, fun r hr => okPole_row ((List.all_eq_true.1 h4) r hr)⟩, h6'.1, h5, h6'.2, by omega, h7.1, h7.2⟩
  · simp only
    have : t.borax / t.water < 10001 := by
      refine Int.ediv_lt_of_lt_mul (by omega) ?_
      have : 10001 * 10 ≤ 10001 * t.water := Int.mul_le_mul_of_nonneg_left h1.1 (by omega)
      omega
    omega
  · simp only; omega

theorem ownR_nil (W : World) (base : Nat) : OwnR W base (.slice none 0 0) [] := ⟨⟨rfl, .inl ⟨rfl, rfl⟩⟩, fun s hs => by cases hs⟩

section
variable {w W W' : World} {x : Nat} {V : List Value} {ws : List (List Int)} {kc tc : Nat} {D : Nat → Bool} {σ : Nat → Value}
end

end Go.Proofs.YtpnnlmaipcjkmaaGreat

namespace Go.Proofs.YtpnnlmaipcjkmaaGreat
open Go.RowKit Go.Shelf

attribute [local go_sem] gives

theorem refFlow_any (o c sp : Int) (h1 : 1 ≤ sp) (h2 : sp ≤ 250) (o0 : 0 ≤ o) (o1 : o ≤ 10000) (c0 : 0 ≤ c) (c1 : c ≤ 10000) (w : World) :
    Calls Tryz.prog 168 #[.int .i64 o, .int .i64 c, .int .i64 sp] w fun e w' => e = .returned (.int .i64 (fl sp o c)) ∧ w = w' := by
  by_cases h : c ≤ o
  · have p0 : 0 ≤ (o - c) * sp := Int.mul_nonneg (by omega) (by omega)
    have p1 : (o - c) * sp ≤ (o - c) * 250 := Int.mul_le_mul_of_nonneg_left h2 (by omega)
    have q0 : ((o - c) * sp).tdiv 1000 = (o - c) * sp / 1000 := Int.tdiv_eq_ediv_of_nonneg p0
    unfold fl
    rw [q0]
    clear q0
    go_enter Tryz.func168, Tryz.ntmps168
    go_wp2
    go_ret
    exact ⟨rfl, rfl⟩
  · have p0 : 0 ≤ (c - o) * sp := Int.mul_nonneg (by omega) (by omega)
    have p1 : (c - o) * sp ≤ (c - o) * 250 := Int.mul_le_mul_of_nonneg_left h2 (by omega)
    have q0 : ((c - o) * sp).tdiv 1000 = (c - o) * sp / 1000 := Int.tdiv_eq_ediv_of_nonneg p0
    have q1 : 0 ≤ ((c - o) * sp).tdiv 1000 := by rw [q0]; omega
    have q2 : ((c - o) * sp).tdiv 1000 ≤ 2500000 := by rw [q0]; omega
    have hn : fl sp o c = - ((c - o) * sp).tdiv 1000 := fl_neg sp o c
    rw [hn]
    clear q0 hn
    go_enter Tryz.func168, Tryz.ntmps168
    go_wp2
    go_ret
    exact ⟨rfl, rfl⟩

def greatB (l : List Sl) : Bool := decide (8 < l.length) || l.any fun s => decide (12 < s.zs.length)

set_option maxRecDepth 100000 in
set_option maxHeartbeats 4000000 in
theorem great_any (t : Bt) (A : Option Addr) (cap : Nat) (l : List Sl) (B : Nat) (w : World) (hB : B ≤ w.heap.size) (hz : Rows w B A l) (hl : l.length ≤ 9223372036854775807) :
    Calls Tryz.prog 43 #[.agg (btcells t (.slice A l.length cap))] w fun e w' => e = .returned (.bool (greatB l)) ∧ Below w.heap.size w w' := by
  unfold btcells
  have HZ := Lib.hid hz
  obtain ⟨w1, hw1⟩ : ∃ w1, w.alloc (.cells #[.int .i64 t.water, .int .i64 t.borax, .slice A l.length cap, .int .i64 t.lo, .int .i64 t.hi, .int .i64 t.need] 63) = w1 := ⟨_, rfl⟩
  have hbw : Below w.heap.size w w1 := by rw [← hw1]; exact grow1 _ _
  have hc1 := fun i => cell_of_row w1 w.heap.size i _ _ _ (show w1.heap[w.heap.size]? = some (.cells #[.int .i64 t.water, .int .i64 t.borax, .slice A l.length cap, .int .i64 t.lo, .int .i64 t.hi, .int .i64 t.need] 63 (0, 0)) by rw [← hw1]; exact alloc_at0 _ _)
  have HBW := Lib.hid hbw
  clear hbw hz
  by_cases h8 : 8 < l.length
  · have e : greatB l = true := by simp [greatB, h8]
    have h8z : (8 : Int) < l.length := by omega
    rw [e]
    clear e
    go_enter Tryz.func43, Tryz.ntmps43
    go_wp2
    go_ret
    exact ⟨rfl, HBW.out⟩
  · have e : greatB l = l.any fun s => decide (12 < s.zs.length) := by simp [greatB, h8]
    have h8z : ¬ (8 : Int) < l.length := by omega
    rw [e]
    clear e
    have hP : ∃ P : Sl → Bool, P = fun s => decide (12 < s.zs.length) := ⟨_, rfl⟩
    obtain ⟨P, hP⟩ := hP
    rw [← hP]
    have HPP := Lib.hid hP
    clear hP
    go_enter Tryz.func43, Tryz.ntmps43
    go_wp2
    go_loopg [3] l.length (fun gg s3 wx => ∃ k : Nat, k + gg = l.length ∧ s3 = .int .i64 k ∧ Hid ((l.drop k).any P = l.any P) ∧ wx = w1)
    case atStart => exact ⟨0, by omega, rfl, rfl, rfl⟩
    case round =>
      obtain ⟨k, hkg, rfl, hI, rfl⟩ := hrel
      cases gk with
      | zero =>
        obtain rfl : k = l.length := by omega
        go_wp2
        go_ret
        refine ⟨?_, HBW.out⟩
        rw [← hI.out, List.drop_length]
        rfl
      | succ gg =>
        have hk : k < l.length := by omega
        have hkz : (k : Int) < l.length := by omega
        obtain ⟨c, off, hA, hcB, hc⟩ := HZ.out.va (by rw [slvs_len]; omega)
        subst hA
        have hc0 : wr.cell? ⟨c, off + k, none⟩ = _ := (HBW.out.cell (p := ⟨c, off + k, none⟩) (by simp; omega)).trans (hc k _ (slvs_at l k hk))
        have hst : (l.drop k).any P = (P l[k] || (l.drop (k + 1)).any P) := by rw [List.drop_eq_getElem_cons hk]; rfl
        rw [hI.out] at hst
        have hpp := congrFun HPP.out l[k]
        generalize l[k] = y at hc0 hst hpp
        unfold slv at hc0
        have HST := Lib.hid hst
        clear hc hst
        by_cases hp : 12 < y.zs.length
        · have hpz : (12 : Int) < y.zs.length := by omega
          have e : P y = true := by rw [hpp]; simp [hp]
          have HE := Lib.hid e
          clear e hpp
          go_wp2
          go_ret
          exact ⟨by rw [HST.out, HE.out]; rfl, HBW.out⟩
        · have hpz : ¬ (12 : Int) < y.zs.length := by omega
          have e : P y = false := by rw [hpp]; simp [hp]
          have HE := Lib.hid e
          clear e hpp
          go_wp2
          go_roundg gg
          case measure => omega
          case rel => exact ⟨k + 1, by omega, by go_num, by rw [HST.out, HE.out]; rfl, rfl⟩

set_option maxRecDepth 100000 in
theorem refBatch_1 (t : Bt) (A : Option Addr) (cap : Nat) (l : List Sl) (w : World) (h1 : inR t.water 10 10000 = false) :
    Calls Tryz.prog 88 #[.agg (btcells t (.slice A l.length cap))] w fun e w' => e = .returned (.bool false) ∧ Below w.heap.size w w' := by
  unfold btcells
  obtain ⟨w1, hw1⟩ : ∃ w1, w.alloc (.cells #[.int .i64 t.water, .int .i64 t.borax, .slice A l.length cap, .int .i64 t.lo, .int .i64 t.hi, .int .i64 t.need] 63) = w1 := ⟨_, rfl⟩
  have hbw : Below w.heap.size w w1 := by rw [← hw1]; exact grow1 _ _
  have hs1 : w1.heap.size = w.heap.size + 1 := by rw [← hw1]; simp
  have hb1 : w1.heap[w.heap.size]? = some (.cells #[.int .i64 t.water, .int .i64 t.borax, .slice A l.length cap, .int .i64 t.lo, .int .i64 t.hi, .int .i64 t.need] 63 (0, 0)) := by rw [← hw1]; exact alloc_at0 _ _
  have hc1 := fun i => cell_of_row w1 w.heap.size i _ _ _ hb1
  have HBW := Lib.hid hbw
  clear hbw hb1 hs1
  have H1 := Lib.hid h1
  clear h1
  go_enter Tryz.func88, Tryz.ntmps88
  go_wp2_with (first
    | (go_at_call 89; (with_reducible show Calls _ _ #[.int _ t.water, _, _] _ _); refine (refWithin_any _ _ _ _).mono ?_; rintro e w2 ⟨rfl, rfl⟩; rw [H1.out]))
  go_ret
  exact ⟨rfl, HBW.out⟩

set_option maxRecDepth 100000 in
theorem refBatch_2 (t : Bt) (A : Option Addr) (cap : Nat) (l : List Sl) (w : World) (h1 : inR t.water 10 10000 = true) (h2 : inR t.borax 0 100000 = false) :
    Calls Tryz.prog 88 #[.agg (btcells t (.slice A l.length cap))] w fun e w' => e = .returned (.bool false) ∧ Below w.heap.size w w' := by
  unfold btcells
  obtain ⟨w1, hw1⟩ : ∃ w1, w.alloc (.cells #[.int .i64 t.water, .int .i64 t.borax, .slice A l.length cap, .int .i64 t.lo, .int .i64 t.hi, .int .i64 t.need] 63) = w1 := ⟨_, rfl⟩
  have hbw : Below w.heap.size w w1 := by rw [← hw1]; exact grow1 _ _
  have hs1 : w1.heap.size = w.heap.size + 1 := by rw [← hw1]; simp
  have hb1 : w1.heap[w.heap.size]? = some (.cells #[.int .i64 t.water, .int .i64 t.borax, .slice A l.length cap, .int .i64 t.lo, .int .i64 t.hi, .int .i64 t.need] 63 (0, 0)) := by rw [← hw1]; exact alloc_at0 _ _
  have hc1 := fun i => cell_of_row w1 w.heap.size i _ _ _ hb1
  have HBW := Lib.hid hbw
  clear hbw hb1 hs1
  have H1 := Lib.hid h1
  have H2 := Lib.hid h2
  clear h1 h2
  go_enter Tryz.func88, Tryz.ntmps88
  go_wp2_with (first
    | (go_at_call 89; (with_reducible show Calls _ _ #[.int _ t.water, _, _] _ _); refine (refWithin_any _ _ _ _).mono ?_; rintro e w2 ⟨rfl, rfl⟩; rw [H1.out])
    | (go_at_call 89; (with_reducible show Calls _ _ #[.int _ t.borax, _, _] _ _); refine (refWithin_any _ _ _ _).mono ?_; rintro e w2 ⟨rfl, rfl⟩; rw [H2.out]))
  go_ret
  exact ⟨rfl, HBW.out⟩

set_option maxRecDepth 100000 in
theorem refBatch_3 (t : Bt) (A : Option Addr) (cap : Nat) (l : List Sl) (w : World) (h1 : inR t.water 10 10000 = true) (h2 : inR t.borax 0 100000 = true) (h3 : inR (l.length : Int) 1 4 = false) :
    Calls Tryz.prog 88 #[.agg (btcells t (.slice A l.length cap))] w fun e w' => e = .returned (.bool false) ∧ Below w.heap.size w w' := by
  unfold btcells
  obtain ⟨w1, hw1⟩ : ∃ w1, w.alloc (.cells #[.int .i64 t.water, .int .i64 t.borax, .slice A l.length cap, .int .i64 t.lo, .int .i64 t.hi, .int .i64 t.need] 63) = w1 := ⟨_, rfl⟩
  have hbw : Below w.heap.size w w1 := by rw [← hw1]; exact grow1 _ _
  have hs1 : w1.heap.size = w.heap.size + 1 := by rw [← hw1]; simp
  have hb1 : w1.heap[w.heap.size]? = some (.cells #[.int .i64 t.water, .int .i64 t.borax, .slice A l.length cap, .int .i64 t.lo, .int .i64 t.hi, .int .i64 t.need] 63 (0, 0)) := by rw [← hw1]; exact alloc_at0 _ _
  have hc1 := fun i => cell_of_row w1 w.heap.size i _ _ _ hb1
  have HBW := Lib.hid hbw
  clear hbw hb1 hs1
  have H1 := Lib.hid h1
  have H2 := Lib.hid h2
  have H3 := Lib.hid h3
  clear h1 h2 h3
  go_enter Tryz.func88, Tryz.ntmps88
  go_wp2_with (first
    | (go_at_call 89; (with_reducible show Calls _ _ #[.int _ t.water, _, _] _ _); refine (refWithin_any _ _ _ _).mono ?_; rintro e w2 ⟨rfl, rfl⟩; rw [H1.out])
    | (go_at_call 89; (with_reducible show Calls _ _ #[.int _ t.borax, _, _] _ _); refine (refWithin_any _ _ _ _).mono ?_; rintro e w2 ⟨rfl, rfl⟩; rw [H2.out])
    | (go_at_call 89; (with_reducible show Calls _ _ #[.int _ (l.length : Int), _, _] _ _); refine (refWithin_any _ _ _ _).mono ?_; rintro e w2 ⟨rfl, rfl⟩; rw [H3.out]))
  go_ret
  exact ⟨rfl, HBW.out⟩

set_option maxRecDepth 100000 in
theorem refBatch_4 (t : Bt) (A : Option Addr) (cap : Nat) (l : List Sl) (w : World) (h1 : inR t.water 10 10000 = true) (h2 : inR t.borax 0 100000 = true) (h3 : inR (l.length : Int) 1 4 = true) (h4 : okS t.lo t.hi 1 250 = false) :
    Calls Tryz.prog 88 #[.agg (btcells t (.slice A l.length cap))] w fun e w' => e = .returned (.bool false) ∧ Below w.heap.size w w' := by
  unfold btcells
  obtain ⟨w1, hw1⟩ : ∃ w1, w.alloc (.cells #[.int .i64 t.water, .int .i64 t.borax, .slice A l.length cap, .int .i64 t.lo, .int .i64 t.hi, .int .i64 t.need] 63) = w1 := ⟨_, rfl⟩
  have hbw : Below w.heap.size w w1 := by rw [← hw1]; exact grow1 _ _
  have hs1 : w1.heap.size = w.heap.size + 1 := by rw [← hw1]; simp
  have hb1 : w1.heap[w.heap.size]? = some (.cells #[.int .i64 t.water, .int .i64 t.borax, .slice A l.length cap, .int .i64 t.lo, .int .i64 t.hi, .int .i64 t.need] 63 (0, 0)) := by rw [← hw1]; exact alloc_at0 _ _
  have hc1 := fun i => cell_of_row w1 w.heap.size i _ _ _ hb1
  have HBW := Lib.hid hbw
  have HB1 := Lib.hid hb1
  have HS1 := Lib.hid hs1
  clear hbw hb1 hs1
  have H1 := Lib.hid h1
  have H2 := Lib.hid h2
  have H3 := Lib.hid h3
  have H4 := Lib.hid h4
  clear h1 h2 h3 h4
  go_enter Tryz.func88, Tryz.ntmps88
  go_wp2_with (first
    | (go_at_call 89; (with_reducible show Calls _ _ #[.int _ t.water, _, _] _ _); refine (refWithin_any _ _ _ _).mono ?_; rintro e w2 ⟨rfl, rfl⟩; rw [H1.out])
    | (go_at_call 89; (with_reducible show Calls _ _ #[.int _ t.borax, _, _] _ _); refine (refWithin_any _ _ _ _).mono ?_; rintro e w2 ⟨rfl, rfl⟩; rw [H2.out])
    | (go_at_call 89; (with_reducible show Calls _ _ #[.int _ (l.length : Int), _, _] _ _); refine (refWithin_any _ _ _ _).mono ?_; rintro e w2 ⟨rfl, rfl⟩; rw [H3.out])
    | (go_at_call 132; refine (refSpanned_any _ _ _ _ _).mono ?_; rintro e w2 ⟨rfl, hB2⟩; rw [H4.out]; have B2 := Lib.hid (HBW.out.trans (hB2.mono HBW.out.size)); have hc2 := fun i => cell_of_row w2 w.heap.size i _ _ _ ((hB2.block _ (by have := HS1.out; omega)).trans HB1.out); clear hB2))
  go_ret
  exact ⟨rfl, B2.out⟩

set_option maxRecDepth 100000 in
theorem refBatch_5 (t : Bt) (A : Option Addr) (cap : Nat) (l : List Sl) (w : World) (h1 : inR t.water 10 10000 = true) (h2 : inR t.borax 0 100000 = true) (h3 : inR (l.length : Int) 1 4 = true) (h4 : okS t.lo t.hi 1 250 = true) (h5 : inR t.need 1 1000 = false) :
    Calls Tryz.prog 88 #[.agg (btcells t (.slice A l.length cap))] w fun e w' => e = .returned (.bool false) ∧ Below w.heap.size w w' := by
  unfold btcells
  obtain ⟨w1, hw1⟩ : ∃ w1, w.alloc (.cells #[.int .i64 t.water, .int .i64 t.borax, .slice A l.length cap, .int .i64 t.lo, .int .i64 t.hi, .int .i64 t.need] 63) = w1 := ⟨_, rfl⟩
  have hbw : Below w.heap.size w w1 := by rw [← hw1]; exact grow1 _ _
  have hs1 : w1.heap.size = w.heap.size + 1 := by rw [← hw1]; simp
  have hb1 : w1.heap[w.heap.size]? = some (.cells #[.int .i64 t.water, .int .i64 t.borax, .slice A l.length cap, .int .i64 t.lo, .int .i64 t.hi, .int .i64 t.need] 63 (0, 0)) := by rw [← hw1]; exact alloc_at0 _ _
  have hc1 := fun i => cell_of_row w1 w.heap.size i _ _ _ hb1
  have HBW := Lib.hid hbw
  have HB1 := Lib.hid hb1
  have HS1 := Lib.hid hs1
  clear hbw hb1 hs1
  have H1 := Lib.hid h1
  have H2 := Lib.hid h2
  have H3 := Lib.hid h3
  have H4 := Lib.hid h4
  have H5 := Lib.hid h5
  clear h1 h2 h3 h4 h5
  go_enter Tryz.func88, Tryz.ntmps88
  go_wp2_with (first
    | (go_at_call 89; (with_reducible show Calls _ _ #[.int _ t.water, _, _] _ _); refine (refWithin_any _ _ _ _).mono ?_; rintro e w2 ⟨rfl, rfl⟩; rw [H1.out])
    | (go_at_call 89; (with_reducible show Calls _ _ #[.int _ t.borax, _, _] _ _); refine (refWithin_any _ _ _ _).mono ?_; rintro e w2 ⟨rfl, rfl⟩; rw [H2.out])
    | (go_at_call 89; (with_reducible show Calls _ _ #[.int _ (l.length : Int), _, _] _ _); refine (refWithin_any _ _ _ _).mono ?_; rintro e w2 ⟨rfl, rfl⟩; rw [H3.out])
    | (go_at_call 132; refine (refSpanned_any _ _ _ _ _).mono ?_; rintro e w2 ⟨rfl, hB2⟩; rw [H4.out]; have B2 := Lib.hid (HBW.out.trans (hB2.mono HBW.out.size)); have hc2 := fun i => cell_of_row w2 w.heap.size i _ _ _ ((hB2.block _ (by have := HS1.out; omega)).trans HB1.out); clear hB2)
    | (go_at_call 89; (with_reducible show Calls _ _ #[.int _ t.need, _, _] _ _); refine (refWithin_any _ _ _ _).mono ?_; rintro e w2 ⟨rfl, rfl⟩; rw [H5.out]))
  go_ret
  exact ⟨rfl, B2.out⟩

theorem drop_all {α : Type} (P : α → Bool) (l : List α) (k : Nat) (hk : k < l.length) : (l.drop k).all P = (P l[k] && (l.drop (k + 1)).all P) := by rw [List.drop_eq_getElem_cons hk]; rfl

set_option maxRecDepth 100000 in
set_option maxHeartbeats 4000000 in
theorem refBatch_6 (t : Bt) (A : Option Addr) (cap : Nat) (l : List Sl) (B : Nat) (w : World) (hB : B ≤ w.heap.size) (hz : Rows w B A l) (hl : ∀ s ∈ l, s.zs.length ≤ 9223372036854775807) (h1 : inR t.water 10 10000 = true) (h2 : inR t.borax 0 100000 = true) (h3 : inR (l.length : Int) 1 4 = true) (h4 : okS t.lo t.hi 1 250 = true) (h5 : inR t.need 1 1000 = true) :
    Calls Tryz.prog 88 #[.agg (btcells t (.slice A l.length cap))] w fun e w' => e = .returned (.bool (l.all fun s => okPole s.zs)) ∧ Below w.heap.size w w' := by
  unfold btcells
  obtain ⟨w1, hw1⟩ : ∃ w1, w.alloc (.cells #[.int .i64 t.water, .int .i64 t.borax, .slice A l.length cap, .int .i64 t.lo, .int .i64 t.hi, .int .i64 t.need] 63) = w1 := ⟨_, rfl⟩
  have hbw : Below w.heap.size w w1 := by rw [← hw1]; exact grow1 _ _
  have hs1 : w1.heap.size = w.heap.size + 1 := by rw [← hw1]; simp
  have hb1 : w1.heap[w.heap.size]? = some (.cells #[.int .i64 t.water, .int .i64 t.borax, .slice A l.length cap, .int .i64 t.lo, .int .i64 t.hi, .int .i64 t.need] 63 (0, 0)) := by rw [← hw1]; exact alloc_at0 _ _
  have hc1 := fun i => cell_of_row w1 w.heap.size i _ _ _ hb1
  have HBW := Lib.hid hbw
  have HB1 := Lib.hid hb1
  have HS1 := Lib.hid hs1
  clear hbw hb1 hs1
  have H1 := Lib.hid h1
  have H2 := Lib.hid h2
  have H3 := Lib.hid h3
  have H4 := Lib.hid h4
  have H5 := Lib.hid h5
  have HZ := Lib.hid hz
  have HL := Lib.hid hl
  have hlz : l.length ≤ 4 := by have := inR_iff.1 h3; omega
  clear h1 h2 h3 h4 h5 hz hl
  obtain ⟨P, hP⟩ : ∃ P : Sl → Bool, P = fun s => okPole s.zs := ⟨_, rfl⟩
  rw [← hP]
  have HPP := Lib.hid hP
  clear hP
  go_enter Tryz.func88, Tryz.ntmps88
  go_wp2_with (first
    | (go_at_call 89; (with_reducible show Calls _ _ #[.int _ t.water, _, _] _ _); refine (refWithin_any _ _ _ _).mono ?_; rintro e w2 ⟨rfl, rfl⟩; rw [H1.out])
    | (go_at_call 89; (with_reducible show Calls _ _ #[.int _ t.borax, _, _] _ _); refine (refWithin_any _ _ _ _).mono ?_; rintro e w2 ⟨rfl, rfl⟩; rw [H2.out])
    | (go_at_call 89; (with_reducible show Calls _ _ #[.int _ (l.length : Int), _, _] _ _); refine (refWithin_any _ _ _ _).mono ?_; rintro e w2 ⟨rfl, rfl⟩; rw [H3.out])
    | (go_at_call 132; refine (refSpanned_any _ _ _ _ _).mono ?_; rintro e w2 ⟨rfl, hB2⟩; rw [H4.out]; have B2 := Lib.hid (HBW.out.trans (hB2.mono HBW.out.size)); have hc2 := fun i => cell_of_row w2 w.heap.size i _ _ _ ((hB2.block _ (by have := HS1.out; omega)).trans HB1.out); clear hB2)
    | (go_at_call 89; (with_reducible show Calls _ _ #[.int _ t.need, _, _] _ _); refine (refWithin_any _ _ _ _).mono ?_; rintro e w2 ⟨rfl, rfl⟩; rw [H5.out]))
  go_loopg [3] l.length (fun gg s3 wx => ∃ k : Nat, k + gg = l.length ∧ s3 = .int .i64 k ∧ Hid ((l.drop k).all P = l.all P) ∧ wx = w2)
  case atStart => exact ⟨0, by omega, rfl, rfl, rfl⟩
  case round =>
    obtain ⟨k, hkg, rfl, hI, rfl⟩ := hrel
    cases gk with
    | zero =>
      obtain rfl : k = l.length := by omega
      go_wp2
      go_ret
      refine ⟨?_, B2.out⟩
      rw [← hI.out, List.drop_length]
      rfl
    | succ gg =>
      have hk : k < l.length := by omega
      have hkz : (k : Int) < l.length := by omega
      obtain ⟨c, off, hA, hcB, hc⟩ := HZ.out.va (by rw [slvs_len]; omega)
      subst hA
      have hc0 : wr.cell? ⟨c, off + k, none⟩ = _ := (B2.out.cell (p := ⟨c, off + k, none⟩) (by simp; omega)).trans (hc k _ (slvs_at l k hk))
      have hst := drop_all P l k hk
      rw [hI.out] at hst
      have hpp := congrFun HPP.out l[k]
      have hin := (HZ.out.each _ (List.getElem_mem hk))
      have hyl := HL.out _ (List.getElem_mem hk)
      generalize l[k] = y at hc0 hst hpp hin hyl
      obtain ⟨yA, yc, ys⟩ := y
      unfold slv at hc0
      simp only at hc0 hpp hin hyl
      have HST := Lib.hid hst
      have HIN := Lib.hid hin
      have HCB := Lib.hid hcB
      clear hc hst hin hcB
      cases h16 : inR (ys.length : Int) 1 6 with
      | false =>
        have e : P ⟨yA, yc, ys⟩ = false := by rw [hpp]; simp [okPole, allB, h16]
        have HE := Lib.hid e
        have H16 := Lib.hid h16
        clear e hpp h16
        go_wp2_with (go_at_call 89; refine (refWithin_any _ _ _ _).mono ?_; rintro e w3 ⟨rfl, rfl⟩; rw [H16.out])
        go_ret
        exact ⟨by rw [HST.out, HE.out]; rfl, B2.out⟩
      | true =>
        have e : P ⟨yA, yc, ys⟩ = ys.all fun n => inR n 0 1000 := by rw [hpp]; simp [okPole, allB, h16]
        have hy6 := inR_iff.1 h16
        have HE := Lib.hid e
        have H16 := Lib.hid h16
        clear e hpp h16
        go_wp2_with (go_at_call 89; refine (refWithin_any _ _ _ _).mono ?_; rintro e w3 ⟨rfl, rfl⟩; rw [H16.out])
        obtain ⟨wo, rfl⟩ : ∃ wo : World, wo = wr := ⟨_, rfl⟩
        go_loopg [4] ys.length (fun gh s4 wx => ∃ j : Nat, j + gh = ys.length ∧ s4 = .int .i64 j ∧ Hid ((ys.drop j).all (fun n => inR n 0 1000) = ys.all fun n => inR n 0 1000) ∧ wx = wo)
        case atStart => exact ⟨0, by omega, rfl, rfl, rfl⟩
        case round =>
          obtain ⟨j, hjg, rfl, hJ, rfl⟩ := hrel
          cases gk with
          | zero =>
            obtain rfl : j = ys.length := by omega
            have hok : P ⟨yA, yc, ys⟩ = true := by rw [HE.out, ← hJ.out, List.drop_length]; rfl
            have HOK := Lib.hid hok
            clear hok
            go_wp2
            go_roundg gg
            case measure => omega
            case rel => exact ⟨k + 1, by omega, by go_num, by rw [HST.out, HOK.out]; rfl, rfl⟩
          | succ gh =>
            have hj : j < ys.length := by omega
            have hjz : (j : Int) < ys.length := by omega
            obtain ⟨d, o2, hA2, hdB, hd⟩ := HIN.out (by omega)
            subst hA2
            have hx := (B2.out.cell (p := ⟨d, o2 + j, none⟩) (by simp; omega)).trans (hd j hj)
            have hsj := drop_all (fun n => inR n 0 1000) ys j hj
            rw [hJ.out] at hsj
            have hg : ys[j]?.getD 0 = ys[j] := by simp [hj]
            rw [hg] at hx
            generalize ys[j] = x at hx hsj
            have HSJ := Lib.hid hsj
            clear hd hg hsj
            cases hp : inR x 0 1000 with
            | false =>
              have HP := Lib.hid hp
              clear hp
              go_wp2_with (go_at_call 89; refine (refWithin_any _ _ _ _).mono ?_; rintro e w3 ⟨rfl, rfl⟩; rw [HP.out])
              go_ret
              exact ⟨by rw [HST.out, HE.out, HSJ.out, HP.out]; rfl, B2.out⟩
            | true =>
              have HP := Lib.hid hp
              clear hp
              go_wp2_with (go_at_call 89; refine (refWithin_any _ _ _ _).mono ?_; rintro e w3 ⟨rfl, rfl⟩; rw [HP.out])
              go_roundg gh
              case measure => omega
              case rel => exact ⟨j + 1, by omega, by go_num, by rw [HSJ.out, HP.out]; rfl, rfl⟩

theorem refBatch_any (t : Bt) (A : Option Addr) (cap : Nat) (l : List Sl) (B : Nat) (w : World) (hB : B ≤ w.heap.size) (hz : Rows w B A l) (hl : ∀ s ∈ l, s.zs.length ≤ 9223372036854775807) :
    Calls Tryz.prog 88 #[.agg (btcells t (.slice A l.length cap))] w fun e w' => e = .returned (.bool (okBatch t (rws l))) ∧ Below w.heap.size w w' := by
  have hn : (rws l).length = l.length := by simp [rws]
  have ha : (rws l).all okPole = l.all fun s => okPole s.zs := by simp [rws, List.all_map, Function.comp_def]
  have hk : okBatch t (rws l) = (inR t.water 10 10000 && (inR t.borax 0 100000 && (inR (l.length : Int) 1 4 && (okS t.lo t.hi 1 250 && (inR t.need 1 1000 && l.all fun s => okPole s.zs))))) := by
    unfold okBatch okHead
    rw [hn, ha]
    simp only [allB, List.all_cons, List.all_nil, Bool.and_true]
    generalize inR t.water 10 10000 = a
    generalize inR t.borax 0 100000 = b
    generalize inR (l.length : Int) 1 4 = c
    generalize okS t.lo t.hi 1 250 = d
    generalize inR t.need 1 1000 = e
    generalize (l.all fun s => okPole s.zs) = f
    cases a <;> cases b <;> cases c <;> cases d <;> cases e <;> cases f <;> rfl
  rw [hk]
  cases h1 : inR t.water 10 10000 with
  | false => rw [Bool.false_and]; exact refBatch_1 t A cap l w h1
  | true =>
  rw [Bool.true_and]
  cases h2 : inR t.borax 0 100000 with
  | false => rw [Bool.false_and]; exact refBatch_2 t A cap l w h1 h2
  | true =>
  rw [Bool.true_and]
  cases h3 : inR (l.length : Int) 1 4 with
  | false => rw [Bool.false_and]; exact refBatch_3 t A cap l w h1 h2 h3
  | true =>
  rw [Bool.true_and]
  cases h4 : okS t.lo t.hi 1 250 with
  | false => rw [Bool.false_and]; exact refBatch_4 t A cap l w h1 h2 h3 h4
  | true =>
  rw [Bool.true_and]
  cases h5 : inR t.need 1 1000 with
  | false => rw [Bool.false_and]; exact refBatch_5 t A cap l w h1 h2 h3 h4 h5
  | true =>
  rw [Bool.true_and]
  exact refBatch_6 t A cap l B w hB hz hl h1 h2 h3 h4 h5

theorem refCheck_any (t : Bt) (A : Option Addr) (cap : Nat) (l : List Sl) (B : Nat) (w : World) (hB : B ≤ w.heap.size) (hz : Rows w B A l) (hl : ∀ s ∈ l, s.zs.length ≤ 9223372036854775807) :
    Calls Tryz.prog 66 #[.agg (btcells t (.slice A l.length cap))] w fun e w' => e = .returned (.int .i64 (checkE t (rws l))) ∧ Below w.heap.size w w' := by
  have H := fun W (h : Below w.heap.size w W) => refBatch_any t A cap l B W (Nat.le_trans hB h.size) (hz.below (h.mono hB)) hl
  unfold checkE
  unfold btcells at H ⊢
  cases h : okBatch t (rws l)
  all_goals
    rw [h] at H
    have HH := Lib.hid H
    clear H h hz hl
    go_enter Tryz.func66, Tryz.ntmps66
    go_wp2_with (go_at_call 88; refine (HH.out _ (grow1 w _)).mono ?_; rintro e w1 ⟨rfl, hB1⟩; have H1 := Lib.hid ((grow1 w _).trans (hB1.mono (by simp))); clear hB1)
    go_ret
    exact ⟨rfl, H1.out⟩

end Go.Proofs.YtpnnlmaipcjkmaaGreat

namespace Go.Proofs.YtpnnlmaipcjkmaaGreat
open Go.RowKit Go.Shelf
open R6 (done done_ne done_me upd_ne upd_me)

attribute [local go_sem] gives

theorem own_cellI {W : World} {base g c : Nat} {zs : List Int} {n : Nat} (h : OwnI W base (.slice (some ⟨g, 0, none⟩) n c) zs) {k : Nat} (hk : k < zs.length) : W.cell? ⟨g, k, none⟩ = some (.int .i64 (zs[k]?.getD 0)) := by
  rcases h.2 with ⟨e, _⟩ | ⟨g', cap', cur, hv, _, hh, _, _, hsz, hcs⟩
  · cases e
  · simp only [Value.slice.injEq, Option.some.injEq, Addr.mk.injEq, and_true] at hv
    obtain ⟨⟨rfl, _⟩, _, _⟩ := hv
    rw [cell_of_row W g k _ _ _ hh, ← Array.getElem?_toList]
    have e : (cur.toList.take (zs.length * 1))[k]? = (ints zs)[k]? := by rw [hcs]
    rw [List.getElem?_take_of_lt (by omega), ints_atL zs k hk] at e
    exact e

section
variable {ops : Array Oper} {rest : List Oper} {op : Oper} {a : Act} {w : World} {Q : Exit → Act → World → Prop}
theorem wpList_store_own (x y : Operand) (hgd : op.guard = none) (ho : op.op = .store 3 x y) (hd : op.dst = none) {g k : Nat} (hx : a.eval x = .pointer (some ⟨g, k, none⟩)) {z : Int} (hy : a.eval y = .int .i64 z)
    {base n c : Nat} {zs : List Int} (hO : OwnI w base (.slice (some ⟨g, 0, none⟩) n c) zs) (hk : k < zs.length)
    (h : ∀ w', Put w w' g → OwnI w' base (.slice (some ⟨g, 0, none⟩) n c) (zs.set k z) → wpList Tryz.prog ops Q rest a w') : wpList Tryz.prog ops Q (op :: rest) a w := by
  rcases hO.2 with ⟨e, _⟩ | ⟨g', cap', cur, hv, hb, hh, h1, h2, hsz, hcs⟩
  · cases e
  · have hv' := hv
    simp only [Value.slice.injEq, Option.some.injEq, Addr.mk.injEq, and_true] at hv'
    obtain ⟨⟨rfl, _⟩, _, _⟩ := hv'
    have hn : cur.toList.length = cap' * 1 := by simpa using hsz
    refine wpList_store_one 3 x y hgd ho hd hx hy (L := cur.toList) (by simpa using hh) (by omega) sizeInt1 fun w' hp hm => ?_
    refine h w' hp ⟨by simp [ints], .inr ⟨g, cap', (cur.toList.set k (.int .i64 z)).toArray, ?_, hb, hm, by simpa using h1, h2, by simpa using hsz, ?_⟩⟩
    · rw [hv]; simp
    · rw [List.toList_toArray, List.length_set, List.take_set, hcs]
      exact (List.toArray_inj (by rw [← ints_set, List.setIfInBounds_toArray]))
end

def nowL (s sp : Int) (r : List Int) (j : Nat) : List Int := (List.range r.length).map fun i => if i + 1 < j then atR r i + (inFl s sp r i - inFl s sp r (i + 1)) else if i + 1 = j then atR r i + inFl s sp r i else atR r i
theorem nowL_len (s sp : Int) (r : List Int) (j : Nat) : (nowL s sp r j).length = r.length := by simp [nowL]
theorem nowL_one (s sp : Int) (r : List Int) : r.set 0 (atR r 0 + inFl s sp r 0) = nowL s sp r 1 := by
  apply List.ext_getElem (by simp [nowL])
  intro i h1 h2
  have hi : i < r.length := by simpa using h1
  simp only [List.getElem_set, nowL, List.getElem_map, List.getElem_range]
  by_cases e : 0 = i
  · subst e; simp
  · rw [if_neg e, if_neg (by omega), if_neg (by omega)]
    simp [atR, hi]
theorem nowL_prev (s sp : Int) (r : List Int) {j : Nat} (hj : j < r.length) : (nowL s sp r (j + 1))[j]?.getD 0 = atR r j + inFl s sp r j := by
  simp [nowL, List.getElem?_range hj]
theorem nowL_next (s sp : Int) (r : List Int) {j : Nat} (hj : j + 1 < r.length) : (nowL s sp r (j + 1))[j + 1]?.getD 0 = atR r (j + 1) := by
  simp [nowL, List.getElem?_range hj]
  intro h
  omega
theorem nowL_step (s sp : Int) (r : List Int) (j : Nat) : ((nowL s sp r (j + 1)).set j (atR r j + inFl s sp r j - inFl s sp r (j + 1))).set (j + 1) (atR r (j + 1) + inFl s sp r (j + 1)) = nowL s sp r (j + 2) := by
  apply List.ext_getElem (by simp [nowL])
  intro i h1 h2
  simp only [List.getElem_set, nowL, List.getElem_map, List.getElem_range]
  by_cases e : j + 1 = i
  · subst e; simp
  · rw [if_neg e]
    by_cases e2 : j = i
    · subst e2
      rw [if_pos rfl, if_pos (by omega)]
      omega
    · rw [if_neg e2]
      by_cases e3 : i + 1 < j + 1
      · rw [if_pos e3, if_pos (by omega)]
      · rw [if_neg e3, if_neg (by omega), if_neg (by omega), if_neg (by omega)]
theorem nowL_end (s sp : Int) (r : List Int) : nowL s sp r r.length = hourRow s sp r := by
  apply List.ext_getElem (by simp [nowL, hourRow])
  intro i h1 h2
  have hi : i < r.length := by simpa [nowL] using h1
  simp only [nowL, hourRow, List.getElem_map, List.getElem_range]
  by_cases e : i + 1 < r.length
  · rw [if_pos e]
  · rw [if_neg e, if_pos (by omega)]
    have : inFl s sp r (i + 1) = 0 := by simp [inFl, e]
    omega
theorem hourRow_rows (s sp : Int) (ws : List (List Int)) {k : Nat} (hk : k < ws.length) : (ws.map (hourRow s sp)).take (k + 1) = (ws.map (hourRow s sp)).take k ++ [hourRow s sp (rowAt ws k)] := by
  rw [List.take_add_one]
  simp [rowAt, hk]

structure RdC (w0 : World) (D : Nat → Bool) (σ : Nat → Value) (W : World) : Prop where
  bel : Below w0.heap.size w0 W
  sz : W.heap.size = w0.heap.size
theorem RdC.move {w0 W : World} {D D' : Nat → Bool} {σ σ' : Nat → Value} (h : RdC w0 D σ W) : RdC w0 D' σ' W := ⟨h.bel, h.sz⟩

def HourPost (w : World) (st : St) (e : Ending) (w' : World) : Prop :=
  ∃ A c ls, e = .returned (.tuple #[.int .i64 st.1, .slice A ls.length c]) ∧ rws ls = st.2 ∧ OwnR w' w.heap.size (.slice A ls.length c) ls ∧ Below w.heap.size w w'

set_option maxRecDepth 100000 in
set_option maxHeartbeats 8000000 in
theorem refHour_any (W0 b sp : Int) (A : Option Addr) (cap : Nat) (l : List Sl) (B : Nat) (w : World) (hB : B ≤ w.heap.size) (hz : Rows w B A l) (h1 : 1 ≤ sp) (h2 : sp ≤ 250) (hg : GoodS W0 (b, rws l)) :
    Calls Tryz.prog 133 #[.int .i64 W0, .int .i64 b, .slice A l.length cap, .int .i64 sp] w (HourPost w (hourS W0 sp (b, rws l))) := by
  have hlr : (rws l).length = l.length := by simp [rws]
  have hq : b.tdiv W0 = b / W0 := Int.tdiv_eq_ediv_of_nonneg hg.b0
  have hw0 : ¬ W0 = 0 := by have := hg.w1; omega
  have hs0 : 0 ≤ b / W0 := Int.ediv_nonneg hg.b0 (by have := hg.w1; omega)
  have hs1 : b / W0 ≤ 10000 := hg.bs
  have hb1 : b ≤ 100010000 := by
    have hw := hg.w1
    have hw2 := hg.w2
    have := Int.lt_ediv_add_one_mul_self b (show 0 < W0 by omega)
    have h3 : (b / W0 + 1) * W0 ≤ 10001 * W0 := Int.mul_le_mul_of_nonneg_right (by omega) (by omega)
    omega
  have hb0 : 0 ≤ b := hg.b0
  have hl4 : l.length ≤ 4 := by have := hg.n4; simp only at this; omega
  have hR : hourS W0 sp (b, rws l) = (hourBk (b / W0) sp b (rws l) l.length, ((rws l).map (hourRow (b / W0) sp)).take l.length) := by
    have e : ((rws l).map (hourRow (b / W0) sp)).take l.length = (rws l).map (hourRow (b / W0) sp) := by rw [List.take_of_length_le (by simp [rws])]
    rw [e, ← hlr, hourBk_end]
    rfl
  rw [hR]
  obtain ⟨i0, hi, hz0, hz1, hz2⟩ := info_parts info3
  obtain ⟨i1, hi', hz0', hz1', hz2'⟩ := info_parts infoSl
  have HI := Lib.hid (And.intro hi (And.intro hz0 (And.intro hz1 hz2)))
  have HI' := Lib.hid (And.intro hi' (And.intro hz0' (And.intro hz1' hz2')))
  have HG := Lib.hid hg
  have HZ := Lib.hid hz
  have HLR := Lib.hid hlr
  have hq0 : 0 ≤ b.tdiv W0 := by rw [hq]; exact hs0
  have hq1 : b.tdiv W0 ≤ 10000 := by rw [hq]; exact hs1
  clear hi hz0 hz1 hz2 hi' hz0' hz1' hz2' hg hz hlr hR
  generalize hs : b / W0 = s at hq hs0 hs1 ⊢
  have HS := Lib.hid hs
  clear hs
  go_enter Tryz.func133, Tryz.ntmps133
  go_wp2
  go_loopg [1, 11, 12] l.length (fun gg s1 s11 s12 wx => ∃ (k : Nat) (ls : List Sl) (v : Value), k + gg = l.length ∧ ls.length = k ∧ s1 = .int .i64 (hourBk s sp b (rws l) k) ∧ s11 = v ∧ s12 = .int .i64 k ∧ Hid (rws ls = ((rws l).map (hourRow s sp)).take k) ∧ Hid (OwnR wx w.heap.size v ls) ∧ Hid (Below w.heap.size w wx))
  case atStart => exact ⟨0, [], _, by omega, rfl, by rw [hourBk_zero], rfl, rfl, rfl, ownR_nil _ _, Below.refl _ _⟩
  case round =>
    obtain ⟨k, ls, v, hkg, hlk, rfl, hs11, rfl, hR, hO, hBr⟩ := hrel
    obtain rfl := hs11.symm
    have HLK := Lib.hid hlk
    clear hlk
    cases gk with
    | zero =>
      have hkl : k = l.length := by omega
      have hkn : ¬ (k : Int) < l.length := by omega
      have HKL := Lib.hid hkl
      clear hkl
      go_wp2
      go_ret2
      obtain ⟨A', c', hv⟩ := own_slice hO.out.row
      refine ⟨A', c', ls, by rw [hv, ← HKL.out]; rfl, by rw [hR.out, HKL.out], ?_, hBr.out⟩
      rw [← hv]; exact hO.out
    | succ gg =>
      have hk : k < l.length := by omega
      have hkz : (k : Int) < l.length := by omega
      have hk2 : k < (rws l).length := by rw [HLR.out]; exact hk
      have hws := hBr.out.size
      have hrow : okRow (rowAt (rws l) k) := HG.out.rows _ (by simp only [rowAt, List.getElem?_eq_getElem hk2, Option.getD_some]; exact List.getElem_mem hk2)
      have hbd := hourBk_bnd (b := b) h1 h2 hs0 hs1 HG.out.n4 HG.out.rows k
      have hsu := hourBk_succ s sp b (rws l) hk2
      have hrt := hourRow_rows s sp (rws l) hk2
      have hel : rowAt (rws l) k = l[k].zs := by simp [rowAt, rws, hk]
      obtain ⟨ab, off, hA, hcB, hc⟩ := HZ.out.va (by rw [slvs_len]; omega)
      subst hA
      have hy := hc k _ (slvs_at l k hk)
      have hin := HZ.out.each _ (List.getElem_mem hk)
      generalize l[k] = y at hy hel hin
      obtain ⟨yA, yc, ys⟩ := y
      unfold slv at hy
      simp only at hy hel hin
      rw [hel] at hrow hsu hrt
      obtain ⟨sb, so, hsA, hsB, hcs⟩ := hin (by have := hrow.l1; omega)
      subst hsA
      have hl1 := hrow.l1
      have hl6 := hrow.l6
      have hFb : ∀ i, -2500 ≤ inFl s sp ys i ∧ inFl s sp ys i ≤ 2500 := fun i => by
        have := inFl_bnd h1 h2 hs0 hs1 hrow i; have := hrow.b0 i; have := hrow.b1 i; omega
      have hRb : ∀ i, 0 ≤ atR ys i ∧ atR ys i ≤ 10000 := fun i => ⟨hrow.b0 i, hrow.b1 i⟩
      have hfl0 := fun W => refFlow_any s (atR ys 0) sp h1 h2 hs0 hs1 (hRb 0).1 (hRb 0).2 W
      have hin0 : inFl s sp ys 0 = fl sp s (atR ys 0) := by simp [inFl, show 0 < ys.length by omega]
      rw [← hin0] at hfl0
      have hflj := fun j (hj : j + 1 < ys.length) W => refFlow_any (atR ys j) (atR ys (j + 1)) sp h1 h2 (hRb j).1 (hRb j).2 (hRb (j + 1)).1 (hRb (j + 1)).2 W
      have hinj : ∀ j, j + 1 < ys.length → inFl s sp ys (j + 1) = fl sp (atR ys j) (atR ys (j + 1)) := fun j hj => by simp [inFl, hj]
      have hfj : ∀ j, j + 1 < ys.length → ∀ W, Calls Tryz.prog 168 #[.int .i64 (atR ys j), .int .i64 (atR ys (j + 1)), .int .i64 sp] W fun e w' => e = .returned (.int .i64 (inFl s sp ys (j + 1))) ∧ W = w' := fun j hj W => by
        rw [hinj j hj]
        exact hflj j hj W
      have hone := nowL_one s sp ys
      have hca : ∀ W : World, Below w.heap.size w W → W.cell? ⟨ab, off + k, none⟩ = some (.slice (some ⟨sb, so, none⟩) ys.length yc) := fun W hW => (hW.cell (p := ⟨ab, off + k, none⟩) (by simp; omega)).trans hy
      have hcj : ∀ W : World, Below w.heap.size w W → ∀ j, j < ys.length → W.cell? ⟨sb, so + j, none⟩ = some (.int .i64 (atR ys j)) := fun W hW j hj => (hW.cell (p := ⟨sb, so + j, none⟩) (by simp; omega)).trans (hcs j hj)
      have hvs : ∀ W : World, Below w.heap.size w W → Vals W w.heap.size (some ⟨sb, so, none⟩) (ints ys) := fun W hW => ((hin.mono hB).below hW).vals
      obtain ⟨wx, hwx⟩ : ∃ wx, wr.alloc (.cells #[] 3) = wx := ⟨_, rfl⟩
      have hbx : Below wr.heap.size wr wx := by rw [← hwx]; exact grow1 _ _
      have hm0 : wx.heap[wr.heap.size]? = some (.cells #[] 3 (0, 0)) := by rw [← hwx]; exact alloc_at0 _ _
      have hcx := hca wx (hBr.out.trans (hbx.mono hws))
      have f0 := hFb 0
      have r0 := hRb 0
      have HK := Lib.hid (And.intro hca (And.intro hcj (And.intro hvs (And.intro hrt (And.intro hsu hone)))))
      have HFL := Lib.hid (And.intro hfl0 (And.intro hfj (And.intro hFb hRb)))
      have HBX := Lib.hid (And.intro hbx hm0)
      have hyl : (ints ys).length = ys.length * 1 := by simp [ints]
      have HYL := Lib.hid hyl
      have HIN := Lib.hid (And.intro hin (And.intro hcs hel))
      clear hca hcj hvs hrt hsu hone hfl0 hflj hinj hfj hFb hRb hbx hm0 hyl hin hcs hel hc hy hin0 hrow
      go_wp2_with (first
        | (at_builtin
           refine wpl_clone (by rfl) (.tmp 26) (.tmp 30) _ (by rfl) wr.heap.size 3 i0 _ 1 8 Tryz.underlying59 HI.out.1 HI.out.2.1 HI.out.2.2.1 HI.out.2.2.2 rfl (by omega) _ (by rfl) HBX.out.2 (Nat.le_refl _)
             w.heap.size (some ⟨sb, so, none⟩) ys.length yc (ints ys) (by rfl) (HK.out.2.2.1 wx (hBr.out.trans (HBX.out.1.mono hws))) HYL.out (oneCells_ints _) (by simp only [maxLen]; omega) (by omega) ?_
           intro g c1 w3 hown hgrow hat hg1 hg1s
           have hB3 : Below wr.heap.size wr w3 := Below.ofGrown HBX.out.1 hgrow (by have := HBX.out.1.size; omega) (Nat.le_refl _)
           have hW3 := hBr.out.trans (hB3.mono hws)
           have hca3 := HK.out.1 w3 hW3
           have hcj3 := HK.out.2.1 w3 hW3 0 (by omega)
           rw [Nat.add_zero] at hcj3
           have hcn3 := own_cellI (W := w3) (base := wr.heap.size) (zs := ys) hown (k := 0) (by omega)
           rw [show ys[0]?.getD 0 = atR ys 0 from rfl] at hcn3
           have H3 := Lib.hid (And.intro hB3 (And.intro hown hg1))
           clear hown hgrow hat hg1 hg1s hB3 hW3)
        | (go_at_call 168; refine (HFL.out.1 _).mono ?_; rintro e w4 ⟨rfl, rfl⟩)
        | (show wpList _ _ _ (Oper.mk none (Op.store _ (Operand.tmp 49) (Operand.tmp 48)) _ _ _ _ :: _) _ _
           refine wpList_store_own (.tmp 49) (.tmp 48) rfl rfl rfl rfl rfl H3.out.2.1 (by omega) ?_
           intro w5 hP5 hO5
           rw [HK.out.2.2.2.2.2] at hO5
           have H5 := Lib.hid (And.intro (H3.out.1.trans (hP5.below H3.out.2.2)) hO5)
           clear hP5 hO5 hca3 hcj3 hcn3))
      obtain ⟨wo, rfl⟩ : ∃ wo : World, wo = wr := ⟨_, rfl⟩
      go_loopg [15] (ys.length - 1) (fun gh s15 wz => ∃ j : Nat, j + 1 + gh = ys.length ∧ s15 = .int .i64 ((j : Int) + 1) ∧ Hid (Below wo.heap.size wo wz) ∧ Hid (OwnI wz wo.heap.size (.slice (some ⟨g, 0, none⟩) ys.length c1) (nowL s sp ys (j + 1))))
      case atStart => exact ⟨0, by omega, rfl, H5.out.1, H5.out.2⟩
      case round =>
        obtain ⟨j, hjg, rfl, hBj, hOj⟩ := hrel
        cases gk with
        | zero =>
          have hjz : ¬ ((j : Int) + 1 < ys.length) := by omega
          have hOe := hOj.out
          rw [show j + 1 = ys.length by omega, nowL_end] at hOe
          have hsz := hBj.out.size
          have hO2 := hO.out.grows hBj.out
          have HO2 := Lib.hid (And.intro hO2 hOe)
          have HJ1 := Lib.hid hjg
          obtain ⟨wy, hwy⟩ : ∃ wy, wr.alloc (.cells #[.slice (some ⟨g, 0, none⟩) ys.length c1] 59) = wy := ⟨_, rfl⟩
          have hby : Below wr.heap.size wr wy := by rw [← hwy]; exact grow1 _ _
          have hmy : wy.heap[wr.heap.size]? = some (.cells #[.slice (some ⟨g, 0, none⟩) ys.length c1] 59 (0, 0)) := by rw [← hwy]; exact alloc_at0 _ _
          have HBY := Lib.hid (And.intro hby hmy)
          clear hOe hO2 hjg hby hmy
          go_wp2_with
            (at_builtin
             refine wpl_app (by rfl) (.tmp 88) (.tmp 90) 60 (by rfl) w.heap.size 59 i1 _ 1 24 Tryz.underlying60 HI'.out.1 HI'.out.2.1 HI'.out.2.2.1 HI'.out.2.2.2 rfl (by omega) v ls.length (slvs ls) (by rfl) (HO2.out.1.grows HBY.out.1).row
               wy.heap.size (some ⟨wr.heap.size, 0, none⟩) 1 1 [slv ⟨some ⟨g, 0, none⟩, c1, hourRow s sp ys⟩] (by rfl) (vals_new (by simpa [slv, hourRow_len] using HBY.out.2) (lt_of_heap HBY.out.2)) rfl (slvs_one [_]) (by have := HLK.out; simp only [maxLen]; omega) (by have := HLK.out; omega) (by have := HBY.out.1.size; omega) ?_
             intro v' w9 hown hgrow _
             have hOI : OwnI wy w.heap.size (slv ⟨some ⟨g, 0, none⟩, c1, hourRow s sp ys⟩) (hourRow s sp ys) := by
               have := (HO2.out.2.less hws).grows HBY.out.1
               simpa [slv, hourRow_len] using this
             have hO9 := (HO2.out.1.grows HBY.out.1).app (s := ⟨some ⟨g, 0, none⟩, c1, hourRow s sp ys⟩) hOI hgrow hown
             have hB9 : Below w.heap.size w w9 := ((hBr.out.trans (hBj.out.mono hws)).trans (HBY.out.1.mono (by omega))).grown hgrow (by have := HBY.out.1.size; omega) (fun k e => (own_blockType (HO2.out.1.grows HBY.out.1).row e).choose_spec.2)
             have H9 := Lib.hid (And.intro hO9 hB9)
             clear hown hgrow hOI hO9 hB9)
          go_roundg gg
          case measure => omega
          case rel =>
            refine ⟨k + 1, ls ++ [Sl.mk (some ⟨g, 0, none⟩) c1 (hourRow s sp ys)], v', by omega, by have := HLK.out; simp [this], by rw [HK.out.2.2.2.2.1], rfl, by go_num, ?_, H9.out.1, H9.out.2⟩
            show rws (ls ++ [_]) = _
            rw [HK.out.2.2.2.1, ← hR.out]
            simp [rws]
        | succ gh =>
          have hj : j + 1 < ys.length := by omega
          have hjz : (j : Int) + 1 < ys.length := by omega
          have hj0 : (0 : Int) ≤ j := by omega
          have hj1 : (0 : Int) ≤ (j : Int) + 1 := by omega
          have hjl : (j : Int) < ys.length := by omega
          have v0 : IntKind.i64.wrap (j : Int) = j := IntWalk.i64_in _ (by omega)
          have v1 : IntKind.i64.wrap ((j : Int) + 1) = (j : Int) + 1 := IntWalk.i64_in _ (by omega)
          have v4 : ((j : Int) + 1).toNat = j + 1 := by omega
          have hs13 : RdC wr (fun _ => false) (fun _ => undef) wr.drew := ⟨(Below.refl _ _).drew, rfl⟩
          have hW := hBr.out.trans (hBj.out.mono hws)
          have HS13 := Lib.hid hs13
          have HW := Lib.hid hW
          have q0 := HFL.out.2.2.2 j
          have q1 := HFL.out.2.2.2 (j + 1)
          have p0 := HFL.out.2.2.1 j
          have p1 := HFL.out.2.2.1 (j + 1)
          clear hs13 hW
          go_wp2
          refine R6.wp_walk (C := RdC wr) 94 (by kernel_rfl) (by kernel_rfl) rfl ⟨HS13.out.bel, HS13.out.sz⟩ ?_
          simp only []
          repeat (first
            | (refine' R6.WalkR.det (fun _ => rfl) (fun D ρ W hK hC => ?_) ?_
               rotate_left
               · have hWW := HW.out.trans (hC.bel.mono HW.out.size)
                 have hca := HK.out.1 W hWW
                 have hcj0 := HK.out.2.1 W hWW j (by omega)
                 have hcj1 := HK.out.2.1 W hWW (j + 1) hj
                 clear hWW
                 have HC := Lib.hid hC
                 clear hC hK
                 go_simp
                 first
                   | with_reducible exact ⟨rfl, HC.out.move⟩
                   | (go_at_call 168; refine (HFL.out.2.1 j hj W).mono ?_; rintro e W1 ⟨rfl, rfl⟩; exact ⟨_, rfl, rfl, HC.out.move⟩)
               simp only [Act.put, List.setIfInBounds_toArray, List.set_cons_succ, List.set_cons_zero]))
          refine R6.WalkR.nil (fun D ρ W hD' hC => ?_)
          have hBW := hBj.out.trans (hC.bel.mono hBj.out.size)
          have hOW := hOj.out.grows hC.bel
          have hn := own_cellI (W := W) (base := wo.heap.size) (zs := nowL s sp ys (j + 1)) hOW (k := j) (by rw [nowL_len]; omega)
          rw [nowL_prev s sp ys (by omega)] at hn
          have HOW := Lib.hid (And.intro hBW hOW)
          have hstep := nowL_step s sp ys j
          have hZ : ((nowL s sp ys (j + 1)).set j (atR ys j + inFl s sp ys j - inFl s sp ys (j + 1)))[j + 1]?.getD 0 = atR ys (j + 1) := by
            rw [List.getElem?_set_ne (by omega), nowL_next s sp ys hj]
          have hZl : (nowL s sp ys (j + 1)).length = ys.length := nowL_len _ _ _ _
          generalize nowL s sp ys (j + 1) = N1 at hstep hZ hZl HOW
          generalize hN2 : nowL s sp ys (j + 2) = N2 at hstep
          have HST := Lib.hid (And.intro hstep (And.intro hZ (And.intro hZl hN2)))
          clear hC hD' hBW hOW hstep hZ hZl hN2
          go_wp2_with (first
            | (show wpList _ _ _ (Oper.mk none (Op.store _ (Operand.tmp 80) (Operand.tmp 79)) _ _ _ _ :: _) _ _
               refine wpList_store_own (.tmp 80) (.tmp 79) rfl rfl rfl rfl rfl HOW.out.2 (by rw [HST.out.2.2.1]; omega) ?_
               intro w7 hP7 hO7
               have hn7 := own_cellI (W := w7) (base := wo.heap.size) hO7 (k := j + 1) (by rw [List.length_set, HST.out.2.2.1]; omega)
               rw [HST.out.2.1] at hn7
               have H7 := Lib.hid (And.intro (HOW.out.1.trans (hP7.below H3.out.2.2)) hO7)
               clear hP7 hO7 hn)
            | (show wpList _ _ _ (Oper.mk none (Op.store _ (Operand.tmp 87) (Operand.tmp 86)) _ _ _ _ :: _) _ _
               refine wpList_store_own (.tmp 87) (.tmp 86) rfl rfl rfl rfl rfl H7.out.2 (by rw [List.length_set, HST.out.2.2.1]; omega) ?_
               intro w8 hP8 hO8
               rw [HST.out.1] at hO8
               have H8 := Lib.hid (And.intro (H7.out.1.trans (hP8.below H3.out.2.2)) hO8)
               clear hP8 hO8 hn7))
          go_roundg gh
          case measure => omega
          case rel => exact ⟨j + 1, by omega, by go_num, H8.out.1, by rw [HST.out.2.2.2]; exact H8.out.2⟩

end Go.Proofs.YtpnnlmaipcjkmaaGreat
