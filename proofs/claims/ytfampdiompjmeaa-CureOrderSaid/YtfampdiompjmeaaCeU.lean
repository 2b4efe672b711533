/-
  After how many hours all cores have been reached (the program's ready).
-/
import Derived.Test.YtfampdiompjmeaaCeT
namespace Go.Proofs.Ytfampdiompjmeaa
open Go.RowKit Go.Shelf

/-- The greatest of the hours met so far. -/
structure MidM (f : Nat → Option Nat) (n m0 : Nat) (left : Lit → Bool) (m : Nat) : Prop where
  lo : m0 ≤ m
  up : ∀ q k : Nat, q < n → f q = some k → left (.int .i64 (q : Int)) = false → k ≤ m
  le : m ≤ mxF f n m0
theorem MidM.end_ {f : Nat → Option Nat} {n m0 m : Nat} {left : Lit → Bool} (h : MidM f n m0 left m) (hl : ∀ z, left z = false) : m = mxF f n m0 :=
  Nat.le_antisymm h.le (mxF_le f n m0 m h.lo fun q k hq hk => h.up q k hq hk (hl _))
theorem MidM.step {f : Nat → Option Nat} {n m0 m q c : Nat} {left : Lit → Bool} (h : MidM f n m0 left m) (hq : q < n) (hc : f q = some c) : MidM f n m0 (fun z => left z && !z.sameKey (.int .i64 (q : Int))) (max m c) := by
  refine ⟨by have := h.lo; omega, fun p k hp hk hl => ?_, by have := h.le; have := mxF_up f n m0 q c hq hc; omega⟩
  by_cases e : p = q
  · subst e
    rw [hc] at hk
    injection hk with hk
    omega
  · have hs : Lit.sameKey (.int .i64 (p : Int)) (.int .i64 (q : Int)) = false := Maps.sameKey_ne (fun h => e (by injection h with _ h; omega))
    simp only [hs, Bool.not_false, Bool.and_true] at hl
    have := h.up p k hp hk hl
    omega
def rdV (t : Bt) (ws : List (List Int)) : Nat := if allN t ws (spN t) = true then maxS t ws (spN t) else 0

structure RdyC (w : World) (V : List Value) (W : World) : Prop where
  bel : Below w.heap.size w W
  sz : w.heap.size + 1 ≤ W.heap.size
  b0 : W.heap[w.heap.size]? = some (.cells V.toArray 92 (0, 0))
theorem RdyC.next {w W W' : World} {V : List Value} (h : RdyC w V W) {b : Nat} (hb : Below b W W') (hle : w.heap.size + 1 ≤ b) : RdyC w V W' :=
  ⟨h.bel.trans (below_low hb (by omega)), Nat.le_trans h.sz hb.size, (hb.block _ (by omega)).trans h.b0⟩
theorem RdyC.grown {w W W' : World} {V : List Value} (h : RdyC w V W) {r : Nat} (hg : W.grownBy W' (some r)) (hr : w.heap.size + 1 ≤ r) : RdyC w V W' :=
  ⟨h.bel.grown hg h.bel.size (fun k e => by cases e; omega), Nat.le_trans h.sz hg.size, (hg.block _ (by have := h.sz; omega) (by simp; omega)).trans h.b0⟩

set_option maxRecDepth 100000 in
set_option maxHeartbeats 8000000 in
theorem ready_any (t : Bt) (A : Option Addr) (cap : Nat) (l : List Sl) (B : Nat) (w : World) (hB : B ≤ w.heap.size) (hz : Rows w B A l) (hb : okBatch t (rws l) = true) :
    Calls Try.prog 51 #[.agg (bs t (.slice A l.length cap) (t.borax, rws l)).toArray] w fun e w' =>
      e = .returned (.tuple #[.int .i64 (rdV t (rws l) : Nat), .bool (allN t (rws l) (spN t))]) ∧ Below w.heap.size w w' := by
  obtain ⟨hg, g1, g2, g3, g4, -⟩ := okBatch_good hb
  have hn4 : l.length ≤ 4 := by have := hg.n4; simpa [rws] using this
  have hrl : (rws l).length = l.length := by simp [rws]
  have hre := fun (k : Nat) (hk : k < spN t) (W : World) (hW : Below w.heap.size w W) =>
    reached_any t A cap l (t.lo + k) (t.borax, rws l) 300 B W (Nat.le_trans hB hW.size) (hz.below (hW.mono hB)) (by omega) (by unfold spN at hk; omega) hg rfl (Nat.le_refl _)
  unfold ReachPost at hre
  obtain ⟨V, hV⟩ : ∃ V, V = bs t (.slice A l.length cap) (t.borax, rws l) := ⟨_, rfl⟩
  have hV2 : V.toArray[2]? = some (.slice A l.length cap) := by rw [hV]; rfl
  have hV3 : V.toArray[3]? = some (.int .i64 t.lo) := by rw [hV]; rfl
  have hV4 : V.toArray[4]? = some (.int .i64 t.hi) := by rw [hV]; rfl
  have hlen : V.length = 30 := by rw [hV]; exact bv_len _ _ _ _
  rw [← hV] at hre ⊢
  obtain ⟨w1, hw1⟩ : ∃ w1, w.alloc (.cells V.toArray 92) = w1 := ⟨_, rfl⟩
  have hT0 : RdyC w V w1 := by
    subst hw1
    exact ⟨(Below.refl _ w).alloc (Nat.le_refl _) _, by simp, alloc_at0 _ _⟩
  have hc2 := fun i => cell_of_row w1 w.heap.size i _ _ _ hT0.b0
  have hc3 := (hc2 3).trans hV3
  have hspn : (spN t : Int) = t.hi - t.lo + 1 := by unfold spN; omega
  have hsp : spN t ≤ 250 := by unfold spN; omega
  have HV := Lib.hid (And.intro hV2 (And.intro hV3 (And.intro hV4 hlen)))
  have HRE := Lib.hid hre
  have HT0 := Lib.hid hT0
  have HK := Lib.hid (And.intro hrl hn4)
  clear hV hV2 hV3 hV4 hlen hre hT0 hrl hc2 hg hz hb
  go_enter Try.func51, Try.ntmps51
  go_wp2
  go_loopg [2, 4] (spN t) (fun gg s2 s4 wx => ∃ k : Nat, k + gg = spN t ∧ s2 = .int .i64 ((maxS t (rws l) k : Nat) : Int) ∧ s4 = .int .i64 (t.lo + k) ∧ Hid (allN t (rws l) k = true) ∧ Hid (RdyC w V wx))
  case atStart => exact ⟨0, by omega, rfl, by simp, rfl, HT0.out⟩
  case round =>
    obtain ⟨k, hkg, rfl, rfl, hA, hT⟩ := hrel
    clear hc3
    have hcr := fun i => cell_of_row wr w.heap.size i _ _ _ hT.out.b0
    have hr2 := (hcr 2).trans HV.out.1
    have hr3 := (hcr 3).trans HV.out.2.1
    have hr4 := (hcr 4).trans HV.out.2.2.1
    clear hcr
    cases gk with
    | zero =>
      have hkn : ¬ t.lo + (k : Int) ≤ t.hi := by omega
      have hke : k = spN t := by omega
      have HKE := Lib.hid hke
      clear hke
      go_wp2
      go_ret2
      have hA := hA.out
      rw [HKE.out] at hA ⊢
      exact ⟨by rw [hA, rdV, if_pos hA]; rfl, hT.out.bel⟩
    | succ gg =>
      have hkz : t.lo + (k : Int) ≤ t.hi := by omega
      have hkn : k < spN t := by omega
      have hk250 : (k : Int) < 250 := by omega
      have hfall : allS t (rws l) (t.lo + k) = true ↔ cntF (whenS t (rws l) (t.lo + k)) l.length = l.length := by
        rw [allS_iff, cntF_all, HK.out.1]
      have hfs := allN_succ t (rws l) k
      rw [hA.out, Bool.true_and] at hfs
      cases hall : allS t (rws l) (t.lo + k) with
      | false =>
        have hlt : cntF (whenS t (rws l) (t.lo + k)) l.length < l.length := by
          have h1 := cntF_le (whenS t (rws l) (t.lo + k)) l.length
          rcases Nat.lt_or_ge (cntF (whenS t (rws l) (t.lo + k)) l.length) l.length with h | h
          · exact h
          · rw [hfall.2 (by omega)] at hall; cases hall
        have hno := allN_false hall hkn
        have HNO := Lib.hid (And.intro hlt hno)
        clear hlt hno hall hfs hfall
        go_wp2_with (first
          | (show wpList _ _ _ (Oper.mk (some 20) _ _ _ _ _ :: _) _ _
             refine wpList_load_blk 92 (.tmp 1) rfl rfl rfl hT.out.b0 V (fun j v hj => by rw [Nat.zero_add, List.getElem?_toArray]; exact hj) (by rw [HV.out.2.2.2]; exact rowBatch) ?_)
          | (go_at_call 70
             refine (HRE.out k hkn wr hT.out.bel).mono ?_
             rintro e w3 ⟨mb, rfl, hmb, ⟨D, hOw, hMI⟩, hB3⟩
             have hT3 := hT.out.next hB3 hT.out.sz
             have hsz := hMI.size
             have h3r2 := (cell_of_row w3 w.heap.size 2 _ _ _ hT3.b0).trans HV.out.1
             have H3 := Lib.hid (And.intro hmb (And.intro hOw (And.intro hMI hT3)))
             have hbx := hB3.size
             have HBX := Lib.hid hbx
             have hlz : ((Maps.size D : Nat) : Int) < (l.length : Int) := by rw [hsz]; exact Int.ofNat_lt.2 HNO.out.1
             clear hmb hOw hMI hT3 hB3 hr2 hr3 hr4 hsz hbx)
          | (at_len
             refine wpList_len_own (H := Value) _ rfl _ 116 rfl 3 3 Try.underlying116 _ mb _ D rfl H3.out.2.1 ?_)
          | (at_range
             refine wpList_range_own (H := Value) _ rfl _ 116 rfl 3 3 keyInt Try.underlying116 _ mb _ D rfl H3.out.2.1 ?_
             intro w0 hrg0 hg0 hs0
             have hT4 : RdyC w V w0 := H3.out.2.2.2.grown (r := w3.heap.size) (hg0.but _) (by have := H3.out.2.2.2.sz; omega)
             have H4 := Lib.hid (And.intro hrg0 hT4)
             clear hrg0 hg0 hs0 hT4))
        go_ret2
        exact ⟨by rw [HNO.out.2, rdV, if_neg (by rw [HNO.out.2]; decide)]; rfl, H3.out.2.2.2.bel⟩
      | true =>
        have hfe := hfall.1 hall
        rw [hall] at hfs
        have HFE := Lib.hid (And.intro hfe hfs)
        clear hfe hfs hall hfall
        have h300 := maxS_le t (rws l) k
        go_wp2_with (first
          | (show wpList _ _ _ (Oper.mk (some 20) _ _ _ _ _ :: _) _ _
             refine wpList_load_blk 92 (.tmp 1) rfl rfl rfl hT.out.b0 V (fun j v hj => by rw [Nat.zero_add, List.getElem?_toArray]; exact hj) (by rw [HV.out.2.2.2]; exact rowBatch) ?_)
          | (go_at_call 70
             refine (HRE.out k hkn wr hT.out.bel).mono ?_
             rintro e w3 ⟨mb, rfl, hmb, ⟨D, hOw, hMI⟩, hB3⟩
             have hT3 := hT.out.next hB3 hT.out.sz
             have hsz := hMI.size
             have h3r2 := (cell_of_row w3 w.heap.size 2 _ _ _ hT3.b0).trans HV.out.1
             have H3 := Lib.hid (And.intro hmb (And.intro hOw (And.intro hMI hT3)))
             have hbx := hB3.size
             have HBX := Lib.hid hbx
             have hlz : ¬ Maps.size D < l.length := by rw [show Maps.size D = l.length from hsz.trans HFE.out.1]; exact Nat.lt_irrefl _
             clear hmb hOw hMI hT3 hB3 hr2 hr3 hr4 hsz hbx)
          | (at_len
             refine wpList_len_own (H := Value) _ rfl _ 116 rfl 3 3 Try.underlying116 _ mb _ D rfl H3.out.2.1 ?_)
          | (at_range
             refine wpList_range_own (H := Value) _ rfl _ 116 rfl 3 3 keyInt Try.underlying116 _ mb _ D rfl H3.out.2.1 ?_
             intro w0 hrg0 hg0 hs0
             have hT4 : RdyC w V w0 := H3.out.2.2.2.grown (r := w3.heap.size) (hg0.but _) (by have := H3.out.2.2.2.sz; omega)
             have H4 := Lib.hid (And.intro hrg0 hT4)
             clear hrg0 hg0 hs0 hT4))
        go_frame
        obtain ⟨wo, rfl⟩ : ∃ wo : World, wo = wr := ⟨_, rfl⟩
        go_loopg [2, 7] (Maps.size D) (fun gh s2 s7 wx => ∃ (left : Lit → Bool) (m : Nat), s2 = .int .i64 (m : Int) ∧ m ≤ 300 ∧ Hid (MidM (whenS t (rws l) (t.lo + k)) l.length (maxS t (rws l) k) left m) ∧ Hid (wx.ranges Try.prog 3 (plainElem Try.prog 3) mb w3.heap.size (Maps.size D) D left gh) ∧ Hid (RdyC w V wx))
        case atStart =>
          refine ⟨_, maxS t (rws l) k, rfl, maxS_le _ _ _, ⟨Nat.le_refl _, fun q c hq hc hl => ?_, mxF_ge _ _ _⟩, H4.out.1, H4.out.2⟩
          have := (H3.out.2.2.1.has q).2 ⟨q, rfl, hq, by show (whenS t (rws l) (t.lo + k) q).isSome = true; rw [hc]; rfl⟩
          rw [this] at hl
          cases hl
        case round =>
          obtain ⟨left, m, rfl, hm3, hMM, hrg, hTj⟩ := hrel
          go_wp2_with
            (at_next
             refine wpList_next_ranges_ii (H := Value) _ rfl _ rfl 3 3 .i64 .i64 keyInt Try.underlying3 Try.underlying3 mb w3.heap.size _ _ _ _ rfl hrg.out ?_ ?_)
          · intro hc0 hl0
            have hme := hMM.out.end_ hl0
            have hms : m = maxS t (rws l) (k + 1) := by rw [hme, ← HK.out.1]; rfl
            have HMS := Lib.hid hms
            clear hme hms hc0 hl0
            go_wp2
            go_roundg gg
            case measure => omega
            case rel => exact ⟨k + 1, by omega, by rw [HMS.out], by go_num, HFE.out.2, hTj.out⟩
          · intro x c w5 cnt5 hwx hwc hlx hat hrg5 hlt hg5 hs5 hen
            obtain ⟨p, rfl, hp, hps⟩ := (H3.out.2.2.1.has x).1 (Maps.has_true_of_atKey hat)
            obtain ⟨q, hq⟩ := Option.isSome_iff_exists.1 hps
            have hcq := (hat .nil).symm.trans (H3.out.2.2.1.at_ p q hp hq .nil)
            simp only [DataW.lit.injEq, Lit.int.injEq, true_and] at hcq
            subst hcq
            have hq3 : q ≤ 300 := whenS_le (t := t) (ws := rws l) (s := t.lo + k) (p := p) hq
            have hT5 := hTj.out.grown hg5 (by have := H3.out.2.2.2.sz; omega)
            have hM5 := hMM.out.step (q := p) (c := q) hp hq
            by_cases hmq : m < q
            · rw [show max m q = q by omega] at hM5
              have H5 := Lib.hid (And.intro hT5 (And.intro hrg5 hM5))
              have hlt5 := hlt
              clear hT5 hrg5 hM5 hat hlx hwx hwc hg5 hs5 hps hlt hrg hq
              go_wp2
              go_roundg cnt5
              case measure => omega
              case rel => exact ⟨_, q, rfl, by omega, H5.out.2.2, H5.out.2.1, H5.out.1⟩
            · rw [show max m q = m by omega] at hM5
              have H5 := Lib.hid (And.intro hT5 (And.intro hrg5 hM5))
              have hlt5 := hlt
              clear hT5 hrg5 hM5 hat hlx hwx hwc hg5 hs5 hps hlt hrg hq
              go_wp2
              go_roundg cnt5
              case measure => omega
              case rel => exact ⟨_, m, rfl, by omega, H5.out.2.2, H5.out.2.1, H5.out.1⟩

end Go.Proofs.Ytfampdiompjmeaa
