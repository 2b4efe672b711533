/-
  A grove a year later; a cut.
-/
import Derived.Test.YtkjdapgkojfbmaaModel
import Derived.Deep.QuietTactic
import Derived.BigQuiet
import Derived.RegionTactic
import Derived.ChangeAlike
import Derived.Outline
namespace Go.Proofs.Ytkjdapgkojfbmaa
open Go.RowKit

set_option maxHeartbeats 1000000 in
theorem cut_any (h : Hab) (d r : Nat) (hd : h.dies = d) (hr : h.ripe = r) (hr1 : 1 ≤ r) (hrd : r ≤ d) (hd6 : d ≤ 6) (c : List Int) (hc : c.length = 7) (M : Int) (hM : M ≤ 1000000) (hb : Bnd 0 M c) (n : Int) (hn : 0 ≤ n) (hn2 : n ≤ M) (w : World) :
    Calls Try.prog 76 #[gv h c, .int .i64 n] w fun e w' => e = .returned (.tuple #[gv h (cutTo c n d (d - r + 1)).1, .agg (ints (cutTo c n d (d - r + 1)).2.1).toArray]) ∧ Below w.heap.size w w' := by
  obtain ⟨lo, hi, be, ri, di, ke⟩ := h
  simp only at hd hr
  subst hd hr
  have hc0 := Lib.hid hc
  obtain ⟨c0, c1, c2, c3, c4, c5, c6, hc7⟩ := len7 hc
  clear hc
  rw [show gv ⟨lo, hi, be, (r : Int), (d : Int), ke⟩ c = .agg #[.int .i64 lo, .int .i64 hi, .int .i64 be, .int .i64 r, .int .i64 d, .int .i64 ke, .int .i64 c0, .int .i64 c1, .int .i64 c2, .int .i64 c3, .int .i64 c4, .int .i64 c5, .int .i64 c6] from by rw [hc7]; rfl]
  go_enter Try.func76, Try.ntmps76
  go_wp2
  go_loopw [1, 6] (fun m i wr => ∃ k : Nat, k ≤ d - r + 1 ∧ i = .int .i64 ((d : Int) - k) ∧ m = .int .i64 (cutTo c n d k).2.2 ∧
      wr.heap[w.heap.size]? = some (.cells (gcells ⟨lo, hi, be, r, d, ke⟩ (cutTo c n d k).1) 96 (0, 0)) ∧
      wr.heap[w.heap.size + 1]? = some (.cells (gcells ⟨0, 0, 0, 0, 0, 0⟩ [0, 0, 0, 0, 0, 0, 0]) 96 (0, 0)) ∧
      wr.heap[w.heap.size + 1 + 1]? = some (.cells (ints (cutTo c n d k).2.1).toArray 81 (0, 0)) ∧ Below w.heap.size w wr)
    (fun _ i _ => (intOf i - r + 1).toNat)
  case atStart =>
    refine ⟨0, Nat.zero_le _, by simp, rfl, ?_, ?_, ?_, (((Below.refl _ _).alloc (Nat.le_refl _) _).alloc (by simp) _).alloc (by simp; omega) _⟩
    · rw [alloc3_at0, hc7]; rfl
    · rw [alloc3_at1]; rfl
    · rw [alloc3_at2, hc7]; rfl
  case round =>
    obtain ⟨k, hk, rfl, rfl, hP, hR, hG, hBel⟩ := hrel
    by_cases hlt : k ≤ d - r
    · obtain ⟨a, ha⟩ : ∃ a : Nat, a = d - k := ⟨_, rfl⟩
      have e1 : ((d : Int) - k) = (a : Int) := by omega
      have hlen := cutTo_len c n d k
      rw [hc0.out] at hlen
      have hbk := cutTo_bnd hb hn hn2 d (by rw [hc0.out]; omega) k (by omega)
      have hx := hbk.1 a (by omega)
      have cx : wr.cell? ⟨w.heap.size, 6 + a, none⟩ = _ := (cell_of_row wr _ _ _ _ _ hP).trans (gcells_at _ _ a (by omega))
      have cr : wr.cell? ⟨w.heap.size, 3, none⟩ = some (.int .i64 r) := (cell_of_row wr _ _ _ _ _ hP).trans rfl
      have cg : wr.cell? ⟨w.heap.size + 1 + 1, a, none⟩ = _ := (cell_of_row wr _ _ _ _ _ hG).trans (ints_at _ a (by omega))
      have fx := frozen_of_row wr _ (6 + a) _ _ hP
      have fg := frozen_of_row wr _ a _ _ hG
      have hm := hbk.2.2
      have hstep := fun t u v => @cutTo_succ c n d k a ha _ _ rfl rfl t u v
      generalize hmm : (cutTo c n d k).2.2 = m at hm hstep ⊢
      generalize (cutTo c n d k).1[a]?.getD 0 = x at cx hx hstep
      generalize (cutTo c n d k).2.1[a]?.getD 0 = y at cg
      rw [e1]
      have Hs := Lib.hid hstep
      have HP := Lib.hid hP
      have HR := Lib.hid hR
      have HG := Lib.hid hG
      have HBel := Lib.hid hBel
      have Ha := Lib.hid ha
      have H7 := Lib.hid hc7
      clear hstep hP hR hG hBel e1 hbk hlen ha hmm hc7
      have hr' : (r : Int) ≤ a := by have := Ha.out; omega
      have ha7 : a < 7 := by have := Ha.out; omega
      have hak : (a : Int) - 1 = (d : Int) - ((k + 1 : Nat) : Int) := by have := Ha.out; omega
      have Hak := Lib.hid hak
      clear hak
      rcases Int.lt_or_le x m with hmx | hmx
      · have hs := set2 (i := 6 + a) (j := a) HP.out HG.out (by omega) (.int .i64 x) (.int .i64 0)
        have hBel2 := (HBel.out.setCell (p := ⟨w.heap.size + 1 + 1, a, none⟩) (by simp; omega) (.int .i64 x)).setCell (p := ⟨w.heap.size, 6 + a, none⟩) (Nat.le_refl _) (.int .i64 0)
        have e2 := Hs.out x 0 (m - x) (by omega) (by omega) rfl
        rw [gcells_set, ints_set] at hs
        have HS := Lib.hid hs
        have HB := Lib.hid hBel2
        have HE := Lib.hid e2
        clear hs hBel2 e2
        go_wp2
        go_region
        go_wp2
        go_roundw
        case rel =>
          have e2 := HE.out
          exact ⟨k + 1, by have := Ha.out; omega, by rw [Hak.out], by rw [e2], by rw [e2]; exact HS.out.1, by exact (HS.out.2.2 _ (by omega) (by omega)).trans HR.out, by rw [e2]; exact HS.out.2.1, HB.out.drew⟩
        case measure => simp [intOf]; omega
      · have hs := set2 (i := 6 + a) (j := a) HP.out HG.out (by omega) (.int .i64 m) (.int .i64 (x - m))
        have hBel2 := (HBel.out.setCell (p := ⟨w.heap.size + 1 + 1, a, none⟩) (by simp; omega) (.int .i64 m)).setCell (p := ⟨w.heap.size, 6 + a, none⟩) (Nat.le_refl _) (.int .i64 (x - m))
        have e2 := Hs.out m (x - m) 0 (by omega) rfl (by omega)
        rw [gcells_set, ints_set] at hs
        have HS := Lib.hid hs
        have HB := Lib.hid hBel2
        have HE := Lib.hid e2
        clear hs hBel2 e2
        go_wp2
        go_region
        go_wp2
        go_roundw
        case rel =>
          have e2 := HE.out
          exact ⟨k + 1, by have := Ha.out; omega, by rw [Hak.out], by rw [e2], by rw [e2]; exact HS.out.1, by exact (HS.out.2.2 _ (by omega) (by omega)).trans HR.out, by rw [e2]; exact HS.out.2.1, HB.out.drew⟩
        case measure => simp [intOf]; omega
    · obtain rfl : k = d - r + 1 := by omega
      have e1 : ((d : Int) - ((d - r + 1 : Nat) : Int)) = (r : Int) - 1 := by omega
      have hlen := cutTo_len c n d (d - r + 1)
      rw [hc0.out] at hlen
      rw [e1]
      have cr : wr.cell? ⟨w.heap.size, 3, none⟩ = some (.int .i64 r) := (cell_of_row wr _ _ _ _ _ hP).trans rfl
      generalize hst : cutTo c n d (d - r + 1) = st at hP hG hlen ⊢
      obtain ⟨c', g', m'⟩ := st
      simp only at hP hG hlen ⊢
      obtain ⟨p0, p1, p2, p3, p4, p5, p6, hp⟩ := len7 hlen.1
      obtain ⟨q0, q1, q2, q3, q4, q5, q6, hq⟩ := len7 hlen.2
      have cP := fun i => cell_of_row wr w.heap.size i _ _ _ hP
      have cG := fun i => cell_of_row wr (w.heap.size + 1 + 1) i _ _ _ hG
      have fG := fun i => frozen_of_row wr (w.heap.size + 1 + 1) i _ _ hG
      have fR := fun i => frozen_of_row wr (w.heap.size + 1) i _ _ hR
      have cR := fun i => cell_of_row wr (w.heap.size + 1) i _ _ _ hR
      rw [hp] at cP
      rw [hq] at cG
      simp only [gcells, hcells, ints, List.map_cons, List.map_nil, List.cons_append, List.nil_append] at cP cG cR
      have HP := Lib.hid hP
      have HR := Lib.hid hR
      have HG := Lib.hid hG
      have HBel := Lib.hid hBel
      have H7 := Lib.hid hc7
      have Hp := Lib.hid hp
      have Hq := Lib.hid hq
      have Hst := Lib.hid hst
      clear hP hR hG hBel e1 hlen hc7 hp hq hst
      go_wp2
      go_region
      go_wp2
      refine bodyPost_ret (v := .tuple #[.agg #[.int .i64 lo, .int .i64 hi, .int .i64 be, .int .i64 r, .int .i64 d, .int .i64 ke, .int .i64 p0, .int .i64 p1, .int .i64 p2, .int .i64 p3, .int .i64 p4, .int .i64 p5, .int .i64 p6], .agg #[.int .i64 q0, .int .i64 q1, .int .i64 q2, .int .i64 q3, .int .i64 q4, .int .i64 q5, .int .i64 q6]]) (by simp [results, Try.results76, go_sem, cR, cG]) rfl ⟨?_, ?_⟩
      · have e2 := Hst.out
        rw [e2, Hp.out, Hq.out]; rfl
      · have hBel := HBel.out
        repeat (first | with_reducible assumption | with_reducible refine Below.drew ?_ | (with_reducible refine Below.setCell ?_ ?hp _; case hp => simp; try omega))

end Go.Proofs.Ytkjdapgkojfbmaa
