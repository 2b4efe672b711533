/-
  The reference's hour.
-/
import Derived.Test.YtpnnlmaipcjkmaaGreatQV34
import Derived.Test.YtpnnlmaipcjkmaaGreatQV35
import Derived.Test.YtpnnlmaipcjkmaaGreatQV30
set_option linter.all false
namespace Go.Proofs.YtpnnlmaipcjkmaaGreat
open Go.RowKit Go.Shelf

attribute [local go_sem] gives

def greatB (l : List Sl) : Bool := decide (8 < l.length) || l.any fun s => decide (12 < s.zs.length)

set_option maxRecDepth 100000 in
set_option maxHeartbeats 4000000 in
theorem great_any (t : Bt) (A : Option Addr) (cap : Nat) (l : List Sl) (B : Nat) (w : World) (hB : B ≤ w.heap.size) (hz : Rows w B A l) (hl : l.length ≤ 9223372036854775807) :
    Calls Tryz.prog 43 #[.agg (btcells t (.slice A l.length cap))] w fun e w' => e = .returned (.bool (greatB l)) ∧ Below w.heap.size w w' := by
  unfold btcells
  have HZ := Lib.hid hz
  obtain ⟨w1, hw1⟩ : ∃ w1, w.alloc (.cells #[.int .i64 t.water, .int .i64 t.borax, .slice A l.length cap, .int .i64 t.lo, .int .i64 t.hi, .int .i64 t.need] 63) = w1 := ⟨_, rfl⟩
  have hbw : Below w.heap.size w w1 := by rw [← hw1]; exact grow1 _ _
  have hc1 := fun i => cell_of_row w1 w.heap.size i _ _ _ (show w1.heap[w.heap.size]? = some (.cells #[.int .i64 t.water, .int .i64 t.borax, .slice A l.length cap, .int .i64 t.lo, .int .i64 t.hi, .int .i64 t.need] 63 (0, 0)) by rw [← hw1]; exact alloc_at0 _ _)
  have HBW := Lib.hid hbw
  clear hbw hz
  by_cases h8 : 8 < l.length
  · have e : greatB l = true := by simp [greatB, h8]
    have h8z : (8 : Int) < l.length := by omega
    rw [e]
    clear e
    go_enter Tryz.func43, Tryz.ntmps43
    go_wp2
    go_ret
    exact ⟨rfl, HBW.out⟩
  · have e : greatB l = l.any fun s => decide (12 < s.zs.length) := by simp [greatB, h8]
    have h8z : ¬ (8 : Int) < l.length := by omega
    rw [e]
    clear e
    have hP : ∃ P : Sl → Bool, P = fun s => decide (12 < s.zs.length) := ⟨_, rfl⟩
    obtain ⟨P, hP⟩ := hP
    rw [← hP]
    have HPP := Lib.hid hP
    clear hP
    go_enter Tryz.func43, Tryz.ntmps43
    go_wp2
    go_loopg [3] l.length (fun gg s3 wx => ∃ k : Nat, k + gg = l.length ∧ s3 = .int .i64 k ∧ Hid ((l.drop k).any P = l.any P) ∧ wx = w1)
    case atStart => exact ⟨0, by omega, rfl, rfl, rfl⟩
    case round =>
      obtain ⟨k, hkg, rfl, hI, rfl⟩ := hrel
      cases gk with
      | zero =>
        obtain rfl : k = l.length := by omega
        go_wp2
        go_ret
        refine ⟨?_, HBW.out⟩
        rw [← hI.out, List.drop_length]
        rfl
      | succ gg =>
        have hk : k < l.length := by omega
        have hkz : (k : Int) < l.length := by omega
        obtain ⟨c, off, hA, hcB, hc⟩ := HZ.out.va (by rw [slvs_len]; omega)
        subst hA
        have hc0 : wr.cell? ⟨c, off + k, none⟩ = _ := (HBW.out.cell (p := ⟨c, off + k, none⟩) (by simp; omega)).trans (hc k _ (slvs_at l k hk))
        have hst : (l.drop k).any P = (P l[k] || (l.drop (k + 1)).any P) := by rw [List.drop_eq_getElem_cons hk]; rfl
        rw [hI.out] at hst
        have hpp := congrFun HPP.out l[k]
        generalize l[k] = y at hc0 hst hpp
        unfold slv at hc0
        have HST := Lib.hid hst
        clear hc hst
        by_cases hp : 12 < y.zs.length
        · have hpz : (12 : Int) < y.zs.length := by omega
          have e : P y = true := by rw [hpp]; simp [hp]
          have HE := Lib.hid e
          clear e hpp
          go_wp2
          go_ret
          exact ⟨by rw [HST.out, HE.out]; rfl, HBW.out⟩
        · have hpz : ¬ (12 : Int) < y.zs.length := by omega
          have e : P y = false := by rw [hpp]; simp [hp]
          have HE := Lib.hid e
          clear e hpp
          go_wp2
          go_roundg gg
          case measure => omega
          case rel => exact ⟨k + 1, by omega, by go_num, by rw [HST.out, HE.out]; rfl, rfl⟩

end Go.Proofs.YtpnnlmaipcjkmaaGreat
