/-
  The fingerings of a flute, as they are yielded.
-/
import Derived.Test.YthjpgpelbagceaaFuH
import Derived.RangeFuncFrom
import Derived.RangeFuncBox
import Derived.TacticsInMore
import Derived.LoopNIn
import Derived.LoopIn
import Derived.RangeFuncBound
import Derived.RangeFuncCalls
import Derived.Shelf.Abstract
import Derived.IntWalk
set_option linter.all false
namespace Go.Proofs.Ythjpgpelbagceaa
open Go.RowKit Go.Shelf

attribute [local go_sem] Oper.semAt_some

abbrev Fi (L : Nat) : Type := { n : Nat // n < 2 ^ L }
def encF (L : Nat) (x : Fi L) : Array Value := #[.int .u8 (x.1 : Int)]
def KpF (n₀ b : Nat) (W W' : World) : Prop := (∀ j, j < n₀ → W'.heap[j]? = W.heap[j]?) ∧ W'.heap[b]? = W.heap[b]?
theorem KpF.trans {n₀ b : Nat} {A B C : World} (h : KpF n₀ b A B) (k : KpF n₀ b B C) : KpF n₀ b A C := ⟨fun j hj => (k.1 j hj).trans (h.1 j hj), k.2.trans h.2⟩

theorem fingerings_any (V : List Value) (w : World) : Calls Try.prog 72 #[.agg V.toArray] w fun e w' =>
    e = .returned (.func (.func 90) #[] #[.pointer (some ⟨w.heap.size, 0, none⟩)]) ∧ w' = w.alloc (.cells V.toArray 28) := by
  go_enter Try.func72, Try.ntmps72
  go_wp2
  go_ret
  exact ⟨rfl, rfl⟩

set_option maxRecDepth 100000 in
set_option maxHeartbeats 4000000 in
theorem fingerings_stops (f : Fu) (hl : f.hs.length ≤ 8) (n n₀ b : Nat) (hn : 1 ≤ n) (w : World) (hb : b < w.heap.size) (hb0 : w.heap[b]? = some (.cells (fuc f).toArray 28 (0, 0))) :
    SeqStopsK Fence.wide n Try.prog 90 #[.pointer (some ⟨b, 0, none⟩)] (encF f.hs.length) (KpF n₀ b) (fun xs => xs.map (·.1) = List.range (2 ^ f.hs.length)) (fun _ => True) (2 ^ f.hs.length) w := by
  intro l J Jx W hW _ _ hY hJ0
  have hbW := (hW.block b (by omega)).trans hb0
  have HY := Lib.hid hY
  have HB := Lib.hid hbW
  have hN8 : 2 ^ f.hs.length ≤ 256 := Nat.pow_le_pow_right (n := 2) (by omega) hl
  have hlz : (f.hs.length : Int) ≤ 8 := by omega
  obtain ⟨N, hN⟩ : ∃ N, N = 2 ^ f.hs.length := ⟨_, rfl⟩
  rw [← hN] at hN8
  have hNz : ((2 : Int) ^ f.hs.length) = (N : Int) := by rw [hN]; simp
  have hNw : wrap64 ((2 : Int) ^ f.hs.length) = (N : Int) := by rw [hNz]; unfold wrap64; omega
  have hNi : (N : Int) ≤ 256 := by omega
  have HN := Lib.hid hN
  clear hN hNz
  unfold fuc at hbW
  have hcB := fun i => cell_of_row W b i _ _ _ hbW
  clear hY hbW hb0 hW
  refine callsIn_of_wp Try.func90 rfl trivial ?_ rfl
  simp only [Try.ntmps90, List.size_toArray, List.length_cons, List.length_nil, Nat.reduceAdd, Nat.reduceSub, Array.replicate_succ, Array.replicate_zero, List.push_toArray, List.append_toArray, List.nil_append, List.cons_append]
  gi_wp2_with fail
  rw [hNw]
  clear hNw
  gi_loopw [8] (fun s8 wr => ∃ (k : Nat) (pre : List (Fi f.hs.length)), k ≤ N ∧ s8 = .int .i64 k ∧ Hid (pre.map (·.1) = List.range k) ∧ Hid (J pre wr) ∧ Hid (KpF n₀ b W wr))
    (fun s8 _ => N - (intOf s8).toNat)
  case atStart => exact ⟨0, [], Nat.zero_le _, rfl, rfl, hJ0, fun _ _ => rfl, rfl⟩
  case round =>
    obtain ⟨k, pre, hk, rfl, hpre, hJ, hK⟩ := hrel
    clear hcB
    by_cases hlt : k < N
    · have hkz : (k : Int) < N := by omega
      have hk8 : IntKind.u8.wrap (k : Int) = k := by rw [IntKind.wrap_u8]; omega
      have hpl : pre.length = k := by have := congrArg List.length hpre.out; simpa using this
      have hkN : k < 2 ^ f.hs.length := by rw [← HN.out]; exact hlt
      have hy := HY.out pre ⟨k, hkN⟩ wr hJ.out (by rw [hpl]; exact hkN)
      have hnx : (pre ++ [(⟨k, hkN⟩ : Fi f.hs.length)]).map (·.1) = List.range (k + 1) := by rw [List.map_append, hpre.out, List.range_succ]; rfl
      have HX := Lib.hid hnx
      clear hpl hnx
      simp only [encF] at hy
      have Hy := Lib.hid hy
      clear hy
      gi_wp2_with
        (show wpListIn _ _ _ _ _ (Oper.mk (some 14) _ _ _ _ _ :: _) _ _
         refine wpListIn_yield (.tmp 11) #[.tmp 13] #[5] ?hgd ?ho ?hF hn (l := l) ?hf ?hvs Hy.out ?_
         case hgd => rfl
         case ho => rfl
         case hF => exact fun _ => trivial
         case hf => rfl
         case hvs => simp [Act.eval]
         rintro e w7 (⟨rfl, hJ7, hK7⟩ | ⟨rfl, hx7⟩)
         refine ⟨_, rfl, ?_⟩
         have J7 := Lib.hid (And.intro hJ7 hK7)
         clear hJ7 hK7
         rotate_left
         refine ⟨_, rfl, ?_⟩
         have J7 := Lib.hid hx7
         clear hx7
         rotate_right)
      case roundEnd =>
        go_roundw
        case rel => exact ⟨k + 1, _, by omega, by go_num, HX.out, J7.out.1, hK.out.trans J7.out.2⟩
        case measure => simp [intOf] <;> omega
      refine bodyPost_ret (results_none rfl _ _ _) rfl ?_
      exact ⟨⟨_, rfl⟩, .inr ⟨_, trivial, J7.out⟩⟩
    · obtain rfl : k = N := by omega
      gi_wp2_with fail
      go_end0
      exact ⟨⟨_, rfl⟩, .inl ⟨pre, by rw [hpre.out, HN.out], hJ.out⟩⟩

end Go.Proofs.Ythjpgpelbagceaa
