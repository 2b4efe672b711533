/-
  slices.Backward over ints, also of none.
-/
import Derived.Test.YthjpgpelbagceaaFuU
import Derived.RangeFuncFrom
import Derived.RangeFuncBox
set_option linter.all false
namespace Go.Proofs.Ythjpgpelbagceaa
open Go.RowKit Go.Shelf

attribute [local go_sem] Oper.semAt_some

def Kp2 (S Bg : Nat) (W W' : World) : Prop := W'.heap[S]? = W.heap[S]? ∧ W'.heap[Bg]? = W.heap[Bg]?
abbrev Idx (zs : List Int) : Type := { i : Nat // i < zs.length }
def encI (zs : List Int) (x : Idx zs) : Array Value := #[.int .i64 (x.1 : Int), .int .i64 (zs[x.1]?.getD 0)]

theorem backward_any (a : Option Addr) (len cap : Nat) (w : World) :
    Calls Try.prog 71 #[.slice a len cap] w fun e w' => e = .returned (.func (.func 89) #[] #[.pointer (some ⟨w.heap.size, 0, none⟩)]) ∧ w' = w.alloc (.cells #[.slice a len cap] 32) := by
  go_enter Try.func71, Try.ntmps71
  go_wp2
  go_ret
  exact ⟨rfl, rfl⟩

theorem rev_take {n k : Nat} (hk : k < n) : (List.range n).reverse.take (k + 1) = (List.range n).reverse.take k ++ [n - 1 - k] := by
  rw [List.take_succ_eq_append_getElem (by simpa using hk)]
  simp

set_option maxRecDepth 100000 in
set_option maxHeartbeats 4000000 in
theorem backward_stops (n S off Bg cap : Nat) (zs : List Int) (hn : 1 ≤ n) (hl : zs.length ≤ 1000) (w : World) (hS : S < w.heap.size) (hBg : Bg < w.heap.size)
    (hbox : w.heap[Bg]? = some (.cells #[.slice (some ⟨S, off, none⟩) zs.length cap] 32 (0, 0))) (hz : ∀ j, j < zs.length → w.cell? ⟨S, off + j, none⟩ = some (.int .i64 (zs[j]?.getD 0))) :
    SeqStopsK Fence.wide n Try.prog 89 #[.pointer (some ⟨Bg, 0, none⟩)] (encI zs) (Kp2 S Bg) (fun xs => xs.map (·.1) = (List.range zs.length).reverse) (fun _ => True) zs.length w := by
  intro l J Jx W hW _ _ hY h0
  have hbW := (hW.block Bg hBg).trans hbox
  have hSW := hW.block S hS
  have hzW : ∀ j, j < zs.length → W.cell? ⟨S, off + j, none⟩ = some (.int .i64 (zs[j]?.getD 0)) := fun j hj => (World.cell?_of_block (w := w) hSW).trans (hz j hj)
  have HY := Lib.hid hY
  have HZ := Lib.hid hzW
  have HB := Lib.hid hbW
  have hcB := fun i => cell_of_row W Bg i _ _ _ hbW
  clear hY hzW hbW hbox hz hSW hW
  refine callsIn_of_wp Try.func89 rfl trivial ?_ rfl
  simp only [Try.ntmps89, List.size_toArray, List.length_cons, List.length_nil, Nat.reduceAdd, Nat.reduceSub, Array.replicate_succ, Array.replicate_zero, List.push_toArray, List.append_toArray, List.nil_append, List.cons_append]
  gi_wp2_with fail
  gi_loopw [3] (fun i wr => ∃ (k : Nat) (pre : List (Idx zs)), k ≤ zs.length ∧ i = .int .i64 ((zs.length : Int) - 1 - k) ∧ Hid (pre.map (·.1) = (List.range zs.length).reverse.take k) ∧ Hid (J pre wr) ∧ Hid (Kp2 S Bg W wr))
    (fun i _ => (intOf i + 1).toNat)
  case atStart => exact ⟨0, [], Nat.zero_le _, by simp, by simp [Hid], h0, rfl, rfl⟩
  case round =>
    obtain ⟨k, pre, hk, rfl, hpre, hJ, hK⟩ := hrel
    have hcB2 := fun i => cell_of_row wr Bg i _ _ _ (hK.out.2.trans HB.out)
    by_cases hlt : k < zs.length
    · obtain ⟨j, hj⟩ : ∃ j : Nat, j = zs.length - 1 - k := ⟨_, rfl⟩
      have e1 : ((zs.length : Int) - 1 - k) = (j : Int) := by omega
      have hjl : j < zs.length := by omega
      have hcz : wr.cell? ⟨S, off + j, none⟩ = some (.int .i64 (zs[j]?.getD 0)) := (World.cell?_of_block (w := W) hK.out.1).trans (HZ.out j hjl)
      have hpl : pre.length = k := by have := congrArg List.length hpre.out; simpa [Nat.min_eq_left hk] using this
      have hy := HY.out pre ⟨j, hjl⟩ wr hJ.out (by omega)
      rw [show encI zs ⟨j, hjl⟩ = #[.int .i64 (j : Int), .int .i64 (zs[j]?.getD 0)] from rfl] at hy
      generalize zs[j]?.getD 0 = x at hcz hy
      have hnext : ((pre ++ [(⟨j, hjl⟩ : Idx zs)]).map (·.1)) = (List.range zs.length).reverse.take (k + 1) := by
        rw [rev_take hlt, List.map_append, hpre.out, ← hj]; rfl
      have hj2 : ((zs.length : Int) - 1 - ((k + 1 : Nat) : Int)) = (j : Int) - 1 := by omega
      have hjn : (j : Int) < (zs.length : Int) := by omega
      have hj0 : (0 : Int) ≤ (j : Int) := by omega
      have hj9 : (j : Int) ≤ 1000 := by omega
      rw [e1]
      have Hy := Lib.hid hy
      have HN := Lib.hid (And.intro hnext hj2)
      clear hy hnext hj2 e1 hj hpl
      gi_wp2_with
        (show wpListIn _ _ _ _ _ (Oper.mk (some 17) _ _ _ _ _ :: _) _ _
         refine wpListIn_yield (.tmp 11) #[.tmp 12, .tmp 16] #[3, 3] ?hgd ?ho ?hF hn (l := l) ?hf ?hvs Hy.out ?_
         case hgd => rfl
         case ho => rfl
         case hF => exact fun _ => trivial
         case hf => rfl
         case hvs => simp [Act.eval]
         rintro e w7 (⟨rfl, hJ7, hK7⟩ | ⟨rfl, hx7⟩)
         refine ⟨_, rfl, ?_⟩
         have J7 := Lib.hid (And.intro hJ7 hK7)
         clear hJ7 hK7
         rotate_left
         refine ⟨_, rfl, ?_⟩
         have J7 := Lib.hid hx7
         clear hx7
         rotate_right)
      case roundEnd =>
        go_roundw
        case rel => exact ⟨k + 1, _, by omega, by rw [HN.out.2], HN.out.1, J7.out.1, J7.out.2.1.trans hK.out.1, J7.out.2.2.trans hK.out.2⟩
        case measure => simp [intOf] <;> omega
      refine bodyPost_ret (results_none rfl _ _ _) rfl ?_
      exact ⟨⟨_, rfl⟩, .inr ⟨_, trivial, J7.out⟩⟩
    · obtain rfl : k = zs.length := by omega
      have e1 : ((zs.length : Int) - 1 - (zs.length : Int)) = -1 := by omega
      rw [e1]
      gi_wp2_with fail
      go_end0
      exact ⟨⟨_, rfl⟩, .inl ⟨pre, by have := hpre.out; rw [List.take_of_length_le (by simp)] at this; exact this, hJ.out⟩⟩


set_option maxRecDepth 100000 in
set_option maxHeartbeats 4000000 in
theorem backward_none (n Bg cap : Nat) (A : Option Addr) (hn : 1 ≤ n) (w : World) (hBg : Bg < w.heap.size) (hbox : w.heap[Bg]? = some (.cells #[.slice A 0 cap] 32 (0, 0))) :
    SeqStopsK Fence.wide n Try.prog 89 #[.pointer (some ⟨Bg, 0, none⟩)] (encI []) (Kp2 Bg Bg) (fun xs => xs.map (·.1) = (List.range 0).reverse) (fun _ => True) 0 w := by
  intro l J Jx W hW _ _ hY h0
  have hbW := (hW.block Bg hBg).trans hbox
  have HB := Lib.hid hbW
  have hcB := fun i => cell_of_row W Bg i _ _ _ hbW
  clear hY hbW hbox hW
  refine callsIn_of_wp Try.func89 rfl trivial ?_ rfl
  simp only [Try.ntmps89, List.size_toArray, List.length_cons, List.length_nil, Nat.reduceAdd, Nat.reduceSub, Array.replicate_succ, Array.replicate_zero, List.push_toArray, List.append_toArray, List.nil_append, List.cons_append]
  gi_wp2_with fail
  gi_loopw [3] (fun i wr => i = .int .i64 (-1) ∧ Hid (J [] wr) ∧ Hid (Kp2 Bg Bg W wr)) (fun i _ => 0)
  case atStart => exact ⟨rfl, h0, rfl, rfl⟩
  case round =>
    obtain ⟨rfl, hJ, hK⟩ := hrel
    have hcB2 := fun i => cell_of_row wr Bg i _ _ _ (hK.out.2.trans HB.out)
    gi_wp2_with fail
    go_end0
    exact ⟨⟨_, rfl⟩, .inl ⟨[], rfl, hJ.out⟩⟩

/-- The backward iterator, wherever the numbers lie. -/
theorem backward_all (n Bg cap : Nat) (A : Option Addr) (zs : List Int) (hn : 1 ≤ n) (hl : zs.length ≤ 1000) (B : Nat) (w : World) (hB : B ≤ Bg) (hBg : Bg < w.heap.size)
    (hbox : w.heap[Bg]? = some (.cells #[.slice A zs.length cap] 32 (0, 0))) (hz : Ints w B A zs) :
    ∃ Sb, (Sb < B ∨ Sb = Bg) ∧ SeqStopsK Fence.wide n Try.prog 89 #[.pointer (some ⟨Bg, 0, none⟩)] (encI zs) (Kp2 Sb Bg) (fun xs => xs.map (·.1) = (List.range zs.length).reverse) (fun _ => True) zs.length w := by
  cases zs with
  | nil => exact ⟨Bg, .inr rfl, backward_none n Bg cap A hn w hBg hbox⟩
  | cons z l =>
    obtain ⟨b, off, hA, hb, hc⟩ := hz (by simp)
    subst hA
    exact ⟨b, .inl hb, backward_stops n b off Bg cap (z :: l) hn hl w (by omega) hBg hbox hc⟩

end Go.Proofs.Ythjpgpelbagceaa
