/-
  The pieces of a trunk, and the sticks that are sawn of trunks (the program's).
-/
import Derived.Test.YtepkkhdfobhhjaaStE
import Derived.RangeFuncFrom
import Derived.RangeFuncBox
import Derived.TacticsInMore
import Derived.LoopNIn
import Derived.LoopIn
import Derived.RangeFuncBound
import Derived.RangeFuncCalls
import Derived.Shelf.Abstract
namespace Go.Proofs.Ytepkkhdfobhhjaa
open Go.RowKit Go.Shelf

attribute [local go_sem] Oper.semAt_some

/-- Where a piece begins. -/
def frm (zs : List Int) (saw : Int) : Nat → Int
  | 0 => 0
  | k + 1 => zs[k]?.getD 0 + saw
def pcK (zs : List Int) (saw : Int) (k : Nat) : List Int := (List.range k).map fun i => zs[i]?.getD 0 - frm zs saw i
def pcs (n saw : Int) (zs : List Int) : List Int := pcK zs saw zs.length ++ [n - frm zs saw zs.length]
theorem pcK_succ (zs : List Int) (saw : Int) (k : Nat) : pcK zs saw (k + 1) = pcK zs saw k ++ [zs[k]?.getD 0 - frm zs saw k] := by simp [pcK, List.range_succ]
theorem pcK_len (zs : List Int) (saw : Int) (k : Nat) : (pcK zs saw k).length = k := by simp [pcK]
theorem frm_bnd {zs : List Int} {saw : Int} (h0 : 0 ≤ saw) (h1 : saw ≤ 50) (hz : ∀ z ∈ zs, 0 ≤ z ∧ z ≤ 20000) : ∀ k, k ≤ zs.length → 0 ≤ frm zs saw k ∧ frm zs saw k ≤ 20050
  | 0, _ => by simp [frm]
  | k + 1, hk => by
    have h := hz _ (List.getElem_mem (show k < zs.length by omega))
    have e : zs[k]?.getD 0 = zs[k] := by simp [show k < zs.length by omega]
    simp only [frm, e]
    omega
def encP (p : Int) : Array Value := #[.int .i64 p]
def KpP (n₀ b : Nat) (W W' : World) : Prop := (∀ j, j < n₀ → W'.heap[j]? = W.heap[j]?) ∧ W'.heap[b]? = W.heap[b]? ∧ W'.heap[b + 1]? = W.heap[b + 1]?
theorem KpP.trans {n₀ b : Nat} {A B C : World} (h : KpP n₀ b A B) (k : KpP n₀ b B C) : KpP n₀ b A C := ⟨fun j hj => (k.1 j hj).trans (h.1 j hj), k.2.1.trans h.2.1, k.2.2.trans h.2.2⟩

theorem pieces_any (V : List Value) (saw : Int) (w : World) : Calls Try.prog 55 #[.agg V.toArray, .int .i64 saw] w fun e w' =>
    e = .returned (.func (.func 77) #[] #[.pointer (some ⟨w.heap.size, 0, none⟩), .pointer (some ⟨w.heap.size + 1, 0, none⟩)]) ∧
      w' = (w.alloc (.cells V.toArray 59)).alloc (.cells #[.int .i64 saw] 3) := by
  go_enter Try.func55, Try.ntmps55
  go_wp2
  go_ret
  exact ⟨rfl, rfl⟩

set_option maxRecDepth 100000 in
set_option maxHeartbeats 4000000 in
theorem pieces_stops (x : Tk) (saw : Int) (n n₀ b : Nat) (hn : 1 ≤ n) (hl : x.zs.length ≤ 1000) (w : World) (hb : b + 1 < w.heap.size) (h0 : 0 ≤ saw) (h50 : saw ≤ 50) (hxn : 100 ≤ x.n) (hxn2 : x.n ≤ 20000) (hzb : ∀ z ∈ x.zs, 0 ≤ z ∧ z ≤ 20000)
    (hn₀ : n₀ ≤ w.heap.size) (hz : Ints w n₀ x.A x.zs)
    (hb0 : w.heap[b]? = some (.cells (tkc x).toArray 59 (0, 0))) (hb1 : w.heap[b + 1]? = some (.cells #[.int .i64 saw] 3 (0, 0))) :
    SeqStopsK Fence.wide n Try.prog 77 #[.pointer (some ⟨b, 0, none⟩), .pointer (some ⟨b + 1, 0, none⟩)] encP (KpP n₀ b) (fun xs => xs = pcs x.n saw x.zs) (fun _ => True) (x.zs.length + 1) w := by
  intro l J Jx W hW _ _ hY hJ0
  have hbW := (hW.block b (by omega)).trans hb0
  have hsW := (hW.block (b + 1) hb).trans hb1
  have hzW : Ints W n₀ x.A x.zs := hz.below (hW.mono hn₀)
  have hfb := frm_bnd h0 h50 hzb
  have HY := Lib.hid hY
  have HZ := Lib.hid hzW
  have HB := Lib.hid (And.intro hbW hsW)
  have HF := Lib.hid hfb
  have HZB := Lib.hid hzb
  have HXN := Lib.hid (And.intro hxn hxn2)
  unfold tkc at hbW
  have hcB := fun i => cell_of_row W b i _ _ _ hbW
  clear hY hzW hbW hsW hb0 hb1 hz hW hfb hzb hxn hxn2
  refine callsIn_of_wp Try.func77 rfl trivial ?_ rfl
  simp only [Try.ntmps77, List.size_toArray, List.length_cons, List.length_nil, Nat.reduceAdd, Nat.reduceSub, Array.replicate_succ, Array.replicate_zero, List.push_toArray, List.append_toArray, List.nil_append, List.cons_append]
  gi_wp2_with fail
  gi_loopw [4, 10] (fun s4 s10 wr => ∃ k : Nat, k ≤ x.zs.length ∧ s4 = .int .i64 (frm x.zs saw k) ∧ s10 = .int .i64 k ∧ Hid (J (pcK x.zs saw k) wr) ∧ Hid (KpP n₀ b W wr))
    (fun _ s10 _ => x.zs.length - (intOf s10).toNat)
  case atStart => exact ⟨0, Nat.zero_le _, rfl, rfl, hJ0, fun _ _ => rfl, rfl, rfl⟩
  case round =>
    obtain ⟨k, hk, rfl, rfl, hJ, hK⟩ := hrel
    clear hcB
    have hbr := hK.out.2.1.trans HB.out.1
    unfold tkc at hbr
    have hcb2 := fun i => cell_of_row wr b i _ _ _ hbr
    have hf := HF.out k hk
    by_cases hlt : k < x.zs.length
    · have hkz : (k : Int) < x.zs.length := by omega
      obtain ⟨c, off, hA, hcB, hc⟩ := HZ.out (by omega)
      have hcz : wr.cell? ⟨c, off + k, none⟩ = some (.int .i64 (x.zs[k]?.getD 0)) := (World.cell?_of_block (w := W) (hK.out.1 c hcB)).trans (hc k hlt)
      have hzk := HZB.out _ (List.getElem_mem hlt)
      have hfs : frm x.zs saw (k + 1) = x.zs[k]?.getD 0 + saw := rfl
      have hps := pcK_succ x.zs saw k
      have hy := HY.out (pcK x.zs saw k) (x.zs[k]?.getD 0 - frm x.zs saw k) wr hJ.out (by rw [pcK_len]; omega)
      rw [show x.zs[k] = x.zs[k]?.getD 0 by simp [hlt]] at hzk
      rw [← hps] at hy
      simp only [encP] at hy
      generalize x.zs[k]?.getD 0 = z at hcz hy hzk hfs
      generalize frm x.zs saw k = f at hy hf
      have Hy := Lib.hid hy
      have HN := Lib.hid hfs
      have HA := Lib.hid hbr
      clear hy hfs hps hc hbr
      rw [hA] at hcb2 ⊢
      clear hA
      gi_wp2_with
        (show wpListIn _ _ _ _ _ (Oper.mk (some 18) _ _ _ _ _ :: _) _ _
         refine wpListIn_yield (.tmp 14) #[.tmp 17] #[3] ?hgd ?ho ?hF hn (l := l) ?hf ?hvs Hy.out ?_
         case hgd => rfl
         case ho => rfl
         case hF => exact fun _ => trivial
         case hf => rfl
         case hvs => simp [Act.eval]
         rintro e w7 (⟨rfl, hJ7, hK7⟩ | ⟨rfl, hx7⟩)
         refine ⟨_, rfl, ?_⟩
         have hs7 := cell_of_row w7 (b + 1) 0 _ _ _ (hK7.2.2.trans (hK.out.2.2.trans HB.out.2))
         have J7 := Lib.hid (And.intro hJ7 hK7)
         clear hJ7 hK7
         rotate_left
         refine ⟨_, rfl, ?_⟩
         have J7 := Lib.hid hx7
         clear hx7
         rotate_right)
      case roundEnd =>
        go_roundw
        case rel => exact ⟨k + 1, by omega, by rw [HN.out], by go_num, J7.out.1, hK.out.trans J7.out.2⟩
        case measure => simp [intOf] <;> omega
      refine bodyPost_ret (results_none rfl _ _ _) rfl ?_
      exact ⟨⟨_, rfl⟩, .inr ⟨_, trivial, J7.out⟩⟩
    · obtain rfl : k = x.zs.length := by omega
      have hxn := HXN.out
      have hy := HY.out (pcK x.zs saw x.zs.length) (x.n - frm x.zs saw x.zs.length) wr hJ.out (by rw [pcK_len]; omega)
      have hpe : pcK x.zs saw x.zs.length ++ [x.n - frm x.zs saw x.zs.length] = pcs x.n saw x.zs := rfl
      rw [hpe] at hy
      simp only [encP] at hy
      generalize frm x.zs saw x.zs.length = f at hy hf
      have Hy := Lib.hid hy
      clear hy hpe
      gi_wp2_with
        (show wpListIn _ _ _ _ _ (Oper.mk (some 29) _ _ _ _ _ :: _) _ _
         refine wpListIn_yield (.tmp 24) #[.tmp 28] #[3] ?hgd ?ho ?hF hn (l := l) ?hf ?hvs Hy.out ?_
         case hgd => rfl
         case ho => rfl
         case hF => exact fun _ => trivial
         case hf => rfl
         case hvs => simp [Act.eval]
         rintro e w7 (⟨rfl, hJ7, hK7⟩ | ⟨rfl, hx7⟩)
         refine ⟨_, rfl, ?_⟩
         have J7 := Lib.hid hJ7
         clear hJ7 hK7
         rotate_left
         refine ⟨_, rfl, ?_⟩
         have J7 := Lib.hid hx7
         clear hx7
         rotate_right)
      · go_end0
        exact ⟨⟨_, rfl⟩, .inl J7.out⟩
      · go_end0
        exact ⟨⟨_, rfl⟩, .inr ⟨_, J7.out⟩⟩

end Go.Proofs.Ytepkkhdfobhhjaa
