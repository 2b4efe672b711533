/-
  what is lacking of G1 GrT GrX GrW G2
-/
import Derived.Test.YtddpebnmjfmgdaaGreatProg
import Derived.WalkKit
import Derived.WalkSpells
import Derived.WalkLawsBesides
import Derived.Lib.Hide
import Derived.Maps.AppendAt
import Derived.Orders
import Derived.KernelRfl
import Derived.Tactics
import Derived.Tactics2
import Derived.RangeFuncMany
import Derived.RangeFuncLeaves
import Derived.Deep.MidRow
import Derived.OwnWalkIn
import Derived.Laws.CopyOwn
import Derived.Test.YtddpebnmjfmgdaaGreatQC1
import Derived.Maps.OwnSet
import Derived.RangeFuncBound
import Derived.RangeFuncCalls
import Derived.Test.YtddpebnmjfmgdaaGreatQC10
import Derived.BigGuardPart
import Derived.Test.YtddpebnmjfmgdaaGreatQC14
import Derived.Test.YtddpebnmjfmgdaaGreatQC7
import Derived.Test.YtddpebnmjfmgdaaGreatQC26
import Derived.Test.YtddpebnmjfmgdaaGreatQC25
import Derived.Test.YtddpebnmjfmgdaaGreatQC16
import Derived.ProofKit
import Derived.ReadAgain
import Derived.Deep.SlicePairs
import Derived.Deep.QuietTactic
import Derived.BigQuiet
import Derived.Test.YtddpebnmjfmgdaaGreatQC27
set_option linter.all false
namespace Go.Proofs.YtddpebnmjfmgdaaGreat
open Go.RowKit

end Go.Proofs.YtddpebnmjfmgdaaGreat

namespace Go.Proofs.YtddpebnmjfmgdaaGreat
open Go.RowKit

end Go.Proofs.YtddpebnmjfmgdaaGreat

namespace Go.Proofs.YtddpebnmjfmgdaaGreat
open Go.RowKit

end Go.Proofs.YtddpebnmjfmgdaaGreat

namespace Go.Proofs.YtddpebnmjfmgdaaGreat
open Go.RowKit

end Go.Proofs.YtddpebnmjfmgdaaGreat

namespace Go.Proofs.YtddpebnmjfmgdaaGreat

section
variable (P : Program) (ops : Array Oper) (C : World → Prop) (S : World → World → Prop) (QN : Act → World → Prop)

variable {P ops C S QN}

variable (ops) in
end

end Go.Proofs.YtddpebnmjfmgdaaGreat

namespace Go.Proofs.YtddpebnmjfmgdaaGreat
open Go.RowKit

end Go.Proofs.YtddpebnmjfmgdaaGreat

namespace Go.Proofs.YtddpebnmjfmgdaaGreat
namespace R2

section
variable {ops : Array Oper}
variable (ops) in
end

section
variable (P : Program) (ops : Array Oper) (C : World → Prop) (S : Oper → World → World → Prop) (x0 : Nat) (Ψ : World → Prop) (QN : Act → World → Prop)

variable {P ops C S x0 Ψ QN}

variable {fs : List (Nat × Fact)} {us : List (Nat × Nat × Fact)}
end

end R2
end Go.Proofs.YtddpebnmjfmgdaaGreat

namespace Go.Proofs.YtddpebnmjfmgdaaGreat
namespace R3
open R2

section
variable (P : Program) (ops : Array Oper) (C : World → Prop) (S : Oper → World → World → Prop) (x0 : Option Nat) (Ψ : World → Prop) (QN : Act → World → Prop)

variable {P ops C S x0 Ψ QN}

variable {fs : List (Nat × Fact)} {us : List (Nat × Nat × Fact)}
end

end R3
end Go.Proofs.YtddpebnmjfmgdaaGreat

namespace Go.Proofs.YtddpebnmjfmgdaaGreat
namespace R4

section
variable {ops : Array Oper}
variable (ops) in
end

section
variable (P : Program) (ops : Array Oper) (C : (Nat → Value) → World → Prop) (S : (Nat → Value) → Oper → World → World → Prop) (x0 : Nat) (Ψ : World → Prop) (QN : Act → World → Prop)

variable {P ops C S x0 Ψ QN}

variable {fs : List (Nat × Fact)} {us : List (Nat × Nat × Fact)}
end

end R4
end Go.Proofs.YtddpebnmjfmgdaaGreat

namespace Go.Proofs.YtddpebnmjfmgdaaGreat
namespace R6
open R4 (upd slot_upd)

section
variable (P : Program) (ops : Array Oper) (C : (Nat → Bool) → (Nat → Value) → World → Prop) (QN : Act → World → Prop)

variable {P ops C QN}

variable {k : Nat}
end

end R6
end Go.Proofs.YtddpebnmjfmgdaaGreat

namespace Go.Proofs.YtddpebnmjfmgdaaGreat
open Go.RowKit

variable {F : Fence} {n : Nat} {P : Program}

end Go.Proofs.YtddpebnmjfmgdaaGreat

namespace Go.Proofs.YtddpebnmjfmgdaaGreat
open Go.RowKit

section
variable {F : Fence} {n : Nat} {P : Program} {ops : Array Oper} {rest : List Oper} {op : Oper} {a : Act} {w : World} {Q : Exit → Act → World → Prop}

end

end Go.Proofs.YtddpebnmjfmgdaaGreat

namespace Go.Proofs.YtddpebnmjfmgdaaGreat
open Go.RowKit

section
variable {P : Program} {ops : Array Oper} {rest : List Oper} {op : Oper} {a : Act} {w : World} {Q : Exit → Act → World → Prop}

variable {R : Value → World → Prop}
end

/-- A grove's cells as a list. -/
def gl (h : Hab) (c : List Int) : List Value := hcells h ++ ints c
end Go.Proofs.YtddpebnmjfmgdaaGreat

namespace Go.Proofs.YtddpebnmjfmgdaaGreat
open Go.RowKit

section
variable {w5 W W' : World} {g : Nat} {X Y : Obj} {o : Oper}
end

section
variable {W W' : World}
end

section
variable {P : Program} {op : Oper} {a : Act} {w : World} {R : Value → World → Prop}
end

end Go.Proofs.YtddpebnmjfmgdaaGreat
namespace Go.Proofs.YtddpebnmjfmgdaaGreat
open Go.RowKit Go.Maps
open R6 (done done_ne done_me upd_ne upd_me)

theorem OwnF.obj {W : World} {mb n : Nat} {F : Int → Nat → Int × Int} (h : OwnF W mb n F) : ∃ es cl, W.heap[mb]? = some (.map es cl) := by
  obtain ⟨D, ⟨es, cl, hb, _⟩, _⟩ := h
  exact ⟨es, cl, hb⟩
section
variable {op : Oper} {a : Act} {w : World} {R : Value → World → Prop} {M n : Nat} {F : Int → Nat → Int × Int}
end

section
variable {F : Fence} {n : Nat} {P : Program}
end

end Go.Proofs.YtddpebnmjfmgdaaGreat
namespace Go.Proofs.YtddpebnmjfmgdaaGreat
open Go.RowKit Go.BigFrame
open R6 (done done_ne done_me upd_ne upd_me)

attribute [local go_sem] gives

set_option maxRecDepth 100000 in
set_option maxHeartbeats 4000000 in
theorem rfArea_any (p : Pol) (k : Nat) (hk : k < 3) (hs : okSecs p = true) (w : World) :
    Calls Tryz.prog 32 #[.agg (pcl p).toArray, .int .i64 (k : Int)] w fun e w' => e = .returned (.int .i64 (ar p k)) ∧ Below w.heap.size w w' := by
  have ha := ar_pos hs k
  simp only [okSecs, okSec, Bool.and_eq_true, inR_iff, decide_eq_true_eq] at hs
  obtain ⟨⟨a1, a2, a3⟩, ⟨b1, b2, b3⟩, ⟨c1, c2, c3⟩⟩ := hs
  unfold ar at ha ⊢
  have hc : ∀ W : World, W.heap[w.heap.size]? = some (.cells (pcl p).toArray 56 (0, 0)) → W.cell? ⟨w.heap.size, 7 + k, none⟩ = some (.int .i64 (ww p k)) ∧ W.cell? ⟨w.heap.size, 4 + k, none⟩ = some (.int .i64 (gg p k)) := fun W hW => by
    rw [cell_of_row W _ (7 + k) _ _ _ hW, cell_of_row W _ (4 + k) _ _ _ hW]
    have h3 : k = 0 ∨ k = 1 ∨ k = 2 := by omega
    rcases h3 with rfl | rfl | rfl <;> exact ⟨rfl, rfl⟩
  have hbw : 1 ≤ ww p k ∧ ww p k ≤ 60 ∧ 10 ≤ gg p k ∧ gg p k ≤ 300 := by
    have h3 : k = 0 ∨ k = 1 ∨ k = 2 := by omega
    rcases h3 with rfl | rfl | rfl
    · exact ⟨a1.1, a1.2, a2.1, a2.2⟩
    · exact ⟨b1.1, b1.2, b2.1, b2.2⟩
    · exact ⟨c1.1, c1.2, c2.1, c2.2⟩
  generalize ww p k = x at *
  generalize gg p k = g at *
  have v1 : IntKind.i64.wrap (3 * x) = 3 * x := IntWalk.i64_in _ (by omega)
  have v2 : IntKind.i64.wrap (g - x) = g - x := IntWalk.i64_in _ (by omega)
  have v3 : IntKind.i64.wrap (3 * x * (g - x)) = 3 * x * (g - x) := IntWalk.i64_in _ (by omega)
  have HV := Lib.hid (And.intro v1 (And.intro v2 v3))
  have HC0 := Lib.hid hc
  have hkz : (k : Int) < 3 := by omega
  have hk0 : (0 : Int) ≤ k := by omega
  clear a1 a2 a3 b1 b2 b3 c1 c2 c3 v1 v2 v3 ha hbw hc
  go_enter Tryz.func32, Tryz.ntmps32
  go_wp2
  refine R6.wp_walk (C := BoxM w [(w.heap.size, .cells (pcl p).toArray 56)] [] (fun _ => [])) 20 (by kernel_rfl) (by kernel_rfl) rfl (BoxM.start (grow1 w _) ⟨alloc_at0 w _, trivial⟩ (fun _ => rfl)) ?_
  simp only []
  repeat (first
    | (refine' R6.WalkR.det (fun _ => rfl) (fun D ρ W hK hC => ?_) ?_
       rotate_left
       · obtain ⟨f1, f2⟩ := HC0.out W hC.box.1
         obtain ⟨v1, v2, v3⟩ := HV.out
         have HC := Lib.hid hC
         clear hC hK
         go_simp
         first
           | with_reducible exact ⟨rfl, HC.out.move (by decide)⟩
           | fail
       simp only [Act.put, List.setIfInBounds_toArray, List.set_cons_succ, List.set_cons_zero]))
  refine R6.WalkR.nil (fun D ρ W hD hC => ?_)
  have HB := Lib.hid hC.bel
  clear hC hD
  go_wp2
  go_ret
  exact ⟨rfl, HB.out⟩

end Go.Proofs.YtddpebnmjfmgdaaGreat
namespace Go.Proofs.YtddpebnmjfmgdaaGreat
open Go.RowKit Go.BigFrame
open R6 (done done_ne done_me upd_ne upd_me)

attribute [local go_sem] gives

set_option maxRecDepth 100000 in
set_option maxHeartbeats 4000000 in
theorem rfBears_any (p : Pol) (k : Nat) (s : Int) (hk : k < 3) (hs : okSecs p = true) (s0 : 0 ≤ s) (s1 : s ≤ 200000) (w : World) :
    Calls Tryz.prog 34 #[.agg (pcl p).toArray, .int .i64 (k : Int), .int .i64 s] w fun e w' => e = .returned (.int .i64 (bears p k s)) ∧ Below w.heap.size w w' := by
  have ha := ar_pos hs k
  have hA := fun W => rfArea_any p k hk hs W
  unfold bears
  generalize ar p k = a at *
  have h0 : 0 ≤ s * a := Int.mul_nonneg s0 (by omega)
  have h1 : s * a ≤ 200000 * 60000 := Int.mul_le_mul s1 ha.2 (by omega) (by omega)
  have hq : (s * a).tdiv 1000 = s * a / 1000 := Int.tdiv_eq_ediv_of_nonneg h0
  have v1 : IntKind.i64.wrap (s * a) = s * a := IntWalk.i64_in _ (by omega)
  have v2 : IntKind.i64.wrap ((s * a).tdiv 1000) = s * a / 1000 := by rw [hq]; exact IntWalk.i64_in _ (by omega)
  obtain ⟨w1, hw1⟩ : ∃ w1, w.alloc (.cells (pcl p).toArray 56) = w1 := ⟨_, rfl⟩
  have hb1 : Below w.heap.size w w1 := by rw [← hw1]; exact grow1 _ _
  have m1 : w1.heap[w.heap.size]? = some (.cells (pcl p).toArray 56 (0, 0)) := by rw [← hw1]; exact alloc_at0 _ _
  have HM := Lib.hid (And.intro hb1 m1)
  have HA := Lib.hid hA
  clear hb1 m1 hA hs ha h0 h1 hq
  go_enter Tryz.func34, Tryz.ntmps34
  go_wp2_with (first
    | (show wpList _ _ _ (Oper.mk (some 8) _ _ _ _ _ :: _) _ _
       refine wpList_load_blk 56 (.tmp 3) rfl rfl rfl HM.out.2 (pcl p) at0 rowPole ?_)
    | (go_at_call 32
       refine (HA.out w1).mono ?_
       rintro e w2 ⟨rfl, hB2⟩
       have H2 := Lib.hid hB2
       clear hB2))
  go_ret
  exact ⟨rfl, HM.out.1.trans (H2.out.mono HM.out.1.size)⟩

end Go.Proofs.YtddpebnmjfmgdaaGreat
namespace Go.Proofs.YtddpebnmjfmgdaaGreat
open Go.ChangeShapes Go.WideShapes Go.ChangeAt Go.RowKit Go.Deep

section
variable {H : Type} {enc : TypeId × Value → H} {w : World} {base : Nat} {spare : Nat → Bool} {held : Bool}

theorem open_u32s_raw {fuel : Nat} {c : Value} {x : DataW H × List MemPlace} (h : DataW.trod enc Tryz.prog w base spare held fuel 77 [c] = some x) :
    ∃ (A : Option Addr) (zs : List Int) (cap : Nat), c = .slice A zs.length cap ∧ zs.length ≤ maxLen ∧ ByAt w w.heap.size A zs := by
  rcases open_ints Tryz.underlying77 Tryz.underlying133 (by kernel_rfl) h with ⟨hc, _⟩ | ⟨a, len, cap, zs, hc, _, hl, hm, hz, _, hcell, hwf⟩
  · simp only [List.cons.injEq, and_true] at hc
    exact ⟨none, [], 0, hc, by simp, ⟨fun h => by simp [u32s] at h, fun k hk => absurd hk (by simp), by simp⟩⟩
  · simp only [List.cons.injEq, and_true] at hc
    have hle : len ≤ zs.length := by rw [hz]; split <;> omega
    have hl2 : (zs.take len).length = len := by simp; omega
    have hmx : maxLen ≤ 9223372036854775807 := by simp [maxLen]
    refine ⟨some a, zs.take len, cap, by rw [hl2]; exact hc, by rw [hl2]; omega, ⟨fun h0 => ?_, fun k hk => ?_, by rw [hl2]; omega⟩⟩
    · have h0' : 0 < len := by simp [u32s] at h0; omega
      have h1 := hcell 0 (by omega)
      obtain ⟨b, off, spot⟩ := a
      have hs1 : spot = none := by
        have e0 : (⟨b, off, spot⟩ : Addr).add 0 = ⟨b, off, spot⟩ := by simp [Addr.add]
        rw [e0] at h1
        exact World.cell?_spot h1
      subst hs1
      rw [Addr.add_mid] at h1
      refine ⟨b, off, rfl, lt_of_cell h1, fun k v hk => ?_⟩
      have hkl : k < len := by
        have := (List.getElem?_eq_some_iff.1 hk).1
        simp [u32s] at this
        omega
      have h2 := hcell k (by omega)
      rw [Addr.add_mid] at h2
      rw [h2]
      simp only [u32s, List.getElem?_map, List.getElem?_take, hkl, if_true] at hk
      have hkz : k < zs.length := by omega
      simp only [List.getElem?_eq_getElem hkz, Option.map_some, Option.some.injEq] at hk
      rw [← hk]
      simp [List.getD, hkz]
    · rw [hl2] at hk
      have hkz : k < zs.length := by omega
      have := hwf zs[k] (List.getElem_mem hkz)
      simp only [List.getElem?_take, hk, if_true, List.getElem?_eq_getElem hkz, Option.getD_some]
      simp [Lit.wf, IntKind.min, IntKind.max, IntKind.signed, IntKind.bits] at this
      omega

set_option maxRecDepth 100000 in
theorem open_u32s_arg {r : Reach} {b0 : Nat} {v : Value} {d : DataW H} {p : List MemPlace} (hv : Value.okWide Tryz.prog w r b0 77 v) (h : DataW.Trod enc Tryz.prog w base spare held 77 v d p) :
    ∃ (A : Option Addr) (zs : List Int) (cap : Nat), v = .slice A zs.length cap ∧ zs.length ≤ maxLen ∧ ByAt w w.heap.size A zs := by
  obtain ⟨a, len, cap, rfl⟩ := okWide_slice Tryz.underlying77 hv
  obtain ⟨fuel, hf⟩ := h
  exact open_u32s_raw hf

end

end Go.Proofs.YtddpebnmjfmgdaaGreat

namespace Go.Proofs.YtddpebnmjfmgdaaGreat
open Go.RowKit

end Go.Proofs.YtddpebnmjfmgdaaGreat
