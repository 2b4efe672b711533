/-
  Places for notes, or the error.
-/
import Derived.Test.YthjpgpelbagceaaFuY
set_option linter.all false
namespace Go.Proofs.Ythjpgpelbagceaa
open Go.RowKit
open R6 (done done_ne done_me upd_ne upd_me)

attribute [local go_sem] gives

def driL (b : Bk) (os : List (Int × Int)) : List Int := if okBk b = true then (if okNos os = true then (drF b os []).getD [] else []) else []
def driE (b : Bk) (os : List (Int × Int)) : Int := if okBk b = true then (if okNos os = true then (if (drF b os []).isSome = true then 0 else 6) else 91) else 92
def DriPost (w : World) (b : Bk) (os : List (Int × Int)) (e : Ending) (w' : World) : Prop := ∃ v, e = .returned (.tuple #[v, .int .i64 (driE b os)]) ∧ OwnP w' w.heap.size v (driL b os) ∧ Below w.heap.size w w'
theorem ownP_less {W : World} {base base' : Nat} {v : Value} {zs : List Int} (h : OwnP W base v zs) (hb : base' ≤ base) : OwnP W base' v zs := own_mono h hb
theorem ownP_none (W : World) (b : Nat) : OwnP W b (.slice none 0 0) [] := World.ownsRow_nil _ _ _ _

set_option maxRecDepth 100000 in
set_option maxHeartbeats 4000000 in
theorem drill_any (b : Bk) (hlz : b.zs.length ≤ 1000000) (A : Option Addr) (cap : Nat) (os : List (Int × Int)) (hlo : os.length ≤ 1000000) (B : Nat) (w : World) (hB : B ≤ w.heap.size) (hz : BkAt w B b) (ho : Vals w B A (pairs os)) :
    Calls Try.prog 23 #[.agg (bkc b).toArray, .slice A os.length cap] w (DriPost w b os) := by
  unfold DriPost driE driL
  obtain ⟨w1, hw1⟩ : ∃ w1, w.alloc (.cells (bkc b).toArray 34) = w1 := ⟨_, rfl⟩
  have hb1 : Below w.heap.size w w1 := by rw [← hw1]; exact grow1 _ _
  have m1 : w1.heap[w.heap.size]? = some (.cells (bkc b).toArray 34 (0, 0)) := by rw [← hw1]; exact alloc_at0 _ _
  have hBW := fun (W : World) (hW : Below w1.heap.size w1 W) => Nat.le_trans hB (Nat.le_trans hb1.size hW.size)
  have hzW := fun (W : World) (hW : Below w1.heap.size w1 W) => (hz.below (hb1.mono hB)).below (hW.mono (Nat.le_trans hB hb1.size))
  have hoW := fun (W : World) (hW : Below w1.heap.size w1 W) => (Vals.below ho (hb1.mono hB)).below (hW.mono (Nat.le_trans hB hb1.size))
  have hcf := fun (W : World) (hW : Below w1.heap.size w1 W) i => cell_of_row W w.heap.size i _ _ _ ((hW.block _ (lt_of_heap m1)).trans m1)
  have hvb := fun W hW => validBlank_any b hlz B W (hBW W hW) (hzW W hW)
  have hvn := fun W hW => validNotes_any A cap os hlo B W (hBW W hW) (hoW W hW)
  have hdr := fun (hk : okBk b = true) (hn : okNos os = true) W hW => drilled_any b hk A cap os (by simp only [okNos, Bool.and_eq_true, decide_eq_true_eq] at hn; omega) B W (hBW W hW) (hzW W hW) (hoW W hW)
  have H1 := Lib.hid hb1
  clear hz ho hb1 m1 hBW hzW hoW
  unfold DrlPost at hdr
  unfold bkc at hw1 hcf hvb hdr ⊢
  have HCF := Lib.hid hcf
  have hc1 := HCF.out w1 (Below.refl _ _)
  clear hcf
  generalize drF b os [] = R at hdr ⊢
  generalize okNos os = v2 at hvn hdr ⊢
  generalize okBk b = v1 at hvb hdr ⊢
  have HVB := Lib.hid hvb
  have HVN := Lib.hid hvn
  have HDR := Lib.hid hdr
  clear hvb hvn hdr
  cases v1
  · go_enter Try.func23, Try.ntmps23
    go_wp2_with (go_at_call 42; refine (HVB.out w1 (Below.refl _ _)).mono ?_; rintro e w2 ⟨rfl, hB2⟩; have H2 := Lib.hid hB2; clear hB2 hc1)
    go_ret2
    exact ⟨_, rfl, ownP_none _ _, H1.out.trans (H2.out.mono H1.out.size)⟩
  cases v2
  · go_enter Try.func23, Try.ntmps23
    go_wp2_with (first
      | (go_at_call 42; refine (HVB.out w1 (Below.refl _ _)).mono ?_; rintro e w2 ⟨rfl, hB2⟩; have H2 := Lib.hid hB2; clear hB2 hc1)
      | (go_at_call 49; refine (HVN.out w2 H2.out).mono ?_; rintro e w3 ⟨rfl, hB3⟩; have H3 := Lib.hid (H2.out.trans (hB3.mono H2.out.size)); clear hB3))
    go_ret2
    exact ⟨_, rfl, ownP_none _ _, H1.out.trans (H3.out.mono H1.out.size)⟩
  cases R with
  | none =>
    go_enter Try.func23, Try.ntmps23
    go_wp2_with (first
      | (go_at_call 42; refine (HVB.out w1 (Below.refl _ _)).mono ?_; rintro e w2 ⟨rfl, hB2⟩; have H2 := Lib.hid hB2; clear hB2 hc1)
      | (go_at_call 49; refine (HVN.out w2 H2.out).mono ?_; rintro e w3 ⟨rfl, hB3⟩; have H3 := Lib.hid (H2.out.trans (hB3.mono H2.out.size)); have hc3 := HCF.out w3 H3.out; clear hB3)
      | (go_at_call 50; refine (HDR.out (by first | trivial | rfl) (by first | trivial | rfl) w3 H3.out).mono ?_; rintro e w4 ⟨v, rfl, hO, hB4⟩; have H4 := Lib.hid (And.intro hO (H3.out.trans (hB4.mono H3.out.size))); clear hB4 hO hc3))
    go_ret2
    exact ⟨_, rfl, ownP_none _ _, H1.out.trans (H4.out.2.mono H1.out.size)⟩
  | some ps =>
    go_enter Try.func23, Try.ntmps23
    go_wp2_with (first
      | (go_at_call 42; refine (HVB.out w1 (Below.refl _ _)).mono ?_; rintro e w2 ⟨rfl, hB2⟩; have H2 := Lib.hid hB2; clear hB2 hc1)
      | (go_at_call 49; refine (HVN.out w2 H2.out).mono ?_; rintro e w3 ⟨rfl, hB3⟩; have H3 := Lib.hid (H2.out.trans (hB3.mono H2.out.size)); have hc3 := HCF.out w3 H3.out; clear hB3)
      | (go_at_call 50; refine (HDR.out (by first | trivial | rfl) (by first | trivial | rfl) w3 H3.out).mono ?_; rintro e w4 ⟨v, rfl, hO, hB4⟩; have H4 := Lib.hid (And.intro hO (H3.out.trans (hB4.mono H3.out.size))); clear hB4 hO hc3))
    go_ret2
    exact ⟨v, rfl, ownP_less H4.out.1 (Nat.le_trans H1.out.size H3.out.size), H1.out.trans (H4.out.2.mono H1.out.size)⟩

end Go.Proofs.Ythjpgpelbagceaa
