/-
  flute.Fingers.
-/
import Derived.Test.YthjpgpelbagceaaFuL
import Derived.Test.YthjpgpelbagceaaFuB3
set_option linter.all false
namespace Go.Proofs.Ythjpgpelbagceaa
open Go.RowKit

def okNo (o : Int × Int) : Bool := okS o.1 o.2 1 10000000
def finE (f : Fu) (o : Int × Int) : Int := if okFu f = true then (if okNo o = true then 0 else 91) else 90
def finL (f : Fu) (o : Int × Int) : List Int := if okFu f = true then (if okNo o = true then fingZ f o (List.range (2 ^ f.hs.length)) else []) else []
def FinPost (w : World) (f : Fu) (o : Int × Int) (e : Ending) (w' : World) : Prop := ∃ v, e = .returned (.tuple #[v, .int .i64 (finE f o)]) ∧ OwnU w' w.heap.size v (finL f o) ∧ Below w.heap.size w w'
theorem own_base {W : World} {base base' : Nat} {e : TypeId} {size n : Nat} {v : Value} {xs : List Value} (h : W.ownsRow base e size v n xs) (hb : base' ≤ base) : W.ownsRow base' e size v n xs := by
  refine ⟨h.1, ?_⟩
  rcases h.2 with h2 | ⟨g, cap, cur, h3, h4, h5⟩
  · exact .inl h2
  · exact .inr ⟨g, cap, cur, h3, Nat.le_trans hb h4, h5⟩
theorem ownU_none (W : World) (b : Nat) : OwnU W b (.slice none 0 0) [] := World.ownsRow_nil _ _ _ _

set_option maxRecDepth 100000 in
set_option maxHeartbeats 4000000 in
theorem fingers_any (f : Fu) (hl : f.hs.length ≤ 1000000) (o : Int × Int) (B : Nat) (w : World) (hB : B ≤ w.heap.size) (hz : FuAt w B f) :
    Calls Try.prog 27 #[.agg (fuc f).toArray, .agg #[.int .i64 o.1, .int .i64 o.2]] w (FinPost w f o) := by
  unfold FinPost finE finL
  obtain ⟨o0, o1⟩ := o
  dsimp only
  obtain ⟨w1, hw1⟩ : ∃ w1, (w.alloc (.cells (fuc f).toArray 28)).alloc (.cells #[.int .i64 o0, .int .i64 o1] 25) = w1 := ⟨_, rfl⟩
  have hb1 : Below w.heap.size w w1 := by rw [← hw1]; exact ((Below.refl _ _).alloc (Nat.le_refl _) _).alloc (by simp) _
  have m0 : w1.heap[w.heap.size]? = some (.cells (fuc f).toArray 28 (0, 0)) := by rw [← hw1]; exact alloc2_at0 _ _ _
  have m1 : w1.heap[w.heap.size + 1]? = some (.cells #[.int .i64 o0, .int .i64 o1] 25 (0, 0)) := by rw [← hw1]; exact alloc2_at1 _ _ _
  have HCK := Lib.hid (check_any f hl B w1 (Nat.le_trans hB hb1.size) (hz.below (hb1.mono hB)))
  have hpl := fun (hok : okFu f = true) W (hW : Below w1.heap.size w1 W) => playing_any f hok (o0, o1) B W (Nat.le_trans hB (Nat.le_trans hb1.size hW.size)) ((hz.below (hb1.mono hB)).below (hW.mono (Nat.le_trans hB hb1.size)))
  have HNO := Lib.hid (fun W => validNote_any o0 o1 W)
  have hcf := fun (W : World) (hW : Below w1.heap.size w1 W) => And.intro (fun i => cell_of_row W w.heap.size i _ _ _ ((hW.block _ (lt_of_heap m0)).trans m0)) (fun i => cell_of_row W (w.heap.size + 1) i _ _ _ ((hW.block _ (lt_of_heap m1)).trans m1))
  have hno : okNo (o0, o1) = okS o0 o1 1 10000000 := rfl
  have H1 := Lib.hid hb1
  rw [hno]
  clear hz hb1 m0 m1 hno
  unfold PlayPost at hpl
  unfold fuc at hw1 HCK hpl hcf ⊢
  have HCF := Lib.hid hcf
  obtain ⟨hc0, hc1⟩ := HCF.out w1 (Below.refl _ _)
  clear hcf
  generalize fingZ f (o0, o1) (List.range (2 ^ f.hs.length)) = Z at hpl ⊢
  generalize okS o0 o1 1 10000000 = v2 at HNO ⊢
  generalize okFu f = v1 at HCK hpl ⊢
  have HPL := Lib.hid hpl
  clear hpl
  cases v1
  · go_enter Try.func27, Try.ntmps27
    go_wp2_with (go_at_call 24; refine HCK.out.mono ?_; rintro e w2 ⟨rfl, hB2⟩; obtain ⟨hc2, hc3⟩ := HCF.out w2 hB2; have H2 := Lib.hid hB2; clear hB2 hc0 hc1)
    go_ret2
    exact ⟨_, rfl, ownU_none _ _, H1.out.trans (H2.out.mono H1.out.size)⟩
  cases v2
  · go_enter Try.func27, Try.ntmps27
    go_wp2_with (first
      | (go_at_call 24; refine HCK.out.mono ?_; rintro e w2 ⟨rfl, hB2⟩; obtain ⟨hc2, hc3⟩ := HCF.out w2 hB2; have H2 := Lib.hid hB2; clear hB2 hc0 hc1)
      | (go_at_call 46; refine (HNO.out _).mono ?_; rintro e w3 ⟨rfl, hB3⟩; have H3 := Lib.hid (H2.out.trans (hB3.mono H2.out.size)); clear hB3 hc2 hc3))
    go_ret2
    exact ⟨_, rfl, ownU_none _ _, H1.out.trans (H3.out.mono H1.out.size)⟩
  go_enter Try.func27, Try.ntmps27
  go_wp2_with (first
    | (go_at_call 24; refine HCK.out.mono ?_; rintro e w2 ⟨rfl, hB2⟩; obtain ⟨hc2, hc3⟩ := HCF.out w2 hB2; have H2 := Lib.hid hB2; clear hB2 hc0 hc1)
    | (go_at_call 46; refine (HNO.out _).mono ?_; rintro e w3 ⟨rfl, hB3⟩; obtain ⟨hc4, hc5⟩ := HCF.out w3 (H2.out.trans (hB3.mono H2.out.size)); have H3 := Lib.hid (H2.out.trans (hB3.mono H2.out.size)); clear hB3 hc2 hc3)
    | (go_at_call 52; refine (HPL.out (by first | trivial | rfl) _ H3.out).mono ?_; rintro e w4 ⟨v, rfl, hU, hB4⟩; have H4 := Lib.hid (And.intro hU (H3.out.trans (hB4.mono H3.out.size))); have H5 := Lib.hid (Nat.le_trans H1.out.size H3.out.size); clear hU hB4 hc4 hc5))
  go_ret2
  exact ⟨v, rfl, own_base H4.out.1 H5.out, H1.out.trans (H4.out.2.mono H1.out.size)⟩

end Go.Proofs.Ythjpgpelbagceaa
