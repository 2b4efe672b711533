/-
  Texts laid together: FuM, FuN, FuR.
-/
import Derived.Outline
import Derived.Test.YtjjipkgconmfcaaB915
import Derived.Test.YtjjipkgconmfcaaB96
set_option linter.all false
namespace Go.Proofs.Ytjjipkgconmfcaa
open Go.RowKit

def okNo (o : Int × Int) : Bool := okS o.1 o.2 1 10000000
def finE (f : Fu) (o : Int × Int) : Int := if okFu f = true then (if okNo o = true then 0 else 91) else 90
def finL (f : Fu) (o : Int × Int) : List Int := if okFu f = true then (if okNo o = true then fingZ f o (List.range (2 ^ f.hs.length)) else []) else []
def FinPost (w : World) (f : Fu) (o : Int × Int) (e : Ending) (w' : World) : Prop := ∃ v, e = .returned (.tuple #[v, .int .i64 (finE f o)]) ∧ OwnU w' w.heap.size v (finL f o) ∧ Below w.heap.size w w'
theorem own_base {W : World} {base base' : Nat} {e : TypeId} {size n : Nat} {v : Value} {xs : List Value} (h : W.ownsRow base e size v n xs) (hb : base' ≤ base) : W.ownsRow base' e size v n xs := by
  refine ⟨h.1, ?_⟩
  rcases h.2 with h2 | ⟨g, cap, cur, h3, h4, h5⟩
  · exact .inl h2
  · exact .inr ⟨g, cap, cur, h3, Nat.le_trans hb h4, h5⟩
theorem ownU_none (W : World) (b : Nat) : OwnU W b (.slice none 0 0) [] := World.ownsRow_nil _ _ _ _

set_option maxRecDepth 100000 in
set_option maxHeartbeats 4000000 in
theorem fingers_any (f : Fu) (hl : f.hs.length ≤ 1000000) (o : Int × Int) (B : Nat) (w : World) (hB : B ≤ w.heap.size) (hz : FuAt w B f) :
    Calls Try.prog 27 #[.agg (fuc f).toArray, .agg #[.int .i64 o.1, .int .i64 o.2]] w (FinPost w f o) := by
  unfold FinPost finE finL
  obtain ⟨o0, o1⟩ := o
  dsimp only
  obtain ⟨w1, hw1⟩ : ∃ w1, (w.alloc (.cells (fuc f).toArray 28)).alloc (.cells #[.int .i64 o0, .int .i64 o1] 25) = w1 := ⟨_, rfl⟩
  have hb1 : Below w.heap.size w w1 := by rw [← hw1]; exact ((Below.refl _ _).alloc (Nat.le_refl _) _).alloc (by simp) _
  have m0 : w1.heap[w.heap.size]? = some (.cells (fuc f).toArray 28 (0, 0)) := by rw [← hw1]; exact alloc2_at0 _ _ _
  have m1 : w1.heap[w.heap.size + 1]? = some (.cells #[.int .i64 o0, .int .i64 o1] 25 (0, 0)) := by rw [← hw1]; exact alloc2_at1 _ _ _
  have HCK := Lib.hid (check_any f hl B w1 (Nat.le_trans hB hb1.size) (hz.below (hb1.mono hB)))
  have hpl := fun (hok : okFu f = true) W (hW : Below w1.heap.size w1 W) => playing_any f hok (o0, o1) B W (Nat.le_trans hB (Nat.le_trans hb1.size hW.size)) ((hz.below (hb1.mono hB)).below (hW.mono (Nat.le_trans hB hb1.size)))
  have HNO := Lib.hid (fun W => validNote_any o0 o1 W)
  have hcf := fun (W : World) (hW : Below w1.heap.size w1 W) => And.intro (fun i => cell_of_row W w.heap.size i _ _ _ ((hW.block _ (lt_of_heap m0)).trans m0)) (fun i => cell_of_row W (w.heap.size + 1) i _ _ _ ((hW.block _ (lt_of_heap m1)).trans m1))
  have hno : okNo (o0, o1) = okS o0 o1 1 10000000 := rfl
  have H1 := Lib.hid hb1
  rw [hno]
  clear hz hb1 m0 m1 hno
  unfold PlayPost at hpl
  unfold fuc at hw1 HCK hpl hcf ⊢
  have HCF := Lib.hid hcf
  obtain ⟨hc0, hc1⟩ := HCF.out w1 (Below.refl _ _)
  clear hcf
  generalize fingZ f (o0, o1) (List.range (2 ^ f.hs.length)) = Z at hpl ⊢
  generalize okS o0 o1 1 10000000 = v2 at HNO ⊢
  generalize okFu f = v1 at HCK hpl ⊢
  have HPL := Lib.hid hpl
  clear hpl
  cases v1
  · go_enter Try.func27, Try.ntmps27
    go_wp2_with (go_at_call 24; refine HCK.out.mono ?_; rintro e w2 ⟨rfl, hB2⟩; obtain ⟨hc2, hc3⟩ := HCF.out w2 hB2; have H2 := Lib.hid hB2; clear hB2 hc0 hc1)
    go_ret2
    exact ⟨_, rfl, ownU_none _ _, H1.out.trans (H2.out.mono H1.out.size)⟩
  cases v2
  · go_enter Try.func27, Try.ntmps27
    go_wp2_with (first
      | (go_at_call 24; refine HCK.out.mono ?_; rintro e w2 ⟨rfl, hB2⟩; obtain ⟨hc2, hc3⟩ := HCF.out w2 hB2; have H2 := Lib.hid hB2; clear hB2 hc0 hc1)
      | (go_at_call 46; refine (HNO.out _).mono ?_; rintro e w3 ⟨rfl, hB3⟩; have H3 := Lib.hid (H2.out.trans (hB3.mono H2.out.size)); clear hB3 hc2 hc3))
    go_ret2
    exact ⟨_, rfl, ownU_none _ _, H1.out.trans (H3.out.mono H1.out.size)⟩
  go_enter Try.func27, Try.ntmps27
  go_wp2_with (first
    | (go_at_call 24; refine HCK.out.mono ?_; rintro e w2 ⟨rfl, hB2⟩; obtain ⟨hc2, hc3⟩ := HCF.out w2 hB2; have H2 := Lib.hid hB2; clear hB2 hc0 hc1)
    | (go_at_call 46; refine (HNO.out _).mono ?_; rintro e w3 ⟨rfl, hB3⟩; obtain ⟨hc4, hc5⟩ := HCF.out w3 (H2.out.trans (hB3.mono H2.out.size)); have H3 := Lib.hid (H2.out.trans (hB3.mono H2.out.size)); clear hB3 hc2 hc3)
    | (go_at_call 52; refine (HPL.out (by first | trivial | rfl) _ H3.out).mono ?_; rintro e w4 ⟨v, rfl, hU, hB4⟩; have H4 := Lib.hid (And.intro hU (H3.out.trans (hB4.mono H3.out.size))); have H5 := Lib.hid (Nat.le_trans H1.out.size H3.out.size); clear hU hB4 hc4 hc5))
  go_ret2
  exact ⟨v, rfl, own_base H4.out.1 H5.out, H1.out.trans (H4.out.2.mono H1.out.size)⟩

end Go.Proofs.Ytjjipkgconmfcaa

namespace Go.Proofs.Ytjjipkgconmfcaa
open Go.RowKit Go.Maps
open R6 (done done_ne done_me upd_ne upd_me)

attribute [local go_sem] gives

/-- Whether a tone of a length may be in a note. -/
def metL (o s : Int × Int) (l : Int) : Bool := decide (max s.1 ((o.1 * l + 499) / 500) ≤ s.2) && decide (500 * max s.1 ((o.1 * l + 499) / 500) / l ≤ o.2)
def meetF (a o s : Int × Int) : Bool := (List.range (a.2 - a.1 + 1).toNat).any fun d => metL o s (a.1 + d)
def knoB (m i : Bool) : Int := (if m = true then 1 else 0) + (if i = true then 1 else 0)
def knoF (a o s : Int × Int) : Int := knoB (meetF a o s) (insB o (tonA s.1 s.2 a))
theorem any_snoc {p : Nat → Bool} (k : Nat) : (List.range (k + 1)).any p = ((List.range k).any p || p k) := by rw [List.range_succ, List.any_append]; simp
theorem any_upto {p : Nat → Bool} {k n : Nat} (hk : k < n) (hp : p k = true) : (List.range n).any p = true := List.any_eq_true.2 ⟨k, List.mem_range.2 hk, hp⟩

set_option maxRecDepth 100000 in
set_option maxHeartbeats 8000000 in
theorem meets_any (a o s : Int × Int) (ha : 50 ≤ a.1 ∧ a.1 ≤ a.2 ∧ a.2 ≤ 21000) (ho : 0 ≤ o.1 ∧ o.1 ≤ 10000000) (hs : 0 ≤ s.1 ∧ s.1 ≤ 500000 ∧ 0 ≤ s.2 ∧ s.2 ≤ 500000) (w : World) :
    Calls Try.prog 77 #[.agg #[.int .i64 a.1, .int .i64 a.2], .agg #[.int .i64 o.1, .int .i64 o.2], .agg #[.int .i64 s.1, .int .i64 s.2]] w fun e w' => e = .returned (.bool (meetF a o s)) ∧ Below w.heap.size w w' := by
  obtain ⟨a0, a1⟩ := a
  obtain ⟨o0, o1⟩ := o
  obtain ⟨s0, s1⟩ := s
  dsimp only at ha ho hs
  obtain ⟨N, hN⟩ : ∃ N : Nat, (N : Int) = a1 - a0 + 1 := ⟨(a1 - a0 + 1).toNat, by omega⟩
  have hmt : meetF (a0, a1) (o0, o1) (s0, s1) = (List.range N).any fun d => metL (o0, o1) (s0, s1) (a0 + d) := by
    unfold meetF
    dsimp only
    rw [← hN, Int.toNat_natCast]
  rw [hmt]
  dsimp only
  obtain ⟨w1, hw1⟩ : ∃ w1, ((w.alloc (.cells #[.int .i64 a0, .int .i64 a1] 86)).alloc (.cells #[.int .i64 o0, .int .i64 o1] 25)).alloc (.cells #[.int .i64 s0, .int .i64 s1] 25) = w1 := ⟨_, rfl⟩
  have hb1 : Below w.heap.size w w1 := by rw [← hw1]; exact (((Below.refl _ _).alloc (Nat.le_refl _) _).alloc (by simp) _).alloc (by simp; omega) _
  have m0 : w1.heap[w.heap.size]? = some (.cells #[.int .i64 a0, .int .i64 a1] 86 (0, 0)) := by rw [← hw1]; exact alloc3_at0 _ _ _ _
  have m1 : w1.heap[w.heap.size + 1]? = some (.cells #[.int .i64 o0, .int .i64 o1] 25 (0, 0)) := by rw [← hw1]; exact alloc3_at1 _ _ _ _
  have m2 : w1.heap[w.heap.size + 1 + 1]? = some (.cells #[.int .i64 s0, .int .i64 s1] 25 (0, 0)) := by rw [← hw1]; exact alloc3_at2 _ _ _ _
  have hcf := fun (W : World) (hW : Below w1.heap.size w1 W) => And.intro (fun i => cell_of_row W w.heap.size i _ _ _ ((hW.block _ (lt_of_heap m0)).trans m0)) (And.intro (fun i => cell_of_row W (w.heap.size + 1) i _ _ _ ((hW.block _ (lt_of_heap m1)).trans m1)) (fun i => cell_of_row W (w.heap.size + 1 + 1) i _ _ _ ((hW.block _ (lt_of_heap m2)).trans m2)))
  have HCF := Lib.hid hcf
  have H1 := Lib.hid hb1
  obtain ⟨hc0, hc1, hc2⟩ := HCF.out w1 (Below.refl _ _)
  have HN := Lib.hid hN
  have ha0 := ha.1
  have ha1 := ha.2.1
  have ha2 := ha.2.2
  have ho0 := ho.1
  have ho1 := ho.2
  have HS := Lib.hid hs
  clear hmt hb1 m0 m1 m2 hcf hN ha ho hs
  go_enter Try.func77, Try.ntmps77
  go_wp2
  go_loopg [7] N (fun gg s7 wx => ∃ k : Nat, k + gg = N ∧ s7 = .int .i64 (a0 + k) ∧ Hid ((List.range k).any (fun d => metL (o0, o1) (s0, s1) (a0 + d)) = false) ∧ Hid (Below w1.heap.size w1 wx))
  case atStart => exact ⟨0, by omega, by go_num, rfl, Below.refl _ _⟩
  case round =>
    obtain ⟨k, hkg, rfl, hF, hBr⟩ := hrel
    have hws := hBr.out.size
    clear hc0 hc1 hc2
    obtain ⟨hc0, hc1, hc2⟩ := HCF.out wr hBr.out
    cases gk with
    | zero =>
      obtain rfl : k = N := by omega
      have hend : decide (a0 + (k : Int) ≤ a1) = false := decide_eq_false (by have := HN.out; omega)
      go_wp2
      go_ret
      exact ⟨by rw [hF.out]; rfl, H1.out.trans (hBr.out.mono H1.out.size)⟩
    | succ gg =>
      obtain ⟨l, hl⟩ : ∃ l, l = a0 + (k : Int) := ⟨_, rfl⟩
      have hl1 : l ≤ a1 := by have := HN.out; omega
      have hl2 : 50 ≤ l := by omega
      have hl3 : l ≤ 21000 := by omega
      have hl4 : 0 ≤ l := by omega
      have hp1 : 0 ≤ o0 * l := Int.mul_nonneg ho0 hl4
      have hp2 : o0 * l ≤ 210000000000 := Int.le_trans (Int.mul_le_mul_of_nonneg_right ho1 hl4) (by omega)
      have hsn := any_snoc (p := fun d => metL (o0, o1) (s0, s1) (a0 + d)) k
      rw [hF.out, Bool.false_or] at hsn
      have hup : metL (o0, o1) (s0, s1) (a0 + k) = true → (List.range N).any (fun d => metL (o0, o1) (s0, s1) (a0 + d)) = true := fun h => any_upto (p := fun d => metL (o0, o1) (s0, s1) (a0 + d)) (by omega) h
      have hnx : a0 + ((k + 1 : Nat) : Int) = l + 1 := by omega
      have hml : metL (o0, o1) (s0, s1) (a0 + k) = (decide (max s0 ((o0 * l + 499) / 500) ≤ s1) && decide (500 * max s0 ((o0 * l + 499) / 500) / l ≤ o1)) := by rw [← hl]; rfl
      rw [hml] at hsn hup
      rw [← hl]
      have hq1 : 0 ≤ (o0 * l + 499) / 500 := by omega
      obtain ⟨sp, hsp⟩ : ∃ sp, max s0 ((o0 * l + 499) / 500) = sp := ⟨_, rfl⟩
      have hsp0 : 0 ≤ sp := by have := HS.out; omega
      rw [hsp] at hsn hup
      have HNX := Lib.hid hnx
      have HKG := Lib.hid hkg
      have HSN := Lib.hid hsn
      have HUP := Lib.hid hup
      clear hml hl hnx hkg hsn hup
      by_cases hle : sp ≤ s1
      · have hsp1 : sp ≤ 500000 := by have := HS.out; omega
        have HT := Lib.hid (fun W => tone_any sp l hsp0 hsp1 hl2 (by omega) W)
        generalize htq : 500 * sp / l = tq at HT HSN HUP
        clear htq
        by_cases ht : tq ≤ o1
        all_goals
          go_wp2
          refine R6.wp_walk (C := fun _ _ W => Below wr.heap.size wr W) 40 (by kernel_rfl) (by kernel_rfl) rfl (Below.refl _ _).drew ?_
          simp only []
          repeat (first
            | (refine' R6.WalkR.det (fun _ => rfl) (fun D ρ W hK hC => ?_) ?_
               rotate_left
               · obtain ⟨f0, f1, f2⟩ := HCF.out W (hBr.out.trans (hC.mono hws))
                 have d1 : decide (sp ≤ s1) = true := decide_eq_true hle
                 have HC := Lib.hid hC
                 clear hC hK
                 go_simp
                 first
                   | with_reducible exact ⟨rfl, HC.out⟩
                   | (go_at_call 91; refine (HT.out W).mono ?_; rintro e W1 ⟨rfl, rfl⟩; exact ⟨_, rfl, rfl, HC.out⟩)
               simp only [Act.put, List.setIfInBounds_toArray, List.set_cons_succ, List.set_cons_zero])
            | (refine R6.WalkR.un (fun _ => rfl) (fun D ρ W hK hC => hC) ?_
               simp only [Act.put, List.setIfInBounds_toArray, List.set_cons_succ, List.set_cons_zero]))
          refine R6.WalkR.nil (fun D ρ W hD hC => ?_)
          have H9 := Lib.hid (hBr.out.trans (hC.mono hws))
          clear hC hD
        · go_wp2
          go_ret
          exact ⟨by rw [HUP.out (by simp [hle, ht])]; rfl, H1.out.trans (H9.out.mono H1.out.size)⟩
        · go_wp2
          go_roundg gg
          case measure => omega
          case rel => exact ⟨k + 1, by have := HKG.out; omega, by rw [HNX.out], Lib.hid (by rw [HSN.out]; simp [ht]), H9.out⟩
      · go_wp2
        refine R6.wp_walk (C := fun _ _ W => Below wr.heap.size wr W) 40 (by kernel_rfl) (by kernel_rfl) rfl (Below.refl _ _).drew ?_
        simp only []
        repeat (first
          | (refine' R6.WalkR.det (fun _ => rfl) (fun D ρ W hK hC => ?_) ?_
             rotate_left
             · obtain ⟨f0, f1, f2⟩ := HCF.out W (hBr.out.trans (hC.mono hws))
               have d1 : decide (sp ≤ s1) = false := decide_eq_false (by omega)
               have HC := Lib.hid hC
               clear hC hK
               go_simp
               with_reducible exact ⟨rfl, HC.out⟩
             simp only [Act.put, List.setIfInBounds_toArray, List.set_cons_succ, List.set_cons_zero])
          | (refine R6.WalkR.un (fun _ => rfl) (fun D ρ W hK hC => hC) ?_
             simp only [Act.put, List.setIfInBounds_toArray, List.set_cons_succ, List.set_cons_zero]))
        refine R6.WalkR.nil (fun D ρ W hD hC => ?_)
        have H9 := Lib.hid (hBr.out.trans (hC.mono hws))
        clear hC hD
        go_wp2
        go_roundg gg
        case measure => omega
        case rel => exact ⟨k + 1, by have := HKG.out; omega, by rw [HNX.out], Lib.hid (by rw [HSN.out, decide_eq_false (show ¬ sp ≤ s1 by omega), Bool.false_and]), H9.out⟩

set_option maxRecDepth 100000 in
set_option maxHeartbeats 8000000 in
theorem known_any (a o s : Int × Int) (ha : 50 ≤ a.1 ∧ a.1 ≤ a.2 ∧ a.2 ≤ 21000) (ho : 0 ≤ o.1 ∧ o.1 ≤ 10000000) (hs : 0 ≤ s.1 ∧ s.1 ≤ 500000 ∧ 0 ≤ s.2 ∧ s.2 ≤ 500000) (w : World) :
    Calls Try.prog 48 #[.agg #[.int .i64 a.1, .int .i64 a.2], .agg #[.int .i64 o.1, .int .i64 o.2], .agg #[.int .i64 s.1, .int .i64 s.2]] w fun e w' => e = .returned (.int .u8 (knoF a o s)) ∧ Below w.heap.size w w' := by
  have HM := Lib.hid (fun W => meets_any a o s ha ho hs W)
  have HT := Lib.hid (fun W => tones_any a s ⟨ha.1, ha.2.1, by omega⟩ hs W)
  have HI := Lib.hid (fun W => inside_any o.1 o.2 (tonA s.1 s.2 a).1 (tonA s.1 s.2 a).2 W)
  unfold knoF
  have hio : insB (o.1, o.2) ((tonA s.1 s.2 a).1, (tonA s.1 s.2 a).2) = insB o (tonA s.1 s.2 a) := rfl
  rw [hio] at HI
  clear hio ha ho hs
  generalize insB o (tonA s.1 s.2 a) = vi at HI ⊢
  generalize meetF a o s = vm at HM ⊢
  generalize (tonA s.1 s.2 a).1 = t0 at HT HI
  generalize (tonA s.1 s.2 a).2 = t1 at HT HI
  obtain ⟨a0, a1⟩ := a
  obtain ⟨o0, o1⟩ := o
  obtain ⟨s0, s1⟩ := s
  dsimp only at HM HT HI ⊢
  obtain ⟨w1, hw1⟩ : ∃ w1, (((w.alloc (.cells #[.int .i64 a0, .int .i64 a1] 86)).alloc (.cells #[.int .i64 o0, .int .i64 o1] 25)).alloc (.cells #[.int .i64 s0, .int .i64 s1] 25)).alloc (.cells #[.int .u8 0, .int .u8 1, .int .u8 2] 120) = w1 := ⟨_, rfl⟩
  have hb1 : Below w.heap.size w w1 := by rw [← hw1]; exact ((((Below.refl _ _).alloc (Nat.le_refl _) _).alloc (by simp) _).alloc (by simp; omega) _).alloc (by simp; omega) _
  have m0 : w1.heap[w.heap.size]? = some (.cells #[.int .i64 a0, .int .i64 a1] 86 (0, 0)) := by rw [← hw1]; exact (Below.heap_alloc _ _ _ (by first | (simp; done) | (simp; omega))).trans (alloc3_at0 _ _ _ _)
  have m1 : w1.heap[w.heap.size + 1]? = some (.cells #[.int .i64 o0, .int .i64 o1] 25 (0, 0)) := by rw [← hw1]; exact (Below.heap_alloc _ _ _ (by first | (simp; done) | (simp; omega))).trans (alloc3_at1 _ _ _ _)
  have m2 : w1.heap[w.heap.size + 1 + 1]? = some (.cells #[.int .i64 s0, .int .i64 s1] 25 (0, 0)) := by rw [← hw1]; exact (Below.heap_alloc _ _ _ (by first | (simp; done) | (simp; omega))).trans (alloc3_at2 _ _ _ _)
  have m3 : w1.heap[w.heap.size + 1 + 1 + 1]? = some (.cells #[.int .u8 0, .int .u8 1, .int .u8 2] 120 (0, 0)) := by rw [← hw1]; have := alloc_at0 (((w.alloc (.cells #[.int .i64 a0, .int .i64 a1] 86)).alloc (.cells #[.int .i64 o0, .int .i64 o1] 25)).alloc (.cells #[.int .i64 s0, .int .i64 s1] 25)) (.cells #[.int .u8 0, .int .u8 1, .int .u8 2] 120); simpa using this
  have hcf := fun (W : World) (hW : Below w1.heap.size w1 W) => And.intro (fun i => cell_of_row W w.heap.size i _ _ _ ((hW.block _ (lt_of_heap m0)).trans m0)) (And.intro (fun i => cell_of_row W (w.heap.size + 1) i _ _ _ ((hW.block _ (lt_of_heap m1)).trans m1)) (And.intro (fun i => cell_of_row W (w.heap.size + 1 + 1) i _ _ _ ((hW.block _ (lt_of_heap m2)).trans m2)) (fun i => cell_of_row W (w.heap.size + 1 + 1 + 1) i _ _ _ ((hW.block _ (lt_of_heap m3)).trans m3))))
  have HCF := Lib.hid hcf
  have H1 := Lib.hid hb1
  obtain ⟨hc0, hc1, hc2, hc3⟩ := HCF.out w1 (Below.refl _ _)
  clear hb1 m0 m1 m2 m3 hcf
  cases vm <;> cases vi
  all_goals
    go_enter Try.func48, Try.ntmps48
    go_wp2_with (go_at_call 77; refine (HM.out _).mono ?_; rintro e w2 ⟨rfl, hB2⟩; obtain ⟨hd0, hd1, hd2, hd3⟩ := HCF.out w2 hB2; have H2 := Lib.hid hB2; clear hB2 hc0 hc1 hc2 hc3)
    refine R6.wp_walk (C := fun _ _ W => Below w1.heap.size w1 W) 26 (by kernel_rfl) (by kernel_rfl) rfl H2.out.drew ?_
    simp only []
    repeat (first
      | (refine' R6.WalkR.det (fun _ => rfl) (fun D ρ W hK hC => ?_) ?_
         rotate_left
         · obtain ⟨f0, f1, f2, f3⟩ := HCF.out W hC
           have HC := Lib.hid hC
           clear hC hK
           go_simp
           first
             | with_reducible exact ⟨rfl, HC.out⟩
             | (go_at_call 73; refine (HT.out W).mono ?_; rintro e W1 ⟨rfl, hB1⟩; exact ⟨_, rfl, rfl, HC.out.trans (hB1.mono HC.out.size)⟩)
             | (go_at_call 78; refine (HI.out W).mono ?_; rintro e W1 ⟨rfl, hB1⟩; exact ⟨_, rfl, rfl, HC.out.trans (hB1.mono HC.out.size)⟩)
         simp only [Act.put, List.setIfInBounds_toArray, List.set_cons_succ, List.set_cons_zero]))
    refine R6.WalkR.nil (fun D ρ W hD hC => ?_)
    obtain ⟨hd0, hd1, hd2, hd3⟩ := HCF.out W hC
    have H9 := Lib.hid hC
    clear hC hD
    go_wp2
    go_ret
    exact ⟨rfl, H1.out.trans (H9.out.mono H1.out.size)⟩

theorem set_two0 {w : World} {b : Nat} {x y : Value} {t : TypeId} (h : w.heap[b]? = some (.cells #[x, y] t (0, 0))) (u v : Value) :
    ((w.setCell ⟨b, 0, none⟩ u).setCell ⟨b, 1, none⟩ v).heap[b]? = some (.cells #[u, v] t (0, 0)) :=
  heap_setCell_same _ _ _ _ _ _ (heap_setCell_same _ _ _ _ _ _ h)

def tonE (f : Fu) (n : Nat) : Int := if okFu f = true then (if n < 2 ^ f.hs.length then 0 else 2) else 90
def tonV (f : Fu) (n : Nat) : Int × Int := if okFu f = true then (if n < 2 ^ f.hs.length then tonF f n else (0, 0)) else (0, 0)
def TonePost (w : World) (f : Fu) (n : Nat) (e : Ending) (w' : World) : Prop := e = .returned (.tuple #[.agg #[.int .i64 (tonV f n).1, .int .i64 (tonV f n).2], .int .i64 (tonE f n)]) ∧ Below w.heap.size w w'

set_option maxRecDepth 100000 in
set_option maxHeartbeats 8000000 in
theorem tone_any9 (f : Fu) (hl : f.hs.length ≤ 1000000) (n : Nat) (hn : n < 256) (B : Nat) (w : World) (hB : B ≤ w.heap.size) (hz : FuAt w B f) :
    Calls Try.prog 21 #[.agg (fuc f).toArray, .int .u8 (n : Int)] w (TonePost w f n) := by
  unfold TonePost tonV tonE
  obtain ⟨w1, hw1⟩ : ∃ w1, (w.alloc (.cells (fuc f).toArray 28)).alloc (.cells #[.int .i64 0, .int .i64 0] 25) = w1 := ⟨_, rfl⟩
  have hb1 : Below w.heap.size w w1 := by rw [← hw1]; exact ((Below.refl _ _).alloc (Nat.le_refl _) _).alloc (by simp) _
  have m0 : w1.heap[w.heap.size]? = some (.cells (fuc f).toArray 28 (0, 0)) := by rw [← hw1]; exact alloc2_at0 _ _ _
  have m1 : w1.heap[w.heap.size + 1]? = some (.cells #[.int .i64 0, .int .i64 0] 25 (0, 0)) := by rw [← hw1]; exact alloc2_at1 _ _ _
  have HCK := Lib.hid (check_any f hl B w1 (Nat.le_trans hB hb1.size) (hz.below (hb1.mono hB)))
  have hat := fun (hok : okFu f = true) W (hW : Below w1.heap.size w1 W) => allTones_any f hok B W (Nat.le_trans hB (Nat.le_trans hb1.size hW.size)) ((hz.below (hb1.mono hB)).below (hW.mono (Nat.le_trans hB hb1.size)))
  have hcf := fun (W : World) (hW : Below w1.heap.size w1 W) => And.intro (And.intro (fun i => cell_of_row W w.heap.size i _ _ _ ((hW.block _ (lt_of_heap m0)).trans m0)) (fun i => cell_of_row W (w.heap.size + 1) i _ _ _ ((hW.block _ (lt_of_heap m1)).trans m1))) (fun i => frozen_of_row W (w.heap.size + 1) i _ _ ((hW.block _ (lt_of_heap m1)).trans m1))
  have hsz1 := lt_of_heap m1
  have HM1 := Lib.hid (fun W (hW : Below w1.heap.size w1 W) => (hW.block _ (lt_of_heap m1)).trans m1)
  have H1 := Lib.hid hb1
  clear hz hb1 m0 m1
  unfold TonPost at hat
  unfold fuc at hw1 HCK hat hcf ⊢
  have HCF := Lib.hid hcf
  obtain ⟨⟨hc0, hc1⟩, hf1⟩ := HCF.out w1 (Below.refl _ _)
  clear hcf
  generalize okFu f = v1 at HCK hat ⊢
  have HAT := Lib.hid hat
  clear hat
  cases v1
  · go_enter Try.func21, Try.ntmps21
    go_wp2_with (go_at_call 24; refine HCK.out.mono ?_; rintro e w2 ⟨rfl, hB2⟩; obtain ⟨⟨hd0, hd1⟩, hg1⟩ := HCF.out w2 hB2; have H2 := Lib.hid hB2; clear hB2 hc0 hc1 hf1)
    have hcE := fun i => cell_of_row _ (w.heap.size + 1) i _ _ _ (set_two0 (HM1.out w2 H2.out) (.int .i64 0) (.int .i64 0))
    exact bodyPost_ret (v := .tuple #[.agg #[.int .i64 0, .int .i64 0], .int .i64 90]) (by simp [results, Try.results21, go_sem, hcE]) rfl ⟨rfl, ((H1.out.trans (H2.out.mono H1.out.size)).setCell (by simp) _).setCell (by simp) _⟩
  by_cases hlt : n < 2 ^ f.hs.length
  · have htf : tabF f (List.range (2 ^ f.hs.length)) n = some (tonF f n) := by simp [tabF, hlt]
    have HTF := Lib.hid htf
    rw [if_pos rfl, if_pos rfl, if_pos hlt, if_pos hlt]
    clear htf hlt
    generalize tonF f n = tt at HTF ⊢
    obtain ⟨x, y⟩ := tt
    dsimp only
    go_enter Try.func21, Try.ntmps21
    go_wp2_with (first
      | (go_at_call 24; refine HCK.out.mono ?_; rintro e w2 ⟨rfl, hB2⟩; obtain ⟨⟨hd0, hd1⟩, hg1⟩ := HCF.out w2 hB2; have H2 := Lib.hid hB2; clear hB2 hc0 hc1 hf1)
      | (go_at_call 45; refine (HAT.out (by first | trivial | rfl) _ H2.out).mono ?_; rintro e w3 ⟨mb, rfl, hO, hmb, hB3⟩; obtain ⟨⟨he0, he1⟩, hj1⟩ := HCF.out w3 (H2.out.trans (hB3.mono H2.out.size)); have HO := Lib.hid hO; have H3 := Lib.hid (H2.out.trans (hB3.mono H2.out.size)); have hs3 : w.heap.size + 1 < w3.heap.size := Nat.lt_of_lt_of_le hsz1 H3.out.size; clear hB3 hd0 hd1 hg1 hO hmb)
      | (show wpList _ _ _ (Oper.mk (some 19) _ _ _ _ _ :: _) _ _
         refine wpList_lookU_ok rfl (.tmp 17) (.tmp 18) rfl (by simp [Act.eval]) HO.out hn (by simp [Act.eval]) ?_
         simp only [HTF.out, Option.getD_some, Option.isSome_some, spV]))
    have hcE := fun i => cell_of_row _ (w.heap.size + 1) i _ _ _ (set_two (HM1.out w3 H3.out) (.int .i64 x) (.int .i64 y) (.cells #[.int .i64 x, .int .i64 y] 25))
    exact bodyPost_ret (v := .tuple #[.agg #[.int .i64 x, .int .i64 y], .int .i64 0]) (by simp [results, Try.results21, go_sem, hcE]) rfl ⟨rfl, (((H1.out.trans (H3.out.mono H1.out.size)).setCell (by simp) _).setCell (by simp) _).alloc (by simp; omega) _⟩
  · have htf : tabF f (List.range (2 ^ f.hs.length)) n = none := by simp [tabF, hlt]
    have HTF := Lib.hid htf
    rw [if_pos rfl, if_pos rfl, if_neg hlt, if_neg hlt]
    clear htf hlt
    go_enter Try.func21, Try.ntmps21
    go_wp2_with (first
      | (go_at_call 24; refine HCK.out.mono ?_; rintro e w2 ⟨rfl, hB2⟩; obtain ⟨⟨hd0, hd1⟩, hg1⟩ := HCF.out w2 hB2; have H2 := Lib.hid hB2; clear hB2 hc0 hc1 hf1)
      | (go_at_call 45; refine (HAT.out (by first | trivial | rfl) _ H2.out).mono ?_; rintro e w3 ⟨mb, rfl, hO, hmb, hB3⟩; obtain ⟨⟨he0, he1⟩, hj1⟩ := HCF.out w3 (H2.out.trans (hB3.mono H2.out.size)); have HO := Lib.hid hO; have H3 := Lib.hid (H2.out.trans (hB3.mono H2.out.size)); have hs3 : w.heap.size + 1 < w3.heap.size := Nat.lt_of_lt_of_le hsz1 H3.out.size; clear hB3 hd0 hd1 hg1 hO hmb)
      | (show wpList _ _ _ (Oper.mk (some 19) _ _ _ _ _ :: _) _ _
         refine wpList_lookU_ok rfl (.tmp 17) (.tmp 18) rfl (by simp [Act.eval]) HO.out hn (by simp [Act.eval]) ?_
         simp only [HTF.out, Option.getD_none, Option.isSome_none, spV]))
    have hcE := fun i => cell_of_row _ (w.heap.size + 1) i _ _ _ (set_two (HM1.out w3 H3.out) (.int .i64 0) (.int .i64 0) (.cells #[.int .i64 0, .int .i64 0] 25))
    exact bodyPost_ret (v := .tuple #[.agg #[.int .i64 0, .int .i64 0], .int .i64 2]) (by simp [results, Try.results21, go_sem, hcE]) rfl ⟨rfl, (((H1.out.trans (H3.out.mono H1.out.size)).setCell (by simp) _).setCell (by simp) _).alloc (by simp; omega) _⟩

end Go.Proofs.Ytjjipkgconmfcaa

namespace Go.Proofs.Ytjjipkgconmfcaa
open Go.RowKit Go.Maps
open R6 (done done_ne done_me upd_ne upd_me)

attribute [local go_sem] gives

def plaE (f : Fu) (n : Nat) (o : Int × Int) : Int := if okFu f = true then (if n < 2 ^ f.hs.length then (if okNo o = true then 0 else 91) else 2) else 90
def plaV (f : Fu) (n : Nat) (o : Int × Int) : Int := if okFu f = true then (if n < 2 ^ f.hs.length then (if okNo o = true then knoF (airF f n) o (f.s0, f.s1) else 0) else 0) else 0
def PlaPost (w : World) (f : Fu) (n : Nat) (o : Int × Int) (e : Ending) (w' : World) : Prop := e = .returned (.tuple #[.int .u8 (plaV f n o), .int .i64 (plaE f n o)]) ∧ Below w.heap.size w w'

set_option maxRecDepth 100000 in
set_option maxHeartbeats 8000000 in
theorem plays_any (f : Fu) (hl : f.hs.length ≤ 1000000) (n : Nat) (hn : n < 256) (o : Int × Int) (B : Nat) (w : World) (hB : B ≤ w.heap.size) (hz : FuAt w B f) :
    Calls Try.prog 22 #[.agg (fuc f).toArray, .int .u8 (n : Int), .agg #[.int .i64 o.1, .int .i64 o.2]] w (PlaPost w f n o) := by
  unfold PlaPost plaV plaE
  obtain ⟨o0, o1⟩ := o
  dsimp only
  obtain ⟨w1, hw1⟩ : ∃ w1, (w.alloc (.cells (fuc f).toArray 28)).alloc (.cells #[.int .i64 o0, .int .i64 o1] 25) = w1 := ⟨_, rfl⟩
  have hb1 : Below w.heap.size w w1 := by rw [← hw1]; exact ((Below.refl _ _).alloc (Nat.le_refl _) _).alloc (by simp) _
  have m0 : w1.heap[w.heap.size]? = some (.cells (fuc f).toArray 28 (0, 0)) := by rw [← hw1]; exact alloc2_at0 _ _ _
  have m1 : w1.heap[w.heap.size + 1]? = some (.cells #[.int .i64 o0, .int .i64 o1] 25 (0, 0)) := by rw [← hw1]; exact alloc2_at1 _ _ _
  have hz1 := hz.below (hb1.mono hB)
  have htn := tone_any9 f hl n hn B w1 (Nat.le_trans hB hb1.size) hz1
  unfold TonePost tonV tonE at htn
  have hsd := fun (hok : okFu f = true) (hlt : n < 2 ^ f.hs.length) W (hW : Below w1.heap.size w1 W) => sounding_any f n hlt (okFu_bnd hok).2.2.2.2.1 B W (Nat.le_trans hB (Nat.le_trans hb1.size hW.size)) (hz1.below (hW.mono (Nat.le_trans hB hb1.size)))
  have HNO := Lib.hid (fun W => validNote_any o0 o1 W)
  have hcf := fun (W : World) (hW : Below w1.heap.size w1 W) => And.intro (fun i => cell_of_row W w.heap.size i _ _ _ ((hW.block _ (lt_of_heap m0)).trans m0)) (fun i => cell_of_row W (w.heap.size + 1) i _ _ _ ((hW.block _ (lt_of_heap m1)).trans m1))
  have hno : okNo (o0, o1) = okS o0 o1 1 10000000 := rfl
  have H1 := Lib.hid (And.intro hb1 (And.intro m0 m1))
  have hbn := fun (hok : okFu f = true) => okFu_bnd hok
  have hab := fun (hok : okFu f = true) (hlt : n < 2 ^ f.hs.length) => airF_bnd hok hlt
  have hoo := fun (h : okS o0 o1 1 10000000 = true) => (show 1 ≤ o0 ∧ o0 ≤ o1 ∧ o1 ≤ 10000000 by rw [okS_iff] at h; exact h)
  have hoa := fun (hok : okFu f = true) (hlt : n < 2 ^ f.hs.length) (h0 : n ≠ 0) (W1 : World) (b : Nat) hm => openAir_of f hok n hlt h0 W1 b hm
  rw [hno]
  clear hz hz1 hb1 m0 m1 hno
  unfold fuc at hw1 htn hcf
  have HCF := Lib.hid hcf
  obtain ⟨hc0, hc1⟩ := HCF.out w1 (Below.refl _ _)
  have HHN := Lib.hid hn
  clear hcf hn
  unfold fuc
  generalize okS o0 o1 1 10000000 = v3 at HNO hoo ⊢
  generalize okFu f = v1 at htn hsd hbn hab hoa ⊢
  cases v1
  · have HTN := Lib.hid htn
    clear htn hsd hbn hab hoa hoo
    go_enter Try.func22, Try.ntmps22
    go_wp2_with (go_at_call 21; refine HTN.out.mono ?_; rintro e w2 ⟨rfl, hB2⟩; have H2 := Lib.hid hB2; clear hB2 hc0 hc1)
    go_ret2
    exact ⟨rfl, (H1.out.1.trans (H2.out.mono H1.out.1.size)).alloc (by have := H1.out.1.size; have := H2.out.size; omega) _⟩
  by_cases hlt : n < 2 ^ f.hs.length
  · rw [if_pos rfl, if_pos rfl, if_pos hlt, if_pos hlt] at htn ⊢
    generalize tonF f n = tt at htn
    obtain ⟨x, y⟩ := tt
    dsimp only at htn
    have HTN := Lib.hid htn
    have hsd' := hsd rfl hlt
    unfold fuc at hsd'
    have HSD := Lib.hid hsd'
    have hair := hab rfl hlt
    have hbf := hbn rfl
    have hopen := hoa rfl hlt
    have HLT := Lib.hid hlt
    clear htn hsd hsd' hbn hab hoa hlt
    cases v3
    · clear hoo hair hbf hopen
      go_enter Try.func22, Try.ntmps22
      go_wp2_with (first
        | (go_at_call 21; refine HTN.out.mono ?_; rintro e w2 ⟨rfl, hB2⟩; obtain ⟨hd0, hd1⟩ := HCF.out w2 hB2; have hs2 := Nat.lt_of_lt_of_le (lt_of_heap H1.out.2.2) hB2.size; have H2 := Lib.hid hB2; clear hB2 hc0 hc1)
        | (go_at_call 46; refine (HNO.out _).mono ?_; rintro e w3 ⟨rfl, hB3⟩; have H3 := Lib.hid hB3; clear hB3 hd0 hd1))
      go_ret2
      exact ⟨rfl, (((H1.out.1.trans (H2.out.mono H1.out.1.size)).alloc (by have := H1.out.1.size; have := H2.out.size; omega) _).trans (H3.out.mono (by have := H1.out.1.size; have := H2.out.size; simp; omega)))⟩
    · have ho := hoo rfl
      have HKN := Lib.hid (fun W => known_any (airF f n) (o0, o1) (f.s0, f.s1) (by omega) (by dsimp only; omega) (by dsimp only; omega) W)
      have HCA := Lib.hid (fun W1 => closedAir_any f.len f.e0 f.e1 (by omega) (by omega) (by omega) W1)
      have HOA := Lib.hid hopen
      clear hoo ho hair hbf hopen
      generalize knoF (airF f n) (o0, o1) (f.s0, f.s1) = kv at HKN ⊢
      dsimp only at HKN
      go_enter Try.func22, Try.ntmps22
      go_wp2_with (first
        | (go_at_call 21; refine HTN.out.mono ?_; rintro e w2 ⟨rfl, hB2⟩; obtain ⟨hd0, hd1⟩ := HCF.out w2 hB2; have hs2 := Nat.lt_of_lt_of_le (lt_of_heap H1.out.2.2) hB2.size; have H2 := Lib.hid hB2; clear hB2 hc0 hc1)
        | (go_at_call 46; refine (HNO.out _).mono ?_; rintro e w3 ⟨rfl, hB3⟩; have H3 := Lib.hid hB3; clear hB3 hd0 hd1))
      obtain ⟨w4, hw4⟩ : ∃ w4, w3 = w4 := ⟨_, rfl⟩
      have hb4 : Below w1.heap.size w1 w4 := by rw [← hw4]; exact ((H2.out.alloc H2.out.size _).trans (H3.out.mono (by have := H2.out.size; simp; omega)))
      have H4 := Lib.hid hb4
      clear hw4
      refine R6.wp_walk (C := ResF w1 [(w.heap.size, .cells (fuc f).toArray 28 (0, 0)), (w.heap.size + 1, .cells #[.int .i64 o0, .int .i64 o1] 25 (0, 0))] (souKp f n) [(2, 24, 0)]) 30 (by kernel_rfl) (by kernel_rfl) rfl (ResF.start ?_ ⟨?_, ?_, trivial⟩ (fun _ => rfl)) ?_
      · exact ((H2.out.alloc H2.out.size _).trans (H3.out.mono (by have := H2.out.size; simp; omega)))
      · exact (((H2.out.alloc H2.out.size _).trans (H3.out.mono (by have := H2.out.size; simp; omega))).block _ (lt_of_heap H1.out.2.1)).trans H1.out.2.1
      · exact (((H2.out.alloc H2.out.size _).trans (H3.out.mono (by have := H2.out.size; simp; omega))).block _ (lt_of_heap H1.out.2.2)).trans H1.out.2.2
      clear hb4
      simp only []
      iterate 2
        (refine' R6.WalkR.det (fun _ => rfl) (fun D ρ W hK hC => ?_) ?_
         rotate_left
         · have f0 := fun i => cell_of_row W w.heap.size i _ _ _ hC.keep.1
           unfold fuc at f0
           have f1 := fun i => cell_of_row W (w.heap.size + 1) i _ _ _ hC.keep.2.1
           have HC := Lib.hid hC
           clear hC hK
           go_simp
           first
             | with_reducible exact ⟨rfl, HC.out.move (by decide)⟩
             | (go_at_call 48; refine (HKN.out W).mono ?_; rintro e W1 ⟨rfl, hB1⟩; exact ⟨_, rfl, rfl, HC.out.next (souKp_stab _ _) hB1 (by decide)⟩)
         simp only [Act.put, List.setIfInBounds_toArray, List.set_cons_succ, List.set_cons_zero])
      refine' R6.WalkR.nd (fun _ => rfl) rfl (fun D ρ W hK hC => ?_) ?_
      · have HC := Lib.hid hC
        clear hC hK
        go_simp
        go_at_call 47
        refine (HSD.out W HC.out.bel).mono ?_
        rintro e W2 ⟨⟨v, rfl, hv⟩, hB2⟩
        exact ⟨v, rfl, HC.out.made (c := 0) (souKp_stab _ _) hB2 (by decide) hv⟩
      simp only [Act.put, List.setIfInBounds_toArray, List.set_cons_succ, List.set_cons_zero]
      refine' R6.WalkR.det (c := .agg #[.int .i64 (airF f n).1, .int .i64 (airF f n).2]) (fun _ => rfl) (fun D ρ W hK hC => ?_) ?_
      · have hv := hC.get (k := 2) (d := 24) (c := 0) (by simp) (hK.pre 2 (by first | decide +kernel | (dsimp only; decide +kernel)))
        have HC := Lib.hid hC
        clear hC hK
        rcases hv with ⟨hp0, hv⟩ | ⟨hp0, b, hv, hm⟩
        · have hmt := method_closed f.len f.e0 f.e1
          have HP0 := Lib.hid hp0
          have hair : airF f n = (f.len + f.e0, f.len + f.e1) := by simp only [airF, if_pos HP0.out]
          rw [hair]
          clear hp0 hair
          go_simp
          go_at_call 113
          refine (HCA.out W).mono ?_
          rintro e W2 ⟨rfl, hB2⟩
          exact ⟨_, rfl, rfl, HC.out.next (souKp_stab _ _) hB2 (by decide)⟩
        · have hmt := method_open (f.hs[tz8 n]?.getD ⟨0, 0, 0⟩).a (f.hs[tz8 n]?.getD ⟨0, 0, 0⟩).lo (f.hs[tz8 n]?.getD ⟨0, 0, 0⟩).hi
          have hair : airF f n = ((f.hs[tz8 n]?.getD ⟨0, 0, 0⟩).a + (f.hs[tz8 n]?.getD ⟨0, 0, 0⟩).lo + cloF n (tz8 n) (f.hs.length - tz8 n - 1) * f.c0, (f.hs[tz8 n]?.getD ⟨0, 0, 0⟩).a + (f.hs[tz8 n]?.getD ⟨0, 0, 0⟩).hi + cloF n (tz8 n) (f.hs.length - tz8 n - 1) * f.c1) := by simp only [airF, if_neg hp0]
          rw [hair]
          have hoa := HOA.out hp0 W b hm
          clear hp0 hair hm
          generalize cloF n (tz8 n) (f.hs.length - tz8 n - 1) = q at hv hoa ⊢
          generalize f.hs[tz8 n]?.getD ⟨0, 0, 0⟩ = h at hv hoa hmt ⊢
          have HOA1 := Lib.hid hoa
          clear hoa
          go_simp
          go_at_call 116
          refine HOA1.out.mono ?_
          rintro e W2 ⟨rfl, hB2⟩
          exact ⟨_, rfl, rfl, HC.out.next (souKp_stab _ _) hB2 (by decide)⟩
      simp only [Act.put, List.setIfInBounds_toArray, List.set_cons_succ, List.set_cons_zero]
      iterate 6
        (refine' R6.WalkR.det (fun _ => rfl) (fun D ρ W hK hC => ?_) ?_
         rotate_left
         · have f0 := fun i => cell_of_row W w.heap.size i _ _ _ hC.keep.1
           unfold fuc at f0
           have f1 := fun i => cell_of_row W (w.heap.size + 1) i _ _ _ hC.keep.2.1
           have HC := Lib.hid hC
           clear hC hK
           go_simp
           first
             | with_reducible exact ⟨rfl, HC.out.move (by decide)⟩
             | (go_at_call 48; refine (HKN.out W).mono ?_; rintro e W1 ⟨rfl, hB1⟩; exact ⟨_, rfl, rfl, HC.out.next (souKp_stab _ _) hB1 (by decide)⟩)
         simp only [Act.put, List.setIfInBounds_toArray, List.set_cons_succ, List.set_cons_zero])
      refine R6.WalkR.nil (fun D ρ W hD hC => ?_)
      have H9 := Lib.hid (H1.out.1.trans (hC.bel.mono H1.out.1.size))
      clear hC hD
      go_wp2
      go_ret2
      exact ⟨rfl, H9.out⟩
  · rw [if_pos rfl, if_pos rfl, if_neg hlt, if_neg hlt] at htn ⊢
    have HTN := Lib.hid htn
    clear htn hsd hbn hab hoa hoo hlt
    go_enter Try.func22, Try.ntmps22
    go_wp2_with (go_at_call 21; refine HTN.out.mono ?_; rintro e w2 ⟨rfl, hB2⟩; have H2 := Lib.hid hB2; clear hB2 hc0 hc1)
    go_ret2
    exact ⟨rfl, (H1.out.1.trans (H2.out.mono H1.out.1.size)).alloc (by have := H1.out.1.size; have := H2.out.size; omega) _⟩

end Go.Proofs.Ytjjipkgconmfcaa
