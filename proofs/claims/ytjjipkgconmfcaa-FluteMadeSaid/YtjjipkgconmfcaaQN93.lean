/-
  Texts laid together: FrH, FrI, FwF.
-/
import Derived.Deep.DeepCutAuto
import Derived.Test.YtjjipkgconmfcaaB97
import Derived.Test.YtjjipkgconmfcaaB96
import Derived.Test.YtjjipkgconmfcaaB912
import Derived.Test.YtjjipkgconmfcaaB98
import Derived.Test.YtjjipkgconmfcaaQN92
set_option linter.all false
namespace Go.Proofs.Ytjjipkgconmfcaa
open Go.RowKit
open R6 (done done_ne done_me upd_ne upd_me)

attribute [local go_sem] gives

theorem prevZ {zs : List Int} {k : Nat} (hk : k < zs.length) (h1 : 0 < k) : loZ zs k = zs[k - 1]?.getD 0 + 1 := by
  simp [loZ, show k ≠ 0 by omega]
theorem refZ {least a len : Int} (h : 0 ≤ least) : inR a least len = (inR a 0 len && !decide (a < least)) := by
  rw [Bool.eq_iff_iff]
  simp only [Bool.and_eq_true, inR_iff, Bool.not_eq_true', decide_eq_false_iff_not]
  omega
def headB (b : Bk) : Bool := inR b.len 50 20000 && (okS b.e0 b.e1 0 60 && (okS b.f0 b.f1 0 60 && (okS b.s0 b.s1 100000 500000 && (inR b.gap 1 20000 && (inR b.near 0 20000 && decide (b.zs.length ≤ 10))))))
theorem okBk_head (b : Bk) : okBk b = (headB b && noL b.len b.zs 0) := by
  unfold okBk headB
  simp only [allB_one, Bool.and_assoc]

set_option maxRecDepth 100000 in
set_option maxHeartbeats 16000000 in
theorem rfBlank_any (b : Bk) (hl : b.zs.length ≤ 1000000) (B : Nat) (w : World) (hB : B ≤ w.heap.size) (hz : BkAt w B b) :
    Calls Try.prog 55 #[.agg (bkc b).toArray] w fun e w' => e = .returned (.bool (okBk b)) ∧ Below w.heap.size w w' := by
  obtain ⟨w1, hw1⟩ : ∃ w1, w.alloc (.cells (bkc b).toArray 34) = w1 := ⟨_, rfl⟩
  have hb1 : Below w.heap.size w w1 := by rw [← hw1]; exact grow1 _ _
  have m1 : w1.heap[w.heap.size]? = some (.cells (bkc b).toArray 34 (0, 0)) := by rw [← hw1]; exact alloc_at0 _ _
  have hcf := fun (W : World) (hW : Below w1.heap.size w1 W) i => cell_of_row W w.heap.size i _ _ _ ((hW.block _ (lt_of_heap m1)).trans m1)
  have hsz := lt_of_heap m1
  have hzI : Ints w1 B b.A b.zs := hz.below (hb1.mono hB)
  have HZ := Lib.hid (And.intro hzI (Nat.le_trans hB hb1.size))
  have HL := Lib.hid (fun W => rfWithin_any b.len 50 20000 W)
  have HE := Lib.hid (fun W => rfSpanned_any b.e0 b.e1 0 60 W)
  have HF := Lib.hid (fun W => rfSpanned_any b.f0 b.f1 0 60 W)
  have HS := Lib.hid (fun W => rfSpanned_any b.s0 b.s1 100000 500000 W)
  have HG := Lib.hid (fun W => rfWithin_any b.gap 1 20000 W)
  have HN := Lib.hid (fun W => rfWithin_any b.near 0 20000 W)
  have H1 := Lib.hid hb1
  have HID := Lib.hid (fun (k : Nat) (hk : k < b.zs.length) => noL_step (len := b.len) hk)
  rw [okBk_head]
  have hlen : headB b = true → (50 ≤ b.len ∧ b.len ≤ 20000) ∧ b.zs.length ≤ 10 := fun h => by
    simp only [headB, Bool.and_eq_true, inR_iff, decide_eq_true_eq] at h
    exact ⟨h.1, h.2.2.2.2.2.2⟩
  have HLE := Lib.hid hlen
  have hhd : headB b = (inR b.len 50 20000 && (okS b.e0 b.e1 0 60 && (okS b.f0 b.f1 0 60 && (okS b.s0 b.s1 100000 500000 && (inR b.gap 1 20000 && (inR b.near 0 20000 && decide (b.zs.length ≤ 10))))))) := rfl
  clear hz hzI hb1 m1 hlen
  unfold bkc at hw1 hcf ⊢
  have HCF := Lib.hid hcf
  have hc := HCF.out w1 (Below.refl _ _)
  have HB := Lib.hid (Below.refl w1.heap.size w1)
  clear hcf
  obtain ⟨X, hX⟩ : ∃ X, X = noL b.len b.zs 0 := ⟨_, rfl⟩
  rw [← hX]
  have hX0 : noL b.len (b.zs.drop 0) (loZ b.zs 0) = X := by rw [hX]; rfl
  have HX := Lib.hid hX0
  clear hX hX0
  generalize okS b.s0 b.s1 100000 500000 = v4 at HS hhd
  generalize okS b.f0 b.f1 0 60 = v3 at HF hhd
  generalize okS b.e0 b.e1 0 60 = v2 at HE hhd
  generalize inR b.len 50 20000 = v1 at HL hhd
  generalize inR b.gap 1 20000 = v5 at HG hhd
  generalize inR b.near 0 20000 = v6 at HN hhd
  obtain ⟨hd, hhe⟩ : ∃ hd, headB b = hd := ⟨_, rfl⟩
  rw [hhe] at hhd HLE ⊢
  have HHD := Lib.hid hhd
  clear hhd hhe
  go_enter Try.func55, Try.ntmps55
  go_upto_region 1 with fail
  go_cut [43] from 4 to 43 (fun s43 wx => s43 = .bool (!hd) ∧ Hid (Below w1.heap.size w1 wx))
  case first =>
    by_cases h7 : b.zs.length ≤ 10
    rotate_left
    · have h7z : decide ((10 : Int) < b.zs.length) = true := decide_eq_true (by omega)
      have h7n : decide (b.zs.length ≤ 10) = false := decide_eq_false h7
      have hhd := HHD.out
      rw [h7n] at hhd
      clear HHD
      have HHD := Lib.hid hhd
      clear hhd h7n h7
      cases v1
      · go_wp2_with (first
          | (go_at_call 60; (with_reducible refine (HN.out _).mono ?_); rintro e w' ⟨rfl, rfl⟩)
          | (go_at_call 60; (with_reducible refine (HG.out _).mono ?_); rintro e w' ⟨rfl, rfl⟩)
          | (go_at_call 58
             (with_reducible refine (HS.out _).mono ?_)
             rintro e w' ⟨rfl, hB'⟩
             have hK := HB.out.trans (hB'.mono HB.out.size)
             clear hc HB hB'
             have HB := Lib.hid hK
             have hc := HCF.out w' hK
             clear hK)
          | (go_at_call 58
             (with_reducible refine (HF.out _).mono ?_)
             rintro e w' ⟨rfl, hB'⟩
             have hK := HB.out.trans (hB'.mono HB.out.size)
             clear hc HB hB'
             have HB := Lib.hid hK
             have hc := HCF.out w' hK
             clear hK)
          | (go_at_call 58
             (with_reducible refine (HE.out _).mono ?_)
             rintro e w' ⟨rfl, hB'⟩
             have hK := HB.out.trans (hB'.mono HB.out.size)
             clear hc HB hB'
             have HB := Lib.hid hK
             have hc := HCF.out w' hK
             clear hK)
          | (go_at_call 60; (with_reducible refine (HL.out _).mono ?_); rintro e w' ⟨rfl, rfl⟩))
        go_meet
        exact ⟨by rw [HHD.out]; rfl, HB.out⟩
      cases v2
      · go_wp2_with (first
          | (go_at_call 60; (with_reducible refine (HN.out _).mono ?_); rintro e w' ⟨rfl, rfl⟩)
          | (go_at_call 60; (with_reducible refine (HG.out _).mono ?_); rintro e w' ⟨rfl, rfl⟩)
          | (go_at_call 58
             (with_reducible refine (HS.out _).mono ?_)
             rintro e w' ⟨rfl, hB'⟩
             have hK := HB.out.trans (hB'.mono HB.out.size)
             clear hc HB hB'
             have HB := Lib.hid hK
             have hc := HCF.out w' hK
             clear hK)
          | (go_at_call 58
             (with_reducible refine (HF.out _).mono ?_)
             rintro e w' ⟨rfl, hB'⟩
             have hK := HB.out.trans (hB'.mono HB.out.size)
             clear hc HB hB'
             have HB := Lib.hid hK
             have hc := HCF.out w' hK
             clear hK)
          | (go_at_call 58
             (with_reducible refine (HE.out _).mono ?_)
             rintro e w' ⟨rfl, hB'⟩
             have hK := HB.out.trans (hB'.mono HB.out.size)
             clear hc HB hB'
             have HB := Lib.hid hK
             have hc := HCF.out w' hK
             clear hK)
          | (go_at_call 60; (with_reducible refine (HL.out _).mono ?_); rintro e w' ⟨rfl, rfl⟩))
        go_meet
        exact ⟨by rw [HHD.out]; rfl, HB.out⟩
      cases v3
      · go_wp2_with (first
          | (go_at_call 60; (with_reducible refine (HN.out _).mono ?_); rintro e w' ⟨rfl, rfl⟩)
          | (go_at_call 60; (with_reducible refine (HG.out _).mono ?_); rintro e w' ⟨rfl, rfl⟩)
          | (go_at_call 58
             (with_reducible refine (HS.out _).mono ?_)
             rintro e w' ⟨rfl, hB'⟩
             have hK := HB.out.trans (hB'.mono HB.out.size)
             clear hc HB hB'
             have HB := Lib.hid hK
             have hc := HCF.out w' hK
             clear hK)
          | (go_at_call 58
             (with_reducible refine (HF.out _).mono ?_)
             rintro e w' ⟨rfl, hB'⟩
             have hK := HB.out.trans (hB'.mono HB.out.size)
             clear hc HB hB'
             have HB := Lib.hid hK
             have hc := HCF.out w' hK
             clear hK)
          | (go_at_call 58
             (with_reducible refine (HE.out _).mono ?_)
             rintro e w' ⟨rfl, hB'⟩
             have hK := HB.out.trans (hB'.mono HB.out.size)
             clear hc HB hB'
             have HB := Lib.hid hK
             have hc := HCF.out w' hK
             clear hK)
          | (go_at_call 60; (with_reducible refine (HL.out _).mono ?_); rintro e w' ⟨rfl, rfl⟩))
        go_meet
        exact ⟨by rw [HHD.out]; rfl, HB.out⟩
      cases v4
      · go_wp2_with (first
          | (go_at_call 60; (with_reducible refine (HN.out _).mono ?_); rintro e w' ⟨rfl, rfl⟩)
          | (go_at_call 60; (with_reducible refine (HG.out _).mono ?_); rintro e w' ⟨rfl, rfl⟩)
          | (go_at_call 58
             (with_reducible refine (HS.out _).mono ?_)
             rintro e w' ⟨rfl, hB'⟩
             have hK := HB.out.trans (hB'.mono HB.out.size)
             clear hc HB hB'
             have HB := Lib.hid hK
             have hc := HCF.out w' hK
             clear hK)
          | (go_at_call 58
             (with_reducible refine (HF.out _).mono ?_)
             rintro e w' ⟨rfl, hB'⟩
             have hK := HB.out.trans (hB'.mono HB.out.size)
             clear hc HB hB'
             have HB := Lib.hid hK
             have hc := HCF.out w' hK
             clear hK)
          | (go_at_call 58
             (with_reducible refine (HE.out _).mono ?_)
             rintro e w' ⟨rfl, hB'⟩
             have hK := HB.out.trans (hB'.mono HB.out.size)
             clear hc HB hB'
             have HB := Lib.hid hK
             have hc := HCF.out w' hK
             clear hK)
          | (go_at_call 60; (with_reducible refine (HL.out _).mono ?_); rintro e w' ⟨rfl, rfl⟩))
        go_meet
        exact ⟨by rw [HHD.out]; rfl, HB.out⟩
      cases v5
      · go_wp2_with (first
          | (go_at_call 60; (with_reducible refine (HN.out _).mono ?_); rintro e w' ⟨rfl, rfl⟩)
          | (go_at_call 60; (with_reducible refine (HG.out _).mono ?_); rintro e w' ⟨rfl, rfl⟩)
          | (go_at_call 58
             (with_reducible refine (HS.out _).mono ?_)
             rintro e w' ⟨rfl, hB'⟩
             have hK := HB.out.trans (hB'.mono HB.out.size)
             clear hc HB hB'
             have HB := Lib.hid hK
             have hc := HCF.out w' hK
             clear hK)
          | (go_at_call 58
             (with_reducible refine (HF.out _).mono ?_)
             rintro e w' ⟨rfl, hB'⟩
             have hK := HB.out.trans (hB'.mono HB.out.size)
             clear hc HB hB'
             have HB := Lib.hid hK
             have hc := HCF.out w' hK
             clear hK)
          | (go_at_call 58
             (with_reducible refine (HE.out _).mono ?_)
             rintro e w' ⟨rfl, hB'⟩
             have hK := HB.out.trans (hB'.mono HB.out.size)
             clear hc HB hB'
             have HB := Lib.hid hK
             have hc := HCF.out w' hK
             clear hK)
          | (go_at_call 60; (with_reducible refine (HL.out _).mono ?_); rintro e w' ⟨rfl, rfl⟩))
        go_meet
        exact ⟨by rw [HHD.out]; rfl, HB.out⟩
      cases v6
      · go_wp2_with (first
          | (go_at_call 60; (with_reducible refine (HN.out _).mono ?_); rintro e w' ⟨rfl, rfl⟩)
          | (go_at_call 60; (with_reducible refine (HG.out _).mono ?_); rintro e w' ⟨rfl, rfl⟩)
          | (go_at_call 58
             (with_reducible refine (HS.out _).mono ?_)
             rintro e w' ⟨rfl, hB'⟩
             have hK := HB.out.trans (hB'.mono HB.out.size)
             clear hc HB hB'
             have HB := Lib.hid hK
             have hc := HCF.out w' hK
             clear hK)
          | (go_at_call 58
             (with_reducible refine (HF.out _).mono ?_)
             rintro e w' ⟨rfl, hB'⟩
             have hK := HB.out.trans (hB'.mono HB.out.size)
             clear hc HB hB'
             have HB := Lib.hid hK
             have hc := HCF.out w' hK
             clear hK)
          | (go_at_call 58
             (with_reducible refine (HE.out _).mono ?_)
             rintro e w' ⟨rfl, hB'⟩
             have hK := HB.out.trans (hB'.mono HB.out.size)
             clear hc HB hB'
             have HB := Lib.hid hK
             have hc := HCF.out w' hK
             clear hK)
          | (go_at_call 60; (with_reducible refine (HL.out _).mono ?_); rintro e w' ⟨rfl, rfl⟩))
        go_meet
        exact ⟨by rw [HHD.out]; rfl, HB.out⟩
      go_wp2_with (first
        | (go_at_call 60; (with_reducible refine (HN.out _).mono ?_); rintro e w' ⟨rfl, rfl⟩)
        | (go_at_call 60; (with_reducible refine (HG.out _).mono ?_); rintro e w' ⟨rfl, rfl⟩)
        | (go_at_call 58
           (with_reducible refine (HS.out _).mono ?_)
           rintro e w' ⟨rfl, hB'⟩
           have hK := HB.out.trans (hB'.mono HB.out.size)
           clear hc HB hB'
           have HB := Lib.hid hK
           have hc := HCF.out w' hK
           clear hK)
        | (go_at_call 58
           (with_reducible refine (HF.out _).mono ?_)
           rintro e w' ⟨rfl, hB'⟩
           have hK := HB.out.trans (hB'.mono HB.out.size)
           clear hc HB hB'
           have HB := Lib.hid hK
           have hc := HCF.out w' hK
           clear hK)
        | (go_at_call 58
           (with_reducible refine (HE.out _).mono ?_)
           rintro e w' ⟨rfl, hB'⟩
           have hK := HB.out.trans (hB'.mono HB.out.size)
           clear hc HB hB'
           have HB := Lib.hid hK
           have hc := HCF.out w' hK
           clear hK)
        | (go_at_call 60; (with_reducible refine (HL.out _).mono ?_); rintro e w' ⟨rfl, rfl⟩))
      go_meet
      exact ⟨by rw [HHD.out]; rfl, HB.out⟩
    · have h7z : decide ((10 : Int) < b.zs.length) = false := decide_eq_false (by omega)
      have h7n : decide (b.zs.length ≤ 10) = true := decide_eq_true h7
      have hhd := HHD.out
      rw [h7n] at hhd
      clear HHD
      have HHD := Lib.hid hhd
      clear hhd h7n h7
      cases v1
      · go_wp2_with (first
          | (go_at_call 60; (with_reducible refine (HN.out _).mono ?_); rintro e w' ⟨rfl, rfl⟩)
          | (go_at_call 60; (with_reducible refine (HG.out _).mono ?_); rintro e w' ⟨rfl, rfl⟩)
          | (go_at_call 58
             (with_reducible refine (HS.out _).mono ?_)
             rintro e w' ⟨rfl, hB'⟩
             have hK := HB.out.trans (hB'.mono HB.out.size)
             clear hc HB hB'
             have HB := Lib.hid hK
             have hc := HCF.out w' hK
             clear hK)
          | (go_at_call 58
             (with_reducible refine (HF.out _).mono ?_)
             rintro e w' ⟨rfl, hB'⟩
             have hK := HB.out.trans (hB'.mono HB.out.size)
             clear hc HB hB'
             have HB := Lib.hid hK
             have hc := HCF.out w' hK
             clear hK)
          | (go_at_call 58
             (with_reducible refine (HE.out _).mono ?_)
             rintro e w' ⟨rfl, hB'⟩
             have hK := HB.out.trans (hB'.mono HB.out.size)
             clear hc HB hB'
             have HB := Lib.hid hK
             have hc := HCF.out w' hK
             clear hK)
          | (go_at_call 60; (with_reducible refine (HL.out _).mono ?_); rintro e w' ⟨rfl, rfl⟩))
        go_meet
        exact ⟨by rw [HHD.out]; rfl, HB.out⟩
      cases v2
      · go_wp2_with (first
          | (go_at_call 60; (with_reducible refine (HN.out _).mono ?_); rintro e w' ⟨rfl, rfl⟩)
          | (go_at_call 60; (with_reducible refine (HG.out _).mono ?_); rintro e w' ⟨rfl, rfl⟩)
          | (go_at_call 58
             (with_reducible refine (HS.out _).mono ?_)
             rintro e w' ⟨rfl, hB'⟩
             have hK := HB.out.trans (hB'.mono HB.out.size)
             clear hc HB hB'
             have HB := Lib.hid hK
             have hc := HCF.out w' hK
             clear hK)
          | (go_at_call 58
             (with_reducible refine (HF.out _).mono ?_)
             rintro e w' ⟨rfl, hB'⟩
             have hK := HB.out.trans (hB'.mono HB.out.size)
             clear hc HB hB'
             have HB := Lib.hid hK
             have hc := HCF.out w' hK
             clear hK)
          | (go_at_call 58
             (with_reducible refine (HE.out _).mono ?_)
             rintro e w' ⟨rfl, hB'⟩
             have hK := HB.out.trans (hB'.mono HB.out.size)
             clear hc HB hB'
             have HB := Lib.hid hK
             have hc := HCF.out w' hK
             clear hK)
          | (go_at_call 60; (with_reducible refine (HL.out _).mono ?_); rintro e w' ⟨rfl, rfl⟩))
        go_meet
        exact ⟨by rw [HHD.out]; rfl, HB.out⟩
      cases v3
      · go_wp2_with (first
          | (go_at_call 60; (with_reducible refine (HN.out _).mono ?_); rintro e w' ⟨rfl, rfl⟩)
          | (go_at_call 60; (with_reducible refine (HG.out _).mono ?_); rintro e w' ⟨rfl, rfl⟩)
          | (go_at_call 58
             (with_reducible refine (HS.out _).mono ?_)
             rintro e w' ⟨rfl, hB'⟩
             have hK := HB.out.trans (hB'.mono HB.out.size)
             clear hc HB hB'
             have HB := Lib.hid hK
             have hc := HCF.out w' hK
             clear hK)
          | (go_at_call 58
             (with_reducible refine (HF.out _).mono ?_)
             rintro e w' ⟨rfl, hB'⟩
             have hK := HB.out.trans (hB'.mono HB.out.size)
             clear hc HB hB'
             have HB := Lib.hid hK
             have hc := HCF.out w' hK
             clear hK)
          | (go_at_call 58
             (with_reducible refine (HE.out _).mono ?_)
             rintro e w' ⟨rfl, hB'⟩
             have hK := HB.out.trans (hB'.mono HB.out.size)
             clear hc HB hB'
             have HB := Lib.hid hK
             have hc := HCF.out w' hK
             clear hK)
          | (go_at_call 60; (with_reducible refine (HL.out _).mono ?_); rintro e w' ⟨rfl, rfl⟩))
        go_meet
        exact ⟨by rw [HHD.out]; rfl, HB.out⟩
      cases v4
      · go_wp2_with (first
          | (go_at_call 60; (with_reducible refine (HN.out _).mono ?_); rintro e w' ⟨rfl, rfl⟩)
          | (go_at_call 60; (with_reducible refine (HG.out _).mono ?_); rintro e w' ⟨rfl, rfl⟩)
          | (go_at_call 58
             (with_reducible refine (HS.out _).mono ?_)
             rintro e w' ⟨rfl, hB'⟩
             have hK := HB.out.trans (hB'.mono HB.out.size)
             clear hc HB hB'
             have HB := Lib.hid hK
             have hc := HCF.out w' hK
             clear hK)
          | (go_at_call 58
             (with_reducible refine (HF.out _).mono ?_)
             rintro e w' ⟨rfl, hB'⟩
             have hK := HB.out.trans (hB'.mono HB.out.size)
             clear hc HB hB'
             have HB := Lib.hid hK
             have hc := HCF.out w' hK
             clear hK)
          | (go_at_call 58
             (with_reducible refine (HE.out _).mono ?_)
             rintro e w' ⟨rfl, hB'⟩
             have hK := HB.out.trans (hB'.mono HB.out.size)
             clear hc HB hB'
             have HB := Lib.hid hK
             have hc := HCF.out w' hK
             clear hK)
          | (go_at_call 60; (with_reducible refine (HL.out _).mono ?_); rintro e w' ⟨rfl, rfl⟩))
        go_meet
        exact ⟨by rw [HHD.out]; rfl, HB.out⟩
      cases v5
      · go_wp2_with (first
          | (go_at_call 60; (with_reducible refine (HN.out _).mono ?_); rintro e w' ⟨rfl, rfl⟩)
          | (go_at_call 60; (with_reducible refine (HG.out _).mono ?_); rintro e w' ⟨rfl, rfl⟩)
          | (go_at_call 58
             (with_reducible refine (HS.out _).mono ?_)
             rintro e w' ⟨rfl, hB'⟩
             have hK := HB.out.trans (hB'.mono HB.out.size)
             clear hc HB hB'
             have HB := Lib.hid hK
             have hc := HCF.out w' hK
             clear hK)
          | (go_at_call 58
             (with_reducible refine (HF.out _).mono ?_)
             rintro e w' ⟨rfl, hB'⟩
             have hK := HB.out.trans (hB'.mono HB.out.size)
             clear hc HB hB'
             have HB := Lib.hid hK
             have hc := HCF.out w' hK
             clear hK)
          | (go_at_call 58
             (with_reducible refine (HE.out _).mono ?_)
             rintro e w' ⟨rfl, hB'⟩
             have hK := HB.out.trans (hB'.mono HB.out.size)
             clear hc HB hB'
             have HB := Lib.hid hK
             have hc := HCF.out w' hK
             clear hK)
          | (go_at_call 60; (with_reducible refine (HL.out _).mono ?_); rintro e w' ⟨rfl, rfl⟩))
        go_meet
        exact ⟨by rw [HHD.out]; rfl, HB.out⟩
      cases v6
      · go_wp2_with (first
          | (go_at_call 60; (with_reducible refine (HN.out _).mono ?_); rintro e w' ⟨rfl, rfl⟩)
          | (go_at_call 60; (with_reducible refine (HG.out _).mono ?_); rintro e w' ⟨rfl, rfl⟩)
          | (go_at_call 58
             (with_reducible refine (HS.out _).mono ?_)
             rintro e w' ⟨rfl, hB'⟩
             have hK := HB.out.trans (hB'.mono HB.out.size)
             clear hc HB hB'
             have HB := Lib.hid hK
             have hc := HCF.out w' hK
             clear hK)
          | (go_at_call 58
             (with_reducible refine (HF.out _).mono ?_)
             rintro e w' ⟨rfl, hB'⟩
             have hK := HB.out.trans (hB'.mono HB.out.size)
             clear hc HB hB'
             have HB := Lib.hid hK
             have hc := HCF.out w' hK
             clear hK)
          | (go_at_call 58
             (with_reducible refine (HE.out _).mono ?_)
             rintro e w' ⟨rfl, hB'⟩
             have hK := HB.out.trans (hB'.mono HB.out.size)
             clear hc HB hB'
             have HB := Lib.hid hK
             have hc := HCF.out w' hK
             clear hK)
          | (go_at_call 60; (with_reducible refine (HL.out _).mono ?_); rintro e w' ⟨rfl, rfl⟩))
        go_meet
        exact ⟨by rw [HHD.out]; rfl, HB.out⟩
      go_wp2_with (first
        | (go_at_call 60; (with_reducible refine (HN.out _).mono ?_); rintro e w' ⟨rfl, rfl⟩)
        | (go_at_call 60; (with_reducible refine (HG.out _).mono ?_); rintro e w' ⟨rfl, rfl⟩)
        | (go_at_call 58
           (with_reducible refine (HS.out _).mono ?_)
           rintro e w' ⟨rfl, hB'⟩
           have hK := HB.out.trans (hB'.mono HB.out.size)
           clear hc HB hB'
           have HB := Lib.hid hK
           have hc := HCF.out w' hK
           clear hK)
        | (go_at_call 58
           (with_reducible refine (HF.out _).mono ?_)
           rintro e w' ⟨rfl, hB'⟩
           have hK := HB.out.trans (hB'.mono HB.out.size)
           clear hc HB hB'
           have HB := Lib.hid hK
           have hc := HCF.out w' hK
           clear hK)
        | (go_at_call 58
           (with_reducible refine (HE.out _).mono ?_)
           rintro e w' ⟨rfl, hB'⟩
           have hK := HB.out.trans (hB'.mono HB.out.size)
           clear hc HB hB'
           have HB := Lib.hid hK
           have hc := HCF.out w' hK
           clear hK)
        | (go_at_call 60; (with_reducible refine (HL.out _).mono ?_); rintro e w' ⟨rfl, rfl⟩))
      go_meet
      exact ⟨by rw [HHD.out]; rfl, HB.out⟩
  case rest =>
    obtain ⟨rfl, HBc⟩ := hcut
    have hcc := HCF.out wc HBc.out
    clear hc HB HL HE HF HS HG HN HHD
    cases hd
    · go_wp2
      go_ret
      exact ⟨rfl, H1.out.trans (HBc.out.mono H1.out.size)⟩
    obtain ⟨hlen, hz10⟩ := HLE.out rfl
    have hl1 := hlen.1
    have hl2 := hlen.2
    have hz10z : (b.zs.length : Int) ≤ 10 := by omega
    clear HLE hlen
    generalize b.A = A at hw1 hcc HCF HZ ⊢
    go_wp2
    go_loopg [3] b.zs.length (fun gg s3 wx => ∃ k : Nat, k + gg = b.zs.length ∧ s3 = .int .i64 k ∧ Hid (0 ≤ loZ b.zs k) ∧ Hid (noL b.len (b.zs.drop k) (loZ b.zs k) = X) ∧ Hid (Below w1.heap.size w1 wx))
    case atStart => exact ⟨0, by omega, rfl, by simp [loZ, Hid], HX.out, HBc.out⟩
    case round =>
      obtain ⟨k, hkg, rfl, hLB, hI, hBr⟩ := hrel
      have hcr := HCF.out wr hBr.out
      cases gk with
      | zero =>
        obtain rfl : k = b.zs.length := by omega
        have hI' := hI.out
        rw [List.drop_length] at hI'
        have HI := Lib.hid hI'
        clear hI' hcc
        go_wp2
        go_ret
        exact ⟨by rw [← HI.out]; rfl, H1.out.trans (hBr.out.mono H1.out.size)⟩
      | succ gg =>
        have hk : k < b.zs.length := by omega
        have hkz : (k : Int) < b.zs.length := by omega
        obtain ⟨S, off, hA, hS, hcy⟩ := HZ.out.1 (by omega)
        subst hA
        have hy := fun (W : World) (hW : Below w1.heap.size w1 W) j (hj : j < b.zs.length) => (hW.cell (p := ⟨S, off + j, none⟩) (Nat.lt_of_lt_of_le hS HZ.out.2)).trans (hcy j hj)
        have HY := Lib.hid hy
        have hst := HID.out k hk
        rw [hI.out, allB_one, refZ hLB.out] at hst
        have hst := hst.symm
        obtain ⟨z, hze⟩ : ∃ z, b.zs[k]?.getD 0 = z := ⟨_, rfl⟩
        have hzk : b.zs[k] = z := by rw [← hze]; simp [hk]
        have HZE := Lib.hid hze
        rw [hzk] at hst
        have hlo : loZ b.zs (k + 1) = z + 1 := by simp [loZ, hze]
        have HLO := Lib.hid hlo
        have HWI := Lib.hid (fun W => rfWithin_any z 0 b.len W)
        clear hy hcy hcc hzk hze hlo
        by_cases h0 : k = 0
        · have hl0 : loZ b.zs k = 0 := by rw [h0]; rfl
          rw [hl0] at hst
          have hd2 : inR z 0 b.len = true → decide (z < 0) = false := fun h => decide_eq_false (by have := inR_iff.1 h; omega)
          have HD2 := Lib.hid hd2
          have HST := Lib.hid hst
          clear hd2
          have q1 : decide ((0 : Int) < k) = false := decide_eq_false (by omega)
          have q2 : decide (0 < k) = false := decide_eq_false (by omega)
          clear hst hl0 h0
          cases hv : inR z 0 b.len
          · rw [hv] at HWI
            have HV := Lib.hid hv
            clear hv
            go_wp2
            refine R6.wp_walk (C := fun _ _ W => Below w1.heap.size w1 W) 78 (by kernel_rfl) (by kernel_rfl) rfl hBr.out.drew ?_
            simp only []
            repeat (first
              | (refine' R6.WalkR.det (fun _ => rfl) (fun D ρ W hK hC => ?_) ?_
                 rotate_left
                 · have f0 := HCF.out W hC
                   have f1 : W.cell? ⟨S, off + k, none⟩ = some (.int .i64 z) := by rw [← HZE.out]; exact HY.out W hC k hk
                   have HC := Lib.hid hC
                   clear hC hK
                   go_simp
                   first
                     | with_reducible exact ⟨rfl, HC.out⟩
                     | (go_at_call 60; (with_reducible refine (HWI.out W).mono ?_); rintro e W1 ⟨rfl, rfl⟩; exact ⟨_, rfl, rfl, HC.out⟩)
                 simp only [Act.put, List.setIfInBounds_toArray, List.set_cons_succ, List.set_cons_zero])
              | (refine R6.WalkR.un (fun _ => rfl) (fun D ρ W hK hC => hC) ?_
                 simp only [Act.put, List.setIfInBounds_toArray, List.set_cons_succ, List.set_cons_zero]))
            refine R6.WalkR.nil (fun D ρ W hD hC => ?_)
            have H9 := Lib.hid hC
            clear hC hD
            go_wp2
            go_ret
            exact ⟨by rw [← HST.out, HV.out]; rfl, H1.out.trans (H9.out.mono H1.out.size)⟩
          · rw [hv] at HWI
            have HV := Lib.hid hv
            clear hv
            go_wp2
            refine R6.wp_walk (C := fun _ _ W => Below w1.heap.size w1 W) 78 (by kernel_rfl) (by kernel_rfl) rfl hBr.out.drew ?_
            simp only []
            repeat (first
              | (refine' R6.WalkR.det (fun _ => rfl) (fun D ρ W hK hC => ?_) ?_
                 rotate_left
                 · have f0 := HCF.out W hC
                   have f1 : W.cell? ⟨S, off + k, none⟩ = some (.int .i64 z) := by rw [← HZE.out]; exact HY.out W hC k hk
                   have HC := Lib.hid hC
                   clear hC hK
                   go_simp
                   first
                     | with_reducible exact ⟨rfl, HC.out⟩
                     | (go_at_call 60; (with_reducible refine (HWI.out W).mono ?_); rintro e W1 ⟨rfl, rfl⟩; exact ⟨_, rfl, rfl, HC.out⟩)
                 simp only [Act.put, List.setIfInBounds_toArray, List.set_cons_succ, List.set_cons_zero])
              | (refine R6.WalkR.un (fun _ => rfl) (fun D ρ W hK hC => hC) ?_
                 simp only [Act.put, List.setIfInBounds_toArray, List.set_cons_succ, List.set_cons_zero]))
            refine R6.WalkR.nil (fun D ρ W hD hC => ?_)
            have H9 := Lib.hid hC
            clear hC hD
            go_wp2
            go_roundg gg
            case measure => omega
            case rel => exact ⟨k + 1, by omega, by go_num, by rw [HLO.out]; have := inR_iff.1 HV.out; show 0 ≤ z + 1; omega, Lib.hid (by rw [← HST.out, HV.out, HD2.out HV.out]; rfl), H9.out⟩
        · obtain ⟨j, rfl⟩ : ∃ j, k = j + 1 := ⟨k - 1, by omega⟩
          obtain ⟨p, hpe⟩ : ∃ p, b.zs[j]?.getD 0 = p := ⟨_, rfl⟩
          have HPE := Lib.hid hpe
          have hlp := prevZ hk (Nat.succ_pos j)
          rw [Nat.add_sub_cancel, hpe] at hlp
          rw [hlp] at hst
          have hj4 : (j : Int) < b.zs.length := by omega
          have hj5 : decide ((0 : Int) < (j : Int) + 1) = true := decide_eq_true (by omega)
          have hj6 : IntKind.i64.wrap (j : Int) = j := IntWalk.i64_in _ (by omega)
          have hj7 : (j : Int) + 1 < b.zs.length := by omega
          have hj8 : ((j : Int) + 1).toNat = j + 1 := by omega
          have HJ := Lib.hid (And.intro hj4 (And.intro hj5 (And.intro hj6 (And.intro hj7 (And.intro hj8 (show (0 : Int) ≤ (j : Int) + 1 by omega))))))
          clear hpe hlp h0 hj4 hj5 hj6 hj7 hj8
          have HST := Lib.hid hst
          clear hst
          cases hv : inR z 0 b.len
          · rw [hv] at HWI
            have HV := Lib.hid hv
            clear hv
            go_wp2
            refine R6.wp_walk (C := fun _ _ W => Below w1.heap.size w1 W) 78 (by kernel_rfl) (by kernel_rfl) rfl hBr.out.drew ?_
            simp only []
            repeat (first
              | (refine' R6.WalkR.det (fun _ => rfl) (fun D ρ W hK hC => ?_) ?_
                 rotate_left
                 · have f0 := HCF.out W hC
                   have f1 : W.cell? ⟨S, off + (j + 1), none⟩ = some (.int .i64 z) := by rw [← HZE.out]; exact HY.out W hC (j + 1) hk
                   have f2 : W.cell? ⟨S, off + j, none⟩ = some (.int .i64 p) := by rw [← HPE.out]; exact HY.out W hC j (by omega)
                   obtain ⟨q5, q6, q7, q8, q9, q10⟩ := HJ.out
                   have HC := Lib.hid hC
                   clear hC hK
                   go_simp
                   first
                     | with_reducible exact ⟨rfl, HC.out⟩
                     | (go_at_call 60; (with_reducible refine (HWI.out W).mono ?_); rintro e W1 ⟨rfl, rfl⟩; exact ⟨_, rfl, rfl, HC.out⟩)
                 simp only [Act.put, List.setIfInBounds_toArray, List.set_cons_succ, List.set_cons_zero])
              | (refine R6.WalkR.un (fun _ => rfl) (fun D ρ W hK hC => hC) ?_
                 simp only [Act.put, List.setIfInBounds_toArray, List.set_cons_succ, List.set_cons_zero]))
            refine R6.WalkR.nil (fun D ρ W hD hC => ?_)
            have H9 := Lib.hid hC
            clear hC hD
            go_wp2
            go_ret
            exact ⟨by rw [← HST.out, HV.out]; rfl, H1.out.trans (H9.out.mono H1.out.size)⟩
          · rw [hv] at HWI
            have HV := Lib.hid hv
            clear hv
            by_cases hzp : z ≤ p
            · have HD2 := Lib.hid (show decide (z < p + 1) = true from decide_eq_true (by omega))
              go_wp2
              refine R6.wp_walk (C := fun _ _ W => Below w1.heap.size w1 W) 78 (by kernel_rfl) (by kernel_rfl) rfl hBr.out.drew ?_
              simp only []
              repeat (first
                | (refine' R6.WalkR.det (fun _ => rfl) (fun D ρ W hK hC => ?_) ?_
                   rotate_left
                   · have f0 := HCF.out W hC
                     have f1 : W.cell? ⟨S, off + (j + 1), none⟩ = some (.int .i64 z) := by rw [← HZE.out]; exact HY.out W hC (j + 1) hk
                     have f2 : W.cell? ⟨S, off + j, none⟩ = some (.int .i64 p) := by rw [← HPE.out]; exact HY.out W hC j (by omega)
                     obtain ⟨q5, q6, q7, q8, q9, q10⟩ := HJ.out
                     have HC := Lib.hid hC
                     clear hC hK
                     go_simp
                     first
                       | with_reducible exact ⟨rfl, HC.out⟩
                       | (go_at_call 60; (with_reducible refine (HWI.out W).mono ?_); rintro e W1 ⟨rfl, rfl⟩; exact ⟨_, rfl, rfl, HC.out⟩)
                   simp only [Act.put, List.setIfInBounds_toArray, List.set_cons_succ, List.set_cons_zero])
                | (refine R6.WalkR.un (fun _ => rfl) (fun D ρ W hK hC => hC) ?_
                   simp only [Act.put, List.setIfInBounds_toArray, List.set_cons_succ, List.set_cons_zero]))
              refine R6.WalkR.nil (fun D ρ W hD hC => ?_)
              have H9 := Lib.hid hC
              clear hC hD
              go_wp2
              go_ret
              exact ⟨by rw [← HST.out, HV.out, HD2.out]; rfl, H1.out.trans (H9.out.mono H1.out.size)⟩
            · have HD2 := Lib.hid (show decide (z < p + 1) = false from decide_eq_false (by omega))
              have q4 : decide (z ≤ p) = false := decide_eq_false hzp
              go_wp2
              refine R6.wp_walk (C := fun _ _ W => Below w1.heap.size w1 W) 78 (by kernel_rfl) (by kernel_rfl) rfl hBr.out.drew ?_
              simp only []
              repeat (first
                | (refine' R6.WalkR.det (fun _ => rfl) (fun D ρ W hK hC => ?_) ?_
                   rotate_left
                   · have f0 := HCF.out W hC
                     have f1 : W.cell? ⟨S, off + (j + 1), none⟩ = some (.int .i64 z) := by rw [← HZE.out]; exact HY.out W hC (j + 1) hk
                     have f2 : W.cell? ⟨S, off + j, none⟩ = some (.int .i64 p) := by rw [← HPE.out]; exact HY.out W hC j (by omega)
                     obtain ⟨q5, q6, q7, q8, q9, q10⟩ := HJ.out
                     have HC := Lib.hid hC
                     clear hC hK
                     go_simp
                     first
                       | with_reducible exact ⟨rfl, HC.out⟩
                       | (go_at_call 60; (with_reducible refine (HWI.out W).mono ?_); rintro e W1 ⟨rfl, rfl⟩; exact ⟨_, rfl, rfl, HC.out⟩)
                   simp only [Act.put, List.setIfInBounds_toArray, List.set_cons_succ, List.set_cons_zero])
                | (refine R6.WalkR.un (fun _ => rfl) (fun D ρ W hK hC => hC) ?_
                   simp only [Act.put, List.setIfInBounds_toArray, List.set_cons_succ, List.set_cons_zero]))
              refine R6.WalkR.nil (fun D ρ W hD hC => ?_)
              have H9 := Lib.hid hC
              clear hC hD
              go_wp2
              go_roundg gg
              case measure => omega
              case rel => exact ⟨j + 1 + 1, by omega, by go_num, by rw [HLO.out]; have := inR_iff.1 HV.out; show 0 ≤ z + 1; omega, Lib.hid (by rw [← HST.out, HV.out, HD2.out]; rfl), H9.out⟩

end Go.Proofs.Ytjjipkgconmfcaa

namespace Go.Proofs.Ytjjipkgconmfcaa
open Go.RowKit
open R6 (done done_ne done_me upd_ne upd_me)

attribute [local go_sem] gives

theorem okNos_in (l : List (Int × Int)) : okNos l = (inR (l.length : Int) 1 9 && l.all okNo1) := by
  unfold okNos
  congr 1
  rw [Bool.eq_iff_iff]
  simp only [Bool.and_eq_true, decide_eq_true_eq, inR_iff]
  omega

set_option maxRecDepth 100000 in
set_option maxHeartbeats 4000000 in
theorem rfNotes_any (A : Option Addr) (cap : Nat) (l : List (Int × Int)) (hl : l.length ≤ 1000000) (B : Nat) (w : World) (hB : B ≤ w.heap.size) (hz : Vals w B A (pairs l)) :
    Calls Try.prog 56 #[.slice A l.length cap] w fun e w' => e = .returned (.bool (okNos l)) ∧ Below w.heap.size w w' := by
  rw [okNos_in]
  have hz' : Vals w B A (l.flatMap sp2) := hz
  have HZ := Lib.hid hz'
  have HW := Lib.hid (fun W => rfWithin_any (l.length : Int) 1 9 W)
  have hb9 : inR (l.length : Int) 1 9 = true → l.length ≤ 9 := fun h => by have := inR_iff.1 h; omega
  generalize inR (l.length : Int) 1 9 = v at HW hb9 ⊢
  obtain ⟨X, hX⟩ : ∃ X, X = l.all okNo1 := ⟨_, rfl⟩
  rw [← hX]
  have hX0 : (l.drop 0).all okNo1 = X := by rw [hX]; rfl
  have HX := Lib.hid hX0
  clear hX hX0 hz hz'
  have hlz : (l.length : Int) ≤ 1000000 := by omega
  cases v
  · clear hb9
    go_enter Try.func56, Try.ntmps56
    go_wp2_with (go_at_call 60; (with_reducible refine (HW.out _).mono ?_); rintro e w' ⟨rfl, rfl⟩)
    go_ret
    exact ⟨rfl, Below.refl _ _⟩
  have hb9 := hb9 rfl
  have hb9z : (l.length : Int) ≤ 9 := by omega
  go_enter Try.func56, Try.ntmps56
  go_wp2_with (go_at_call 60; (with_reducible refine (HW.out _).mono ?_); rintro e w' ⟨rfl, rfl⟩)
  go_loopg [3] l.length (fun gg s3 wx => ∃ k : Nat, k + gg = l.length ∧ s3 = .int .i64 k ∧ Hid ((l.drop k).all okNo1 = X) ∧ Hid (Below w.heap.size w wx))
  case atStart => exact ⟨0, by omega, rfl, HX.out, Below.refl _ _⟩
  case round =>
    obtain ⟨k, hkg, rfl, hI, hBr⟩ := hrel
    cases gk with
    | zero =>
      obtain rfl : k = l.length := by omega
      have hI' := hI.out
      rw [List.drop_length] at hI'
      have HI := Lib.hid hI'
      clear hI'
      go_wp2
      go_ret
      exact ⟨by rw [← HI.out]; rfl, hBr.out⟩
    | succ gg =>
      have hk : k < l.length := by omega
      have hkz : (k : Int) < l.length := by omega
      obtain ⟨c, off, hA, hcB, hcy⟩ := vals_elem (f := sp2) (n := 2) (fun _ => rfl) HZ.out (by decide) hk
      subst hA
      have hst := hI.out
      rw [List.drop_eq_getElem_cons hk, List.all_cons] at hst
      have hy := fun j v hv => ((hBr.out.cell (p := ⟨c, off + k * 2 + j, none⟩) (Nat.lt_of_lt_of_le hcB hB)).trans (hcy j v hv))
      generalize l[k] = y at hy hst
      obtain ⟨y0, y1⟩ := y
      have hno : okNo1 (y0, y1) = okS y0 y1 1 10000000 := rfl
      have HNO := Lib.hid (fun W => rfNote_any y0 y1 W)
      rw [hno] at hst
      have HY := Lib.hid hy
      clear hcy hy hno
      generalize okS y0 y1 1 10000000 = u at HNO hst
      have HST := Lib.hid hst
      clear hst
      cases u
      · go_wp2_with (first
          | (show wpList _ _ _ (Oper.mk (some 17) _ _ _ _ _ :: _) _ _
             refine wpList_load_at 25 (.tmp 16) rfl rfl (by simp [Act.eval]) [.int .i64 y0, .int .i64 y1] HY.out rowSpan ?_)
          | (go_at_call 33; (with_reducible refine (HNO.out wr).mono ?_); rintro e w4 ⟨rfl, hB4⟩; have H4 := Lib.hid (hBr.out.trans (hB4.mono hBr.out.size)); clear hB4))
        go_ret
        exact ⟨by rw [← HST.out]; rfl, H4.out⟩
      · go_wp2_with (first
          | (show wpList _ _ _ (Oper.mk (some 17) _ _ _ _ _ :: _) _ _
             refine wpList_load_at 25 (.tmp 16) rfl rfl (by simp [Act.eval]) [.int .i64 y0, .int .i64 y1] HY.out rowSpan ?_)
          | (go_at_call 33; (with_reducible refine (HNO.out wr).mono ?_); rintro e w4 ⟨rfl, hB4⟩; have H4 := Lib.hid (hBr.out.trans (hB4.mono hBr.out.size)); clear hB4))
        go_roundg gg
        case measure => omega
        case rel => exact ⟨k + 1, by omega, by go_num, Lib.hid (by rw [← HST.out]; rfl), H4.out⟩

def drlF (b : Bk) (os : List (Int × Int)) : Bool := !greatF fu0 b os.length && (okBk b && okNos os)

set_option maxRecDepth 100000 in
set_option maxHeartbeats 4000000 in
theorem drilling_any (b : Bk) (hl : b.zs.length ≤ 1000000) (A : Option Addr) (cap : Nat) (os : List (Int × Int)) (hlo : os.length ≤ 1000000) (B : Nat) (w : World) (hB : B ≤ w.heap.size) (hz : BkAt w B b) (ho : Vals w B A (pairs os)) :
    Calls Try.prog 36 #[.agg (bkc b).toArray, .slice A os.length cap] w fun e w' => e = .returned (.bool (drlF b os)) ∧ Below w.heap.size w w' := by
  obtain ⟨w1, hw1⟩ : ∃ w1, w.alloc (.cells (bkc b).toArray 34) = w1 := ⟨_, rfl⟩
  have hb1 : Below w.heap.size w w1 := by rw [← hw1]; exact grow1 _ _
  have m1 : w1.heap[w.heap.size]? = some (.cells (bkc b).toArray 34 (0, 0)) := by rw [← hw1]; exact alloc_at0 _ _
  have hcf := fun (W : World) (hW : Below w1.heap.size w1 W) i => cell_of_row W w.heap.size i _ _ _ ((hW.block _ (lt_of_heap m1)).trans m1)
  have hz1 := hz.below (hb1.mono hB)
  have ho1 := ho.below (hb1.mono hB)
  have hB1 := Nat.le_trans hB hb1.size
  have hbl := fun W (hW : Below w1.heap.size w1 W) => rfBlank_any b hl B W (Nat.le_trans hB1 hW.size) (hz1.below (hW.mono hB1))
  have hno := fun W (hW : Below w1.heap.size w1 W) => rfNotes_any A cap os hlo B W (Nat.le_trans hB1 hW.size) (ho1.below (hW.mono hB1))
  have hgr := fun W => rfGreat_any fu0 b os.length W
  have H1 := Lib.hid hb1
  clear hz ho hb1 m1 hz1 ho1
  unfold drlF
  unfold fuc fu0 at hgr
  dsimp only [List.length_nil] at hgr
  unfold bkc at hw1 hcf hbl hgr ⊢
  have HCF := Lib.hid hcf
  have hc1 := HCF.out w1 (Below.refl _ _)
  clear hcf
  have hgx : greatF ⟨0, 0, 0, 0, 0, 0, 0, none, 0, []⟩ b os.length = greatF fu0 b os.length := rfl
  rw [hgx] at hgr
  generalize greatF fu0 b os.length = v0 at hgr ⊢
  generalize okBk b = v1 at hbl ⊢
  generalize okNos os = v2 at hno ⊢
  have HGR := Lib.hid hgr
  have HBL := Lib.hid hbl
  have HNO := Lib.hid hno
  clear hgr hbl hno hgx
  cases v0
  · cases v1
    · go_enter Try.func36, Try.ntmps36
      go_wp2_with (first
        | (go_at_call 25; (with_reducible refine (HGR.out _).mono ?_); rintro e w2 ⟨rfl, hB2⟩; have hc2 := HCF.out w2 hB2; have H2 := Lib.hid hB2; clear hB2 hc1)
        | (go_at_call 55; (with_reducible refine (HBL.out w2 H2.out).mono ?_); rintro e w3 ⟨rfl, hB3⟩; have H3 := Lib.hid (H2.out.trans (hB3.mono H2.out.size)); clear hB3))
      go_ret
      exact ⟨rfl, H1.out.trans (H3.out.mono H1.out.size)⟩
    · cases v2
      all_goals
        go_enter Try.func36, Try.ntmps36
        go_wp2_with (first
          | (go_at_call 25; (with_reducible refine (HGR.out _).mono ?_); rintro e w2 ⟨rfl, hB2⟩; have hc2 := HCF.out w2 hB2; have H2 := Lib.hid hB2; clear hB2 hc1)
          | (go_at_call 55; (with_reducible refine (HBL.out w2 H2.out).mono ?_); rintro e w3 ⟨rfl, hB3⟩; have H3 := Lib.hid (H2.out.trans (hB3.mono H2.out.size)); clear hB3)
          | (go_at_call 56; (with_reducible refine (HNO.out w3 H3.out).mono ?_); rintro e w4 ⟨rfl, hB4⟩; have H4 := Lib.hid (H3.out.trans (hB4.mono H3.out.size)); clear hB4))
        go_ret
        exact ⟨rfl, H1.out.trans (H4.out.mono H1.out.size)⟩
  · go_enter Try.func36, Try.ntmps36
    go_wp2_with (go_at_call 25; (with_reducible refine (HGR.out _).mono ?_); rintro e w2 ⟨rfl, hB2⟩; have H2 := Lib.hid hB2; clear hB2 hc1)
    go_ret
    exact ⟨rfl, H1.out.trans (H2.out.mono H1.out.size)⟩

set_option maxRecDepth 100000 in
theorem drilling_big (b : Bk) (A : Option Addr) (cap : Nat) (os : List (Int × Int)) (hgt : greatF fu0 b os.length = true) (w : World) (hlm : os.length ≤ maxLen) :
    Calls Try.prog 36 #[.agg (bkc b).toArray, .slice A os.length cap] w fun e w' => e = .returned (.bool false) ∧ Below w.heap.size w w' := by
  have hgr := fun W => rfGreat_any fu0 b os.length W
  rw [hgt] at hgr
  obtain ⟨w1, hw1⟩ : ∃ w1, w.alloc (.cells (bkc b).toArray 34) = w1 := ⟨_, rfl⟩
  have hb1 : Below w.heap.size w w1 := by rw [← hw1]; exact grow1 _ _
  have m1 : w1.heap[w.heap.size]? = some (.cells (bkc b).toArray 34 (0, 0)) := by rw [← hw1]; exact alloc_at0 _ _
  have hc1 := fun i => cell_of_row w1 w.heap.size i _ _ _ m1
  have H1 := Lib.hid hb1
  unfold fuc fu0 at hgr
  dsimp only [List.length_nil] at hgr
  have HGR := Lib.hid hgr
  clear hb1 m1 hgr hgt
  unfold bkc at hw1 hc1 HGR ⊢
  go_enter Try.func36, Try.ntmps36
  go_wp2_with (go_at_call 25; (with_reducible refine (HGR.out _).mono ?_); rintro e w2 ⟨rfl, hB2⟩; have H2 := Lib.hid hB2; clear hB2 hc1)
  go_ret
  exact ⟨rfl, H1.out.trans (H2.out.mono H1.out.size)⟩

end Go.Proofs.Ytjjipkgconmfcaa

namespace Go.Proofs.Ytjjipkgconmfcaa
open Go.RowKit Go.Maps
open R6 (done done_ne done_me upd_ne upd_me)

attribute [local go_sem] gives

/-- The fingering with the last holes open. -/
def mask9 (holes i : Nat) : Nat := (2 ^ i - 1) * 2 ^ (holes - i)
theorem mask9_lt {holes i : Nat} (h : i ≤ holes) : mask9 holes i < 2 ^ holes := by
  unfold mask9
  have h1 : 0 < 2 ^ (holes - i) := Nat.pow_pos (by omega)
  have h2 : 2 ^ i * 2 ^ (holes - i) = 2 ^ holes := by rw [← Nat.pow_add]; congr 1; omega
  have h3 : 0 < 2 ^ i := Nat.pow_pos (by omega)
  rw [← h2]
  exact Nat.mul_lt_mul_of_pos_right (by omega) h1
theorem mask_u8 {h i : Nat} (hh : h ≤ 8) (hi : i ≤ h) : IntKind.u8.wrap (IntKind.u8.wrap (IntKind.u8.wrap ((2 : Int) ^ i) - 1) * 2 ^ (h - i)) = ((mask9 h i : Nat) : Int) := by
  obtain ⟨m, rfl⟩ : ∃ m : Fin 9, m.val = h := ⟨⟨h, by omega⟩, rfl⟩
  obtain ⟨j, rfl⟩ : ∃ j : Fin 9, j.val = i := ⟨⟨i, by omega⟩, rfl⟩
  clear hh
  revert m j
  decide +kernel
def rgt (f : Fu) (os : List (Int × Int)) (i : Nat) : Bool := decide (plaE f (mask9 (os.length - 1) i) (os[i]?.getD (0, 0)) = 0) && decide (plaV f (mask9 (os.length - 1) i) (os[i]?.getD (0, 0)) = 2)
def rightF (f : Fu) (os : List (Int × Int)) : Bool := decide (f.hs.length + 1 = os.length) && decide (os.length ≤ 9) && (List.range os.length).all (rgt f os)

set_option maxRecDepth 100000 in
set_option maxHeartbeats 8000000 in
theorem right_any (f : Fu) (hl : f.hs.length ≤ 1000000) (A : Option Addr) (cap : Nat) (os : List (Int × Int)) (hlo : os.length ≤ 1000000) (B : Nat) (w : World) (hB : B ≤ w.heap.size) (hz : FuAt w B f) (ho : Vals w B A (pairs os)) :
    Calls Try.prog 38 #[.agg (fuc f).toArray, .slice A os.length cap] w fun e w' => e = .returned (.bool (rightF f os)) ∧ Below w.heap.size w w' := by
  obtain ⟨w1, hw1⟩ : ∃ w1, w.alloc (.cells (fuc f).toArray 28) = w1 := ⟨_, rfl⟩
  have hb1 : Below w.heap.size w w1 := by rw [← hw1]; exact grow1 _ _
  have m0 : w1.heap[w.heap.size]? = some (.cells (fuc f).toArray 28 (0, 0)) := by rw [← hw1]; exact alloc_at0 _ _
  have hz1 := hz.below (hb1.mono hB)
  have ho1 : Vals w1 B A (os.flatMap sp2) := ho.below (hb1.mono hB)
  have hB1 := Nat.le_trans hB hb1.size
  have hpl := fun o n (h256 : n < 256) W (hW : Below w1.heap.size w1 W) => plays_any f hl n h256 o B W (Nat.le_trans hB1 hW.size) (hz1.below (hW.mono hB1))
  have hcf := fun (W : World) (hW : Below w1.heap.size w1 W) i => cell_of_row W w.heap.size i _ _ _ ((hW.block _ (lt_of_heap m0)).trans m0)
  have H1 := Lib.hid hb1
  have HO := Lib.hid (And.intro ho1 hB1)
  unfold PlaPost at hpl
  have hrt : ∀ i, rgt f os i = (decide (plaE f (mask9 (os.length - 1) i) (os[i]?.getD (0, 0)) = 0) && decide (plaV f (mask9 (os.length - 1) i) (os[i]?.getD (0, 0)) = 2)) := fun _ => rfl
  have HRT := Lib.hid hrt
  clear hz ho hb1 m0 hz1 ho1 hrt
  unfold rightF
  unfold fuc at hw1 hcf hpl ⊢
  have HCF := Lib.hid hcf
  have HPL := Lib.hid hpl
  have hc1 := HCF.out w1 (Below.refl _ _)
  clear hcf hpl
  have hlz : (f.hs.length : Int) ≤ 1000000 := by omega
  have hoz : (os.length : Int) ≤ 1000000 := by omega
  by_cases h0 : f.hs.length + 1 = os.length
  rotate_left
  · have e : decide (f.hs.length + 1 = os.length) = false := decide_eq_false h0
    rw [e]
    have hne : ((f.hs.length : Int) != (os.length : Int) - 1) = true := by simp; omega
    have HE := Lib.hid h0
    clear e h0
    go_enter Try.func38, Try.ntmps38
    go_wp2
    go_ret
    exact ⟨rfl, H1.out⟩
  have hne : ((f.hs.length : Int) != (os.length : Int) - 1) = false := by simp; omega
  have hng : decide ((os.length : Int) - 1 < 0) = false := decide_eq_false (by omega)
  rw [decide_eq_true h0, Bool.true_and]
  have HE := Lib.hid h0
  clear h0
  by_cases h9 : os.length ≤ 9
  rotate_left
  · have e : decide (os.length ≤ 9) = false := decide_eq_false h9
    rw [e]
    have hgt : decide ((8 : Int) < (os.length : Int) - 1) = true := decide_eq_true (by omega)
    clear e h9
    go_enter Try.func38, Try.ntmps38
    go_wp2
    go_ret
    exact ⟨rfl, H1.out⟩
  have hgt : decide ((8 : Int) < (os.length : Int) - 1) = false := decide_eq_false (by omega)
  rw [decide_eq_true h9, Bool.true_and]
  have h9z : (os.length : Int) ≤ 9 := by omega
  obtain ⟨X, hX⟩ : ∃ X, X = (List.range os.length).all (rgt f os) := ⟨_, rfl⟩
  rw [← hX]
  have HX := Lib.hid hX
  clear hX
  go_enter Try.func38, Try.ntmps38
  go_wp2
  go_loopg [28] os.length (fun gg s28 wx => ∃ k : Nat, k + gg = os.length ∧ s28 = .int .i64 k ∧ Hid ((List.range k).all (rgt f os) = true) ∧ Hid (Below w1.heap.size w1 wx))
  case atStart => exact ⟨0, by omega, rfl, rfl, Below.refl _ _⟩
  case round =>
    obtain ⟨k, hkg, rfl, hI, hBr⟩ := hrel
    clear hc1
    cases gk with
    | zero =>
      obtain rfl : k = os.length := by omega
      go_wp2
      go_ret
      exact ⟨by rw [HX.out, hI.out]; rfl, H1.out.trans (hBr.out.mono H1.out.size)⟩
    | succ gg =>
      have hk : k < os.length := by omega
      have hkz : (k : Int) < os.length := by omega
      obtain ⟨c, off, hA, hcB, hcy⟩ := vals_elem (f := sp2) (n := 2) (fun _ => rfl) HO.out.1 (by decide) hk
      subst hA
      have hy := fun j v hv => ((hBr.out.cell (p := ⟨c, off + k * 2 + j, none⟩) (Nat.lt_of_lt_of_le hcB HO.out.2)).trans (hcy j v hv))
      have hge : os[k]?.getD (0, 0) = os[k] := by simp [hk]
      have hrk := HRT.out k
      rw [hge] at hrk
      generalize os[k] = y at hy hrk
      obtain ⟨y0, y1⟩ := y
      have HY := Lib.hid hy
      have hm8 := mask_u8 (h := os.length - 1) (i := k) (by omega) (by omega)
      have hmlt : mask9 (os.length - 1) k < 256 := Nat.lt_of_lt_of_le (mask9_lt (show k ≤ os.length - 1 by omega)) (Nat.pow_le_pow_right (n := 2) (by omega) (show os.length - 1 ≤ 8 by omega))
      have hpk := HPL.out (y0, y1) (mask9 (os.length - 1) k) hmlt
      generalize plaE f (mask9 (os.length - 1) k) (y0, y1) = pe at hrk hpk
      generalize plaV f (mask9 (os.length - 1) k) (y0, y1) = pv at hrk hpk
      generalize mask9 (os.length - 1) k = mk at hm8 hpk
      have HPK := Lib.hid hpk
      have HM8 := Lib.hid hm8
      have hsn : (List.range (k + 1)).all (rgt f os) = rgt f os k := by rw [List.range_succ, List.all_append, hI.out]; simp
      have hno : rgt f os k = false → X = false := fun h => by
        rw [HX.out, List.all_eq_false]
        exact ⟨k, List.mem_range.2 hk, by rw [h]; decide⟩
      rw [hrk] at hsn hno
      have HSN := Lib.hid (And.intro hsn hno)
      clear hsn hno hrk hmlt hpk hm8
      clear hcy hy hge
      go_wp2_with (show wpList _ _ _ (Oper.mk (some 32) _ _ _ _ _ :: _) _ _
                   refine wpList_load_at 25 (.tmp 31) rfl rfl (by simp [Act.eval]) [.int .i64 y0, .int .i64 y1] HY.out rowSpan ?_)
      obtain ⟨w5, hw5⟩ : ∃ w5, wr.alloc (.cells #[.int .i64 y0, .int .i64 y1] 25) = w5 := ⟨_, rfl⟩
      have g5 : Grows wr w5 := by rw [← hw5]; exact grow1 _ _
      have m5 : w5.heap[wr.heap.size]? = some (.cells #[.int .i64 y0, .int .i64 y1] 25 (0, 0)) := by rw [← hw5]; exact alloc_at0 _ _
      rw [hw5]
      have H5 := Lib.hid (And.intro (hBr.out.trans (g5.mono hBr.out.size)) m5)
      clear g5 m5 hw5
      have hx1 : IntKind.i64.wrap ((os.length : Int) - 1 - k) = (os.length : Int) - 1 - k := IntWalk.i64_in _ (by omega)
      refine R6.wp_walk (C := fun _ _ W => Below w5.heap.size w5 W) 53 (by kernel_rfl) (by kernel_rfl) rfl (Below.refl _ _).drew ?_
      simp only []
      iterate 9
        (refine' R6.WalkR.det (fun _ => rfl) (fun D ρ W hK hC => ?_) ?_
         rotate_left
         · have f0 := HCF.out W (H5.out.1.trans (hC.mono H5.out.1.size))
           have f1 := fun i => cell_of_row W wr.heap.size i _ _ _ ((hC.block _ (lt_of_heap H5.out.2)).trans H5.out.2)
           have HC := Lib.hid hC
           clear hC hK
           go_simp
           with_reducible exact ⟨rfl, HC.out⟩
         simp only [Act.put, List.setIfInBounds_toArray, List.set_cons_succ, List.set_cons_zero])
      refine' R6.WalkR.det (fun _ => rfl) (fun D ρ W hK hC => ?_) ?_
      rotate_left
      · have HC := Lib.hid hC
        clear hC hK
        go_simp
        go_at_call 22
        rw [HM8.out]
        (with_reducible refine (HPK.out W (H5.out.1.trans (HC.out.mono H5.out.1.size))).mono ?_)
        rintro e W1 ⟨rfl, hB1⟩
        exact ⟨_, rfl, rfl, HC.out.trans (hB1.mono HC.out.size)⟩
      simp only [Act.put, List.setIfInBounds_toArray, List.set_cons_succ, List.set_cons_zero]
      repeat
        (refine' R6.WalkR.det (fun _ => rfl) (fun D ρ W hK hC => ?_) ?_
         rotate_left
         · have HC := Lib.hid hC
           clear hC hK
           go_simp
           with_reducible exact ⟨rfl, HC.out⟩
         simp only [Act.put, List.setIfInBounds_toArray, List.set_cons_succ, List.set_cons_zero])
      refine R6.WalkR.nil (fun D ρ W hD hC => ?_)
      have H9 := Lib.hid (H5.out.1.trans (hC.mono H5.out.1.size))
      clear hC hD
      by_cases he : pe = 0
      · subst he
        by_cases hv : pv = 2
        · subst hv
          go_wp2
          go_roundg gg
          case measure => omega
          case rel => exact ⟨k + 1, by omega, by go_num, Lib.hid (by rw [HSN.out.1]; rfl), H9.out⟩
        · have hvb : (pv != 2) = true := by simp [hv]
          have HV := Lib.hid hv
          clear hv
          go_wp2
          go_ret
          exact ⟨by rw [HSN.out.2 (by simp [HV.out])]; rfl, H1.out.trans (H9.out.mono H1.out.size)⟩
      · have heb : (pe != 0) = true := by simp [he]
        have HE2 := Lib.hid he
        clear he
        go_wp2
        go_ret
        exact ⟨by rw [HSN.out.2 (by simp [HE2.out])]; rfl, H1.out.trans (H9.out.mono H1.out.size)⟩

end Go.Proofs.Ytjjipkgconmfcaa
