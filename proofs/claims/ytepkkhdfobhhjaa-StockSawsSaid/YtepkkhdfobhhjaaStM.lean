/-
  The law StockSaws.
-/
import Derived.Test.YtepkkhdfobhhjaaStL
namespace Go.Proofs.Ytepkkhdfobhhjaa
open Go.RowKit

theorem greatB_small {l : List Tk} (h : greatB l = false) : smallT l := by
  simp only [greatB, Bool.or_eq_false_iff, decide_eq_false_iff_not, List.any_eq_false, decide_eq_true_eq] at h
  exact ⟨by omega, fun x hx => by have := h.2 x hx; omega⟩
theorem smallT_of {l l2 : List Tk} (h : smallT l) (hn : l2.length = l.length) (he : l2.map tkE = l.map tkE) : smallT l2 := by
  refine ⟨by rw [hn]; exact h.1, fun x hx => ?_⟩
  have hm : tkE x ∈ l.map tkE := by rw [← he]; exact List.mem_map_of_mem hx
  obtain ⟨y, hy, hxy⟩ := List.mem_map.1 hm
  have := h.2 y hy
  simp only [tkE, Prod.mk.injEq] at hxy
  rw [← hxy.2.2]
  exact this
theorem sawS_len (E : List (Int × Int × List Int)) (saw : Int) : (sawS E saw).length ≤ 16 := by
  unfold sawS
  by_cases h : sawE E saw = 0
  · rw [if_pos h]
    unfold sawE at h
    by_cases h1 : okTks E = true
    · rw [if_pos h1] at h
      by_cases h2 : allB 0 50 [saw] = true
      · rw [if_pos h2] at h
        by_cases h3 : (sawF saw 0 E).length ≤ 16
        · exact h3
        · rw [if_neg h3] at h; cases h
      · rw [if_neg h2] at h; cases h
    · rw [if_neg h1] at h; cases h
  · rw [if_neg h]; simp

set_option maxRecDepth 100000 in
set_option maxHeartbeats 2000000 in
theorem stockSaws_law (A : Option Addr) (cap : Nat) (l : List Tk) (saw : Int) (B : Nat) (w : World) (hB : B ≤ w.heap.size) (hz : TksAt w B l A) :
    Calls Try.prog 3 #[.slice A l.length cap, .int .i64 saw] w fun e w' => e = .returned (.bool true) ∧ Below w.heap.size w w' := by
  have hg := greatTrunks_any A cap l B w hB hz
  cases hgb : greatB l
  · have hl := greatB_small hgb
    rw [hgb] at hg
    have ht := fun W (hW : Below w.heap.size w W) => twinTrunks_any A cap l B W (Nat.le_trans hB hW.size) (hz.below (hW.mono hB)) hl
    have hr := fun W (hW : Below w.heap.size w W) => refSaw_any A cap l saw B W (Nat.le_trans hB hW.size) (hz.below (hW.mono hB)) hl
    have hlen := sawS_len (l.map tkE) saw
    have HG := Lib.hid hg
    have HT := Lib.hid ht
    have HR := Lib.hid hr
    have HZ := Lib.hid hz
    have HL := Lib.hid hl
    clear hg ht hr hz hl hgb
    generalize hS : sawS (l.map tkE) saw = S at HR hlen
    generalize hE : sawE (l.map tkE) saw = er at HR
    have HSE := Lib.hid (And.intro hS hE)
    have HLEN := Lib.hid hlen
    clear hS hE hlen
    go_enter Try.func3, Try.ntmps3
    go_wp2_with (first
      | (go_at_call 16
         refine H5.out.2.2.mono ?_
         rintro e W6 ⟨rfl, hB6⟩
         have H6 := Lib.hid hB6
         clear hB6)
      | (go_at_call 15
         refine (sameSticks_any A3 A4 c3 c4 S w4.heap.size w4 (Nat.le_refl _) H4.out.2.1 H4.out.1 (by have := HLEN.out; omega)).mono ?_
         rintro e W5 ⟨rfl, hB5⟩
         have hb25 : Below w2.heap.size w2 W5 := H3.out.2.trans ((H4.out.2.2.trans (hB5.mono H4.out.2.2.size)).mono H3.out.2.size)
         have hb05 : Below w.heap.size w W5 := H2.out.2.2.2.trans (hb25.mono H2.out.2.2.2.size)
         have hst := sameTrunks_any A2 A c2 cap l2 l w2.heap.size W5 hb25.size (H2.out.2.2.1.below hb25) ((HZ.out.below (hb05.mono hB)).mono (Nat.le_trans hB H2.out.2.2.2.size)) H2.out.2.1 HL.out
         rw [H2.out.1] at hst
         have H5 := Lib.hid (And.intro hb05 (And.intro hb25 hst))
         clear hB5 hb25 hb05 hst)
      | (go_at_call 14
         refine (HR.out w3 (H2.out.2.2.2.trans (H3.out.2.mono H2.out.2.2.2.size))).mono ?_
         rintro e w4 ⟨A4, c4, rfl, hv4, hB4⟩
         have H4 := Lib.hid (And.intro hv4 (And.intro ((H3.out.1.below hB4).mono hB4.size) hB4))
         clear hv4 hB4)
      | (go_at_call 13
         refine H2S.out.mono ?_
         rintro e w3 ⟨A3, c3, rfl, hv3, hB3⟩
         have H3 := Lib.hid (And.intro hv3 hB3)
         clear hv3 hB3)
      | (go_at_call 12
         refine (HT.out _ H1.out).mono ?_
         rintro e w2 ⟨A2, c2, l2, hn2, he2, rfl, hz2, hB2⟩
         have hsw := saw_any A2 c2 l2 saw w2.heap.size w2 (Nat.le_refl _) hz2 (smallT_of HL.out hn2 he2)
         rw [hn2, he2, HSE.out.1, HSE.out.2] at hsw
         have H2S := Lib.hid hsw
         have H2 := Lib.hid (And.intro hn2 (And.intro he2 (And.intro hz2 (H1.out.trans (hB2.mono H1.out.size)))))
         clear hn2 he2 hz2 hB2 hsw)
      | (go_at_call 11
         refine HG.out.mono ?_
         rintro e w1 ⟨rfl, hB1⟩
         have H1 := Lib.hid hB1
         clear hB1))
    go_ret
    exact ⟨rfl, H5.out.1.trans (H6.out.mono H5.out.1.size)⟩
  · rw [hgb] at hg
    have HG := Lib.hid hg
    clear hg hz hgb
    go_enter Try.func3, Try.ntmps3
    go_wp2_with
      (go_at_call 11
       refine HG.out.mono ?_
       rintro e w1 ⟨rfl, hB1⟩
       have H1 := Lib.hid hB1
       clear hB1)
    go_ret
    exact ⟨rfl, H1.out⟩

end Go.Proofs.Ytepkkhdfobhhjaa
