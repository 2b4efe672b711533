/-
  The law CureTreats.
-/
import Derived.Test.YtfampdiompjmeaaCeZ
import Derived.Test.YtfampdiompjmeaaCeP
import Derived.Laws.BytesArg
namespace Go.Proofs.Ytfampdiompjmeaa
open Go.RowKit Go.Shelf

/-- A list of bytes, as a string. -/
theorem conv_u8 {W : World} {B c : Nat} {A : Option Addr} {zs : List Int} (h : OwnU W B (.slice A zs.length c) zs) : (convert 33 9 (.slice A zs.length c)).run Try.prog W = .ok (.string (strOfNums zs)) W := by
  cases zs with
  | nil =>
    rcases h.2 with ⟨e, _⟩ | ⟨g, cap, cur, hv, _⟩
    · rw [e]
      exact run_convert_bytes_nil W 33 5 Try.underlying33 Try.underlying5 0 0 9 Try.underlying9
    · rw [hv]
      exact run_convert_bytes_arg W 33 5 Try.underlying33 Try.underlying5 g 0 0 cap [] rfl (fun i hi => by omega) 9 Try.underlying9
  | cons z zs =>
    obtain ⟨b, off, rfl, hb, hc⟩ := Vals.own h (by simp [u8s])
    exact run_convert_bytes_arg W 33 5 Try.underlying33 Try.underlying5 b off _ c (z :: zs) rfl (fun i hi => hc i _ (by
      rw [u8s, List.getElem?_map, List.getElem?_eq_getElem hi]
      simp [List.getD, List.getElem?_eq_getElem hi])) 9 Try.underlying9

set_option maxRecDepth 100000 in
set_option maxHeartbeats 8000000 in
theorem cureTreats_law (t : Bt) (A : Option Addr) (cap : Nat) (l : List Sl) (h : Int) (w : World) (hz : Rows w w.heap.size A l) (hll : l.length ≤ 9223372036854775807) (hl : ∀ s ∈ l, s.zs.length ≤ 9223372036854775807) :
    Calls Try.prog 5 #[.agg (btcells t (.slice A l.length cap)), .int .i64 h] w fun e w' => e = .returned (.bool true) ∧ Below w.heap.size w w' := by
  have hgr := fun W (hW : Below w.heap.size w W) => great_any t A cap l w.heap.size W hW.size (hz.below hW) hll
  obtain ⟨w1, hw1⟩ : ∃ w1, w.alloc (.cells (btcells t (.slice A l.length cap)) 28) = w1 := ⟨_, rfl⟩
  have hb1 : Below w.heap.size w w1 := by rw [← hw1]; exact grow1 _ _
  have hs1 : w1.heap.size = w.heap.size + 1 := by rw [← hw1]; simp
  have hm1 : w1.heap[w.heap.size]? = some (.cells (btcells t (.slice A l.length cap)) 28 (0, 0)) := by rw [← hw1]; exact alloc_at0 _ _
  have hc1 := fun i => cell_of_row w1 w.heap.size i _ _ _ hm1
  have H1 := Lib.hid (And.intro hb1 (And.intro hm1 hs1))
  clear hb1 hs1 hm1
  cases hg : greatB l with
  | true =>
    rw [hg] at hgr
    have HGR := Lib.hid hgr
    clear hgr hg hz hl hll
    unfold btcells at hw1 hc1 HGR ⊢
    go_enter Try.func5, Try.ntmps5
    go_wp2_with (go_at_call 24; refine (HGR.out w1 H1.out.1).mono ?_; rintro e w2 ⟨rfl, hB2⟩; have H2 := Lib.hid (H1.out.1.trans (hB2.mono H1.out.1.size)); clear hB2)
    go_ret
    exact ⟨rfl, H2.out⟩
  | false =>
    rw [hg] at hgr
    have hsm := great_small hg
    have htw := fun W (hW : Below w.heap.size w W) => twin_any t A cap l w.heap.size W hW.size (hz.below hW) hsm
    unfold TwinPost at htw
    have htr := fun Ao co lo n W (hn : n ≤ W.heap.size) (hR : Rows W n Ao lo) (he : rws lo = rws l) => by
      have := cureTreated_any t Ao co lo h n W hn hR (small_short (small_of hsm he))
      rw [he] at this
      exact this
    have hrt := fun W (hW : Below w.heap.size w W) => refTreated_any t A cap l h w.heap.size W hW.size (hz.below hW) hl
    have hrd := fun Ao co lo n W (hn : n ≤ W.heap.size) (hR : Rows W n Ao lo) (he : rws lo = rws l) => by
      have := cureReady_any t Ao co lo n W hn hR (small_short (small_of hsm he))
      rw [he] at this
      exact this
    have hrr := fun W (hW : Below w.heap.size w W) => refReady_any t A cap l w.heap.size W hW.size (hz.below hW) hl
    have hsa := fun Ao co lo n W (hn : n ≤ W.heap.size) (hR : Rows W n Ao lo) (he : rws lo = rws l) (hb : w.heap.size ≤ n) (hW : Below w.heap.size w W) => same_any t Ao A co cap lo l n W hn hR ((hz.below hW).mono hb) he (small_of hsm he)
    unfold TrePost at htr hrt
    unfold RedPost at hrd hrr
    generalize treatL t (rws l) h = TL at htr hrt
    generalize treatE t (rws l) h = TE at htr hrt
    generalize readyV t (rws l) = RV at hrd hrr
    generalize readyE t (rws l) = RE at hrd hrr
    have HF := Lib.hid (And.intro hgr (And.intro htw (And.intro htr (And.intro hrt (And.intro hrd (And.intro hrr hsa))))))
    clear hgr htw htr hrt hrd hrr hsa hsm hg hz hl hll
    obtain ⟨TS, hTS⟩ : ∃ TS, TS = strOfNums TL := ⟨_, rfl⟩
    have HTS := Lib.hid hTS
    clear hTS
    unfold btcells at hw1 hc1 HF ⊢
    go_enter Try.func5, Try.ntmps5
    go_wp2_with (first
      | (go_at_call 24; refine (HF.out.1 w1 H1.out.1).mono ?_; rintro e w2 ⟨rfl, hB2⟩
         have hm2 := (hB2.block _ (by have := H1.out.2.2; omega)).trans H1.out.2.1
         have hc2 := fun i => cell_of_row w2 w.heap.size i _ _ _ hm2
         unfold btcells at hc2
         have H2 := Lib.hid (And.intro (H1.out.1.trans (hB2.mono H1.out.1.size)) (And.intro hm2 (show w.heap.size + 1 ≤ w2.heap.size by have := hB2.size; have := H1.out.2.2; omega)))
         clear hB2 hm2 hc1)
      | (go_at_call 25; refine (HF.out.2.1 w2 H2.out.1).mono ?_; rintro e w3 ⟨Ao, co, lo, rfl, he, hO, hB3⟩
         have H3 := Lib.hid (And.intro he (And.intro hO hB3))
         have hs3 := hB3.size
         clear he hO hB3)
      | (show wpList _ _ _ (Oper.mk none (Op.store _ (Operand.tmp 5) (Operand.tmp 17)) _ _ _ _ :: _) _ _
         refine wpList_store_blk 28 (.tmp 5) (.tmp 17) (cs := btl t (.slice Ao lo.length co)) (L := [.int .i64 0, .int .i64 0, .slice none 0 0, .int .i64 0, .int .i64 0, .int .i64 0]) rfl rfl rfl rfl rfl (alloc_at0 w3 _) (by simp [btl]) (btl_one _ _ _ _) rowApiBatch ?_
         intro w4 hP4 hM4
         rw [splice_whole (by simp [btl])] at hM4
         have hb34 : Below w3.heap.size w3 w4 := (grow1 w3 _).trans (hP4.below (Nat.le_refl _))
         have hs4 : w4.heap.size = w3.heap.size + 1 := by rw [hP4.size]; simp
         have hlaw : LawC w t A cap l Ao co lo w3.heap.size w4.heap.size w4 :=
           ⟨H2.out.1.trans ((H3.out.2.2.mono H2.out.1.size).trans (hb34.mono (Nat.le_trans H2.out.1.size hs3))), Nat.le_refl _, (hb34.block _ (by have := H2.out.2.2; omega)).trans ((H3.out.2.2.block _ (by have := H2.out.2.2; omega)).trans H2.out.2.1), hM4, by have := H2.out.2.2; omega, (H3.out.2.1.grows hb34).rows⟩
         have hc4 := fun i => cell_of_row w4 w3.heap.size i _ _ _ hM4
         unfold btl at hc4
         have H4 := Lib.hid hlaw
         clear hP4 hM4 hb34 hs4 hlaw hs3 hc2)
      | (go_at_call 18; refine (HF.out.2.2.1 Ao co lo w4.heap.size w4 (Nat.le_refl _) H4.out.own H3.out.1).mono ?_; rintro e w5 ⟨A5, c5, rfl, hO5, hB5⟩
         have hl5 := H4.out.next hB5
         have hc5 := fun i => cell_of_row w5 w.heap.size i _ _ _ hl5.b3
         unfold btcells at hc5
         have H5 := Lib.hid (And.intro hl5 hO5)
         clear hl5 hO5 hB5 hc4)
      | (go_at_call 30; refine (HF.out.2.2.2.1 w5 H5.out.1.bel).mono ?_; rintro e w6 ⟨A6, c6, rfl, hO6, hB6⟩
         have hl6 := H5.out.1.grow hB6
         have hc6 := fun i => cell_of_row w6 w3.heap.size i _ _ _ hl6.b7
         unfold btcells at hc6
         have H6 := Lib.hid (And.intro hl6 (And.intro (H5.out.2.grows hB6) hO6))
         clear hl6 hO6 hB6 hc5)
      | (go_at_call 19; refine (HF.out.2.2.2.2.1 Ao co lo w4.heap.size w6 H6.out.1.lb H6.out.1.own H3.out.1).mono ?_; rintro e w7 ⟨rfl, hB7⟩
         have hl7 := H6.out.1.grow hB7
         have hc7 := fun i => cell_of_row w7 w.heap.size i _ _ _ hl7.b3
         unfold btcells at hc7
         have H7 := Lib.hid (And.intro hl7 (And.intro (H6.out.2.1.grows hB7) (H6.out.2.2.grows hB7)))
         clear hl7 hB7 hc6)
      | (go_at_call 31; refine (HF.out.2.2.2.2.2.1 w7 H7.out.1.bel).mono ?_; rintro e w8 ⟨rfl, hB8⟩
         have hl8 := H7.out.1.grow hB8
         have hc8 := fun i => cell_of_row w8 w.heap.size i _ _ _ hl8.b3
         have hd8 := fun i => cell_of_row w8 w3.heap.size i _ _ _ hl8.b7
         unfold btcells at hc8 hd8
         have hv5 := conv_u8 (H7.out.2.1.grows hB8)
         have hv6 := conv_u8 (H7.out.2.2.grows hB8)
         rw [← HTS.out] at hv5 hv6
         have H8 := Lib.hid hl8
         clear hl8 hB8 hc7)
      | (go_at_call 29
         refine (HF.out.2.2.2.2.2.2 Ao co lo w4.heap.size w8 H8.out.lb H8.out.own H3.out.1 (by have := H8.out.lt; omega) H8.out.bel).mono ?_
         rintro e w9 ⟨rfl, hB9⟩
         have H9 := Lib.hid (H8.out.grow hB9).bel
         clear hB9 hc8 hd8))
    go_ret
    exact ⟨rfl, H9.out⟩

end Go.Proofs.Ytfampdiompjmeaa
