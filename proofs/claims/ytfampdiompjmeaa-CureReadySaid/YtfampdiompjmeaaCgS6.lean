/-
  The law CureReady, where Ready tells none.
-/
import Derived.Test.YtfampdiompjmeaaCgT
namespace Go.Proofs.Ytfampdiompjmeaa
open Go.RowKit Go.Shelf
open R6 (done done_ne done_me upd_ne upd_me)

attribute [local go_sem] gives

set_option maxRecDepth 100000 in
set_option maxHeartbeats 16000000 in
theorem cureReady_6 (t : Bt) (A : Option Addr) (cap : Nat) (l : List Sl) (sn : Int)  (w : World) (hz : Rows w w.heap.size A l) (hok : okBatch t (rws l) = true) (hR : RdyIs t (rws l) 300) (hEv : readyE t (rws l) = 6) (s0 : 0 ≤ sn) (s1 : sn < 256) :
    Calls Try.prog 9 #[.agg (btcells t (.slice A l.length cap)), .int .u8 sn] w fun e w' => e = .returned (.bool true) ∧ Below w.heap.size w w' := by
  have hsh := okBatch_shortL hok
  obtain ⟨hgd, g1, g2, g3, g4, g5, g6⟩ := okBatch_good hok
  have hrl : (rws l).length = l.length := by simp [rws]
  have hl1 : 1 ≤ l.length := by rw [← hrl]; exact g4
  have hl4 : l.length ≤ 4 := by have := hgd.n4; simpa [rws] using this
  have hrd := fun W (hW : Below w.heap.size w W) => ready4_any t A cap l w.heap.size W hW.size (hz.below hW) (by omega) (fun q hq => by have := hsh.2 q hq; omega)
  rw [hok] at hrd
  have hpu := pickL_bnd (n := sn) g2
  have hpi := fun W => pick_any t.lo t.hi sn (by omega) g2 (by omega) s0 (by omega) W
  have hre := fun W (hW : Below w.heap.size w W) => cureReady_any t A cap l w.heap.size W hW.size (hz.below hW) hsh
  unfold RedPost at hre
  rw [hEv, (hR.v0 hEv).1] at hre
  have htw := fun W (hW : Below w.heap.size w W) => twin_any t A cap l w.heap.size W hW.size (hz.below hW) (small_good hgd rfl)
  unfold TwinPost at htw
  have hL3 : 300 ≤ 300 := hR.le
  have ht1 := fun W (hW : Below w.heap.size w W) => trV_of (cap := cap) hW.size (hz.below hW) hok (by omega : 300 ≤ 300)
  obtain ⟨i0, hi, hz0, hz1, hz2⟩ := info_parts infoBool
  have hmk := fun W => run_make_bool (P := Try.prog) 76 4 i0 Try.underlying76 hi hz0 hz1 hz2 l.length (by omega) W
  generalize pickL t.lo t.hi sn = s at hpu hpi
  have hSg : ∀ k, GoodS t.water (runS t.water s (t.borax, rws l) k) := fun k => runS_good (by omega) (by omega) hgd k
  have hru := fun (k : Nat) (A' : Option Addr) (c' : Nat) (ls : List Sl) W hr hR' hk => runK_any (t := t) (l := l) (ls := ls) (s := s) (k := k) (A := A') (c := c') (W := W) (hSg k) hr hR' hpu.1 hpu.2 hk
  have hba := fun (k : Nat) (A' : Option Addr) (c' : Nat) (ls : List Sl) W (hr : rws ls = (runS t.water s (t.borax, rws l) k).2) (hn : ls.length = l.length) (hR' : Rows W W.heap.size A' ls) => by
    have := refBatch_any (btB t (runS t.water s (t.borax, rws l) k).1) A' c' ls W.heap.size W (Nat.le_refl _) hR' (fun q hq => by have := (small_good (hSg k) hr).2 q hq; omega)
    rw [hr, hn] at this
    exact this
  have hnew : ∀ (k : Nat) (ls : List Sl), rws ls = (runS t.water s (t.borax, rws l) k).2 → ls.length = l.length ∧ ∀ j (hj : j < l.length) (hj' : j < ls.length), ls[j].zs.length = l[j].zs.length := fun k ls e => by
    have e1 : lens (rws ls) = lens (rws l) := by rw [e]; exact lens_run _ _ _ _
    have e2 := lens_len e1
    refine ⟨by simpa [rws] using e2, fun j hj hj' => ?_⟩
    have := lens_at e1 j
    simpa [rowAt, rws, hj, hj'] using this
  have hg0 : ∀ q k, hitB t.water s t.need (t.borax, rws l) q k = decide (t.need ≤ coreOf (runS t.water s (t.borax, rws l) k) q) := fun q k => rfl
  have hsu : sureU (knownL t (rws l) 300) l.length = false := by
    obtain ⟨p, hp, he⟩ := hR.open_ hEv
    rw [← hrl, ← knownL_len t (rws l) 300]
    exact sureU_no (by rw [knownL_len]; exact hp) he
  unfold TrV at ht1
  have hk1 : (knownL t (rws l) 300).length = l.length := by rw [knownL_len, hrl]
  generalize hitB t.water s t.need (t.borax, rws l) = g at *
  obtain ⟨S, hS⟩ : ∃ S : Nat → St, S = runS t.water s (t.borax, rws l) := ⟨_, rfl⟩
  have hS0 : (S 0).1 = t.borax ∧ (S 0).2 = rws l := by rw [hS]; exact ⟨rfl, rfl⟩
  rw [← hS] at hSg hru hba hnew hg0
  generalize knownL t (rws l) 300 = L1 at ht1 hsu hk1
  have hx1 : IntKind.u32.wrap sn = sn := IntWalk.u32_in _ (by omega)
  have h0 := boxD w (btcells t (.slice A l.length cap)) 28
  have HF := Lib.hid (And.intro hrd (And.intro hpi (And.intro hre (And.intro htw (And.intro ht1 trivial)))))
  have HS := Lib.hid (And.intro hSg (And.intro hru (And.intro hba (And.intro hnew (And.intro hg0 hS0)))))
  have HL := Lib.hid (And.intro hsu (And.intro hk1 trivial))
  have HMK := Lib.hid hmk
  have HRL := Lib.hid hrl
  have H0 := Lib.hid h0
  have HZ := Lib.hid hz
  clear hrd hpi hre htw ht1 hSg hru hba hnew hg0 hS0 hsu hk1 hmk hrl h0 hz hok hR hEv hsh hgd g1 g2 g3 g4 g5 g6 hpu hS i0 hi hz0 hz1 hz2
  unfold btcells at H0 HF HS ⊢
  go_enter Try.func9, Try.ntmps9
  go_wp2_with (first
    | (show wpList _ _ _ (Oper.mk none (Op.store _ (Operand.tmp 11) (Operand.tmp 66)) _ _ _ _ :: _) _ _
       refine wpList_store_blk 28 (.tmp 11) (.tmp 66) (cs := btl t (.slice A7 l.length c7)) (L := zero6) rfl rfl rfl rfl rfl (alloc_at0 _ _) (by simp [btl, zero6]) (btl_one _ _ _ _) rowApiBatch ?_
       intro w8 hP8 hM8
       rw [splice_whole (by simp [btl, zero6])] at hM8
       have hg8 : Grows w7 w8 := (grow1 w7 _).trans (hP8.below (Nat.le_refl _))
       have H8 := Lib.hid (And.intro hg8 hM8)
       clear hP8 hM8 hg8)
    | (go_at_call 25
       refine (HF.out.2.2.2.1 w6 H6.out.1.bel).mono ?_
       rintro e w7 ⟨A7, c7, l7, rfl, hr7, hO7, hB7⟩
       have hn7 : l7.length = l.length := by rw [rws_len hr7]; exact HRL.out
       rw [hn7]
       have hsz := H6.out.2.2.2
       have hb7 := (hB7.block w5.heap.size (by omega)).trans H6.out.2.2.1
       have hg7 : Grows w5 w7 := H6.out.2.1.trans (hB7.mono (by omega))
       have hN7 := hO7.rowsN (g := w5.heap.size) (by omega)
       have H7 := Lib.hid (And.intro hr7 (And.intro hn7 (And.intro hb7 (And.intro hg7 (And.intro hN7 (by have := hB7.size; omega : w5.heap.size + 1 ≤ w7.heap.size))))))
       clear hr7 hn7 hO7 hB7 hb7 hg7 hN7 hsz hc5 hm5 hc6)
    | (go_at_call 37; refine (HF.out.2.1 w4).mono ?_; rintro e w5 ⟨rfl, hB5⟩
       have h5 := H4.out.any (D' := fun _ => false) (σ' := fun _ => undef) hB5
       have hc5 := fun i => cell_of_row w5 w.heap.size i _ _ _ h5.box
       have hm5 := HMK.out w5
       obtain ⟨w6, hw6⟩ : ∃ w6, w5.alloc (.cells (bls (List.replicate l.length false)).toArray 4) = w6 := ⟨_, rfl⟩
       rw [hw6] at hm5
       have hb6 : Below w5.heap.size w5 w6 := by rw [← hw6]; exact grow1 _ _
       have hr6 : w6.heap[w5.heap.size]? = some (.cells (bls (List.replicate l.length false)).toArray 4 (0, 0)) := by rw [← hw6]; exact alloc_at0 _ _
       have hs6 : w6.heap.size = w5.heap.size + 1 := by rw [← hw6]; simp
       have h6 := h5.any (D' := fun _ => false) (σ' := fun _ => undef) hb6
       have hc6 := fun i => cell_of_row w6 w.heap.size i _ _ _ h6.box
       have H5 := Lib.hid h5
       have H6 := Lib.hid (And.intro h6 (And.intro hb6 (And.intro hr6 hs6)))
       clear hB5 h5 hc4 hw6 hb6 hr6 hs6 h6)
    | (go_at_call 19; refine (HF.out.2.2.1 w3 H3.out.bel).mono ?_; rintro e w4 ⟨rfl, hB4⟩
       have h4 := H3.out.any (D' := fun _ => false) (σ' := fun _ => undef) hB4
       have hc4 := fun i => cell_of_row w4 w.heap.size i _ _ _ h4.box
       have H4 := Lib.hid h4; clear hB4 h4 hc3)
    | (go_at_call 36; refine (HF.out.1 w2 H2.out.bel).mono ?_; rintro e w3 ⟨rfl, hB3⟩
       have h3 := H2.out.any (D' := fun _ => false) (σ' := fun _ => undef) hB3
       have hc3 := fun i => cell_of_row w3 w.heap.size i _ _ _ h3.box
       have H3 := Lib.hid h3; clear hB3 h3 hc2)
    | (go_at_call 14; refine (alive_any _).mono ?_; rintro e w2 ⟨rfl, hB2⟩
       have h2 := H0.out.any (D' := fun _ => false) (σ' := fun _ => undef) hB2
       have hc2 := fun i => cell_of_row w2 w.heap.size i _ _ _ h2.box
       have H2 := Lib.hid h2; clear hB2 h2))
  obtain ⟨rb, hrb⟩ : ∃ rb, rb = w5.heap.size := ⟨_, rfl⟩
  obtain ⟨nb, hnb⟩ : ∃ nb, nb = w7.heap.size := ⟨_, rfl⟩
  simp only [← hrb, ← hnb]
  have h8 : RyW w #[.int .i64 t.water, .int .i64 t.borax, .slice A l.length cap, .int .i64 t.lo, .int .i64 t.hi, .int .i64 t.need] l.length rb nb (rL g l.length 0 0) (btl (btB t (S 0).1) (.slice A7 l.length c7)) w8 := by
    have b8 := H5.out.any (D' := fun _ => false) (σ' := fun _ => undef) (H7.out.2.2.2.1.trans (H8.out.1.mono H7.out.2.2.2.1.size))
    have hlb := lt_of_heap H5.out.box
    have hsz := H7.out.2.2.2.2.2
    refine ⟨b8.bel, b8.box, ?_, ?_, by omega, by omega, by omega, rL_len ..⟩
    · rw [rL_start, hrb]; exact (H8.out.1.block _ (by omega)).trans H7.out.2.2.1
    · rw [HS.out.2.2.2.2.2.1, hnb]; exact H8.out.2
  have hN8 : RowsN w8 rb A7 l7 := by rw [hrb]; exact H7.out.2.2.2.2.1.below H8.out.1
  have H9 := Lib.hid (And.intro h8 (And.intro hN8 (And.intro (H7.out.1.trans HS.out.2.2.2.2.2.2.symm) H7.out.2.1)))
  have HRB := Lib.hid (And.intro hrb (And.intro hnb trivial))
  clear h8 hN8 hrb hnb
  go_loopg [12] (300 + 1) (fun gg s12 wx => ∃ (k : Nat) (A' : Option Addr) (c' : Nat) (ls : List Sl), k + gg = 300 + 1 ∧ s12 = .int .i64 k ∧ Hid (ls.length = l.length) ∧ Hid (rws ls = (S k).2) ∧ Hid (RyW w #[.int .i64 t.water, .int .i64 t.borax, .slice A l.length cap, .int .i64 t.lo, .int .i64 t.hi, .int .i64 t.need] l.length rb nb (rL g l.length k 0) (btl (btB t (S k).1) (.slice A' l.length c')) wx) ∧ Hid (RowsN wx rb A' ls))
  case atStart => exact ⟨0, A7, c7, l7, by omega, rfl, H9.out.2.2.2, H9.out.2.2.1, H9.out.1, H9.out.2.1⟩
  case round =>
    obtain ⟨k, A', c', ls, hkg, rfl, hln, hr, hT, hN⟩ := hrel
    cases gk with
    | zero =>
      have hkn : ¬ (k : Int) ≤ 300 := by omega
      have hcb := fun i => cell_of_row wr w.heap.size i _ _ _ hT.out.b0
      go_wp2_with (first
        | (go_at_call 18
           refine (HF.out.2.2.2.2.1 wr hT.out.bel).mono ?_
           rintro e w3 ⟨A3, c3, rfl, hV3, hB3⟩
           have h3 := hT.out.next hB3
           have hc3 := fun i => cell_of_row w3 w.heap.size i _ _ _ h3.b0
           have H3 := Lib.hid (And.intro h3 hV3)
           clear h3 hV3 hB3 hcb))
      obtain ⟨b3, o3, hA3, hb3, hcl⟩ := H3.out.2 (by rw [u8s_len, HL.out.2.1]; omega)
      subst hA3
      have HB3 := Lib.hid (And.intro hb3 hcl)
      clear hb3 hcl
      obtain ⟨wo, rfl⟩ : ∃ wo : World, wo = wr := ⟨_, rfl⟩
      go_loopg [22, 179] l.length (fun gj s22 s179 wx => ∃ j : Nat, j + gj = l.length ∧ s22 = .bool (sureU L1 j) ∧ s179 = .int .i64 j ∧ wx = w3)
      case atStart => exact ⟨0, by omega, rfl, rfl, rfl⟩
      case round =>
        obtain ⟨j, hjg, rfl, rfl, rfl⟩ := hrel
        cases gk with
        | zero =>
          have hjn : ¬ (j : Int) < l.length := by omega
          have hje : j = l.length := by omega
          have hsj : sureU L1 j = false := by rw [hje]; exact HL.out.1
          generalize sureU L1 j = sv at hsj ⊢
          subst hsj
          clear hje
          go_wp2
          go_ret
          exact ⟨rfl, H3.out.1.bel⟩
        | succ gj =>
          have hj : j < l.length := by omega
          have hjz : (j : Int) < l.length := by omega
          have hj0 : (0 : Int) ≤ j := by omega
          have hx := HB3.out.2 j _ (u8s_get (by rw [HL.out.2.1]; exact hj))
          have hs := sureU_succ (L := L1) (j := j) (by rw [HL.out.2.1]; exact hj)
          generalize L1[j]?.getD 0 = x at hx hs
          generalize sureU L1 j = sv at hs ⊢
          cases hx2 : (x == 2) <;> cases sv <;> rw [hx2] at hs
          all_goals
            have hx3 : decide (x = 2) = (x == 2) := rfl
            rw [hx2] at hx3
            simp only [Bool.and_self, Bool.and_true, Bool.and_false] at hs
            have HSJ := Lib.hid hs
            clear hs
            go_wp2
            go_roundg gj
            case measure => omega
            case rel => exact ⟨j + 1, by omega, by rw [HSJ.out], by go_num, rfl⟩
    | succ gg =>
      have hkz : (k : Int) ≤ 300 := by omega
      have hcn := fun i => cell_of_row wr nb i _ _ _ hT.out.x
      unfold btl btB at hcn
      simp only at hcn
      obtain ⟨ab, off, hA', hab, habn, hca⟩ := hN.out.va (by rw [slvs_len, hln.out]; omega)
      subst hA'
      have HCA := Lib.hid (And.intro hab hca)
      clear hab habn hca
      go_wp2
      clear hcn
      obtain ⟨wo, rfl⟩ : ∃ wo : World, wo = wr := ⟨_, rfl⟩
      go_loopg [13, 75] l.length (fun gi s13 s75 wx => ∃ i : Nat, i + gi = l.length ∧ s13 = .bool (allU g k i) ∧ s75 = .int .i64 i ∧ Hid (RyW w #[.int .i64 t.water, .int .i64 t.borax, .slice A l.length cap, .int .i64 t.lo, .int .i64 t.hi, .int .i64 t.need] l.length rb nb (rL g l.length k i) (btl (btB t (S k).1) (.slice (some ⟨ab, off, none⟩) l.length c')) wx) ∧ Hid (RowsN wx rb (some ⟨ab, off, none⟩) ls))
      case atStart => exact ⟨0, by omega, rfl, rfl, hT.out, hN.out⟩
      case round =>
        obtain ⟨i, hig, rfl, rfl, hTi, hNi⟩ := hrel
        cases gk with
        | zero =>
          have hin : ¬ (i : Int) < l.length := by omega
          have hie : i = l.length := by omega
          have hTe := hTi.out
          rw [hie, rL_next] at hTe
          have HT := Lib.hid hTe
          have HIE := Lib.hid hie
          clear hTe hie
          have hcb := fun i => cell_of_row wr w.heap.size i _ _ _ HT.out.b0
          have hcn := fun i => cell_of_row wr nb i _ _ _ HT.out.x
          unfold btl btB at hcn
          simp only at hcn
          cases hok : okBatch (btB t (S k).1) (S k).2 with
          | false =>
            have HOK := Lib.hid hok
            clear hok
            by_cases hkl : k = 300
            · subst hkl
              go_wp2_with (first
                | (go_at_call 40
                   refine (HS.out.2.2.1 300 _ c' ls w3 hr.out hln.out H3.out.2.rows).mono ?_
                   rintro e w4 ⟨rfl, hB4⟩
                   rw [HOK.out]
                   have H4 := Lib.hid (H3.out.1.next hB4)
                   clear hB4 hn3)
                | (go_at_call 17
                   refine (runZ_any (b := (S 300).1) (s := s) (c := c') hNi.out.rows hln.out (small_good (HS.out.1 300) hr.out)).mono ?_
                   rintro e w3 ⟨A8, c8, n8, b8, e8, rfl, hB8⟩
                   have h3 := HT.out.next hB8
                   have hn3 := fun i => cell_of_row w3 nb i _ _ _ h3.x
                   unfold btl btB at hn3
                   simp only at hn3
                   have H3 := Lib.hid (And.intro h3 (hNi.out.below hB8))
                   clear hB8 h3 hcb hcn))
              go_ret
              exact ⟨rfl, H4.out.bel⟩
            · have hkl2 : ¬ (k : Int) = 300 := by omega
              clear hkl
              go_wp2_with (first
                | (go_at_call 40
                   refine (HS.out.2.2.1 k _ c' ls w3 hr.out hln.out H3.out.2.rows).mono ?_
                   rintro e w4 ⟨rfl, hB4⟩
                   rw [HOK.out]
                   have H4 := Lib.hid (H3.out.1.next hB4)
                   clear hB4 hn3)
                | (go_at_call 17
                   refine (runZ_any (b := (S k).1) (s := s) (c := c') hNi.out.rows hln.out (small_good (HS.out.1 k) hr.out)).mono ?_
                   rintro e w3 ⟨A8, c8, n8, b8, e8, rfl, hB8⟩
                   have h3 := HT.out.next hB8
                   have hn3 := fun i => cell_of_row w3 nb i _ _ _ h3.x
                   unfold btl btB at hn3
                   simp only at hn3
                   have H3 := Lib.hid (And.intro h3 (hNi.out.below hB8))
                   clear hB8 h3 hcb hcn))
              go_ret
              exact ⟨rfl, H4.out.bel⟩
          | true =>
            have HOK := Lib.hid hok
            clear hok
            by_cases hkl : k = 300
            · subst hkl
              go_wp2_with (first
                | (go_at_call 40
                   refine (HS.out.2.2.1 300 _ c' ls w3 hr.out hln.out H3.out.2.2.2.2.rows).mono ?_
                   rintro e w4 ⟨rfl, hB4⟩
                   rw [HOK.out]
                   have h4 := H3.out.1.next hB4
                   have hc4 := fun i => cell_of_row w4 w.heap.size i _ _ _ h4.b0
                   have H4 := Lib.hid (And.intro h4 (And.intro (H3.out.2.2.2.1.grows hB4) (hB4)))
                   clear hB4 h4 hc3 hn3)
                | (go_at_call 17
                   refine (HS.out.2.1 300 _ c' ls wr hr.out hNi.out.rows HOK.out).mono ?_
                   rintro e w3 ⟨A8, c8, l8, rfl, hn8, hr8, hO8, hB8⟩
                   have h3 := HT.out.next hB8
                   have hc3 := fun i => cell_of_row w3 w.heap.size i _ _ _ h3.b0
                   have hn3 := fun i => cell_of_row w3 nb i _ _ _ h3.x
                   unfold btl btB at hn3
                   simp only at hn3
                   have H3 := Lib.hid (And.intro h3 (And.intro hn8 (And.intro hr8 (And.intro hO8 (hNi.out.below hB8)))))
                   clear hn8 hr8 hO8 hB8 h3 hcb hcn))
              go_loopg [140] l.length (fun g3 s140 wx => ∃ j : Nat, j + g3 = l.length ∧ s140 = .int .i64 j ∧ Hid (Grows w4 wx))
              case atStart => exact ⟨0, by omega, rfl, Below.refl _ _⟩
              case round =>
                obtain ⟨j, hjg, rfl, hG⟩ := hrel
                clear hc4
                cases gk with
                | zero =>
                  have hjn : ¬ (j : Int) < l.length := by omega
                  have h5 := H4.out.1.next hG.out
                  have hO5 := H4.out.2.1.grows hG.out
                  have hR5 := hO5.rows
                  have hsm := small_good (HS.out.1 (300 + 1)) H3.out.2.2.1
                  have htc := twinCells_any A8 c8 l8 wr.heap.size wr (Nat.le_refl _) hR5 hsm
                  unfold CellsPost at htc
                  rw [H3.out.2.1] at htc
                  have H5 := Lib.hid (And.intro h5 htc)
                  clear h5 hO5 hR5 hsm htc
                  go_wp2_with (first
                    | (show wpList _ _ _ (Oper.mk none (Op.store _ (Operand.tmp 160) (Operand.tmp 158)) _ _ _ _ :: _) _ _
                       refine wpList_store_val 24 (.tmp 160) (.tmp 158) rfl rfl rfl rfl rfl rfl rfl (L := btl (btB t (S (300 + 1)).1) (.slice (some ⟨ab, off, none⟩) l.length c')) H7.out.1.x (by simp [btl]) sizeSl1 ?_
                       intro w8 hP8 hM8
                       have h8 := H7.out.1.putX (X' := btl (btB t (S (300 + 1)).1) (.slice A9 l.length c9)) hP8 hM8
                       have hO8 := H7.out.2.low hP8 (by have := lt_of_heap H5.out.1.x; omega)
                       have hN8 := hO8.rowsN (g := rb) (by have := lt_of_heap H5.out.1.r; omega)
                       have H8 := Lib.hid (And.intro h8 hN8)
                       clear hP8 hM8 h8 hO8 hN8)
                    | (show wpList _ _ _ (Oper.mk none (Op.store _ (Operand.tmp 159) (Operand.tmp 156)) _ _ _ _ :: _) _ _
                       refine wpList_store_val 3 (.tmp 159) (.tmp 156) rfl rfl rfl rfl rfl rfl rfl (L := btl (btB t (S 300).1) (.slice (some ⟨ab, off, none⟩) l.length c')) H6.out.2.2.2.x (by simp [btl]) sizeInt1 ?_
                       intro w7 hP7 hM7
                       have h7 := H6.out.2.2.2.putX (X' := btl (btB t (S (300 + 1)).1) (.slice (some ⟨ab, off, none⟩) l.length c')) hP7 hM7
                       have hO7 := H6.out.2.2.1.low hP7 (by have := lt_of_heap H5.out.1.x; omega)
                       have H7 := Lib.hid (And.intro h7 hO7)
                       clear hP7 hM7 h7 hO7)
                    | (go_at_call 39
                       refine H5.out.2.mono ?_
                       rintro e w6 ⟨A9, c9, l9, rfl, hr9, hO9, hB9⟩
                       have hr10 := hr9.trans H3.out.2.2.1
                       have hn9 := (HS.out.2.2.2.1 (300 + 1) l9 hr10).1
                       rw [hn9]
                       have H6 := Lib.hid (And.intro hr10 (And.intro hn9 (And.intro hO9 (H5.out.1.next hB9))))
                       clear hr9 hr10 hn9 hO9 hB9))
                  go_roundg gg
                  case measure => omega
                  case rel => exact ⟨300 + 1, A9, c9, l9, by omega, by go_num, H6.out.2.1, H6.out.1, H8.out.1, H8.out.2⟩
                | succ g3 =>
                  have hj : j < l.length := by omega
                  have hjz : (j : Int) < l.length := by omega
                  have hj0 : (0 : Int) ≤ j := by omega
                  have hj' : j < l8.length := by rw [H3.out.2.1]; exact hj
                  have hlk := (HS.out.2.2.2.1 (300 + 1) l8 H3.out.2.2.1).2 j hj hj'
                  obtain ⟨zb, zo, hzA, hzB, hzc⟩ := HZ.out.va (by rw [slvs_len]; omega)
                  subst hzA
                  have hy := hzc j _ (slvs_at l j hj)
                  obtain ⟨cb, of2, hA2, hcB2, hc2⟩ := H4.out.2.1.rows.va (by rw [slvs_len]; omega)
                  subst hA2
                  have hy2 := hc2 j _ (slvs_at l8 j hj')
                  generalize l[j] = y at hy hlk
                  generalize l8[j] = y2 at hy2 hlk
                  obtain ⟨yA, yc, ys⟩ := y
                  obtain ⟨zA, zc, zs⟩ := y2
                  unfold slv at hy hy2
                  simp only at hy hy2 hlk
                  rw [hlk] at hy2
                  have HY := Lib.hid (And.intro hy (And.intro hzB (And.intro hy2 hcB2)))
                  clear hzc hc2 hy hy2 hzB hcB2 hlk
                  go_wp2
                  refine R6.wp_walk (C := RdC wr) 227 (by kernel_rfl) (by kernel_rfl) rfl ⟨(Below.refl _ _).drew, rfl⟩ ?_
                  simp only []
                  repeat (first
                    | (refine' R6.WalkR.det (fun _ => rfl) (fun D ρ W hK hC => ?_) ?_
                       rotate_left
                       · have hWW : Grows w4 W := hG.out.trans (hC.bel.mono hG.out.size)
                         have hcb := fun i => cell_of_row W w.heap.size i _ _ _ ((hWW.block _ (lt_of_heap H4.out.1.b0)).trans H4.out.1.b0)
                         have hca := ((H4.out.1.bel.trans (hWW.mono H4.out.1.bel.size)).cell (p := ⟨zb, zo + j, none⟩) HY.out.2.1).trans HY.out.1
                         have hcx := (hWW.cell (p := ⟨cb, of2 + j, none⟩) HY.out.2.2.2).trans HY.out.2.2.1
                         clear hWW
                         have HC := Lib.hid hC
                         clear hC hK
                         go_simp
                         first
                           | with_reducible exact ⟨rfl, HC.out.move⟩
                           | fail
                       simp only [Act.put, List.setIfInBounds_toArray, List.set_cons_succ, List.set_cons_zero]))
                  refine R6.WalkR.nil (fun D ρ W' hD' hC => ?_)
                  have HG := Lib.hid (hG.out.trans (hC.bel.mono hG.out.size))
                  clear hC hD'
                  go_wp2
                  go_roundg g3
                  case measure => omega
                  case rel => exact ⟨j + 1, by omega, by go_num, HG.out⟩
            · have hkl2 : ¬ (k : Int) = 300 := by omega
              clear hkl
              go_wp2_with (first
                | (go_at_call 40
                   refine (HS.out.2.2.1 k _ c' ls w3 hr.out hln.out H3.out.2.2.2.2.rows).mono ?_
                   rintro e w4 ⟨rfl, hB4⟩
                   rw [HOK.out]
                   have h4 := H3.out.1.next hB4
                   have hc4 := fun i => cell_of_row w4 w.heap.size i _ _ _ h4.b0
                   have H4 := Lib.hid (And.intro h4 (And.intro (H3.out.2.2.2.1.grows hB4) (hB4)))
                   clear hB4 h4 hc3 hn3)
                | (go_at_call 17
                   refine (HS.out.2.1 k _ c' ls wr hr.out hNi.out.rows HOK.out).mono ?_
                   rintro e w3 ⟨A8, c8, l8, rfl, hn8, hr8, hO8, hB8⟩
                   have h3 := HT.out.next hB8
                   have hc3 := fun i => cell_of_row w3 w.heap.size i _ _ _ h3.b0
                   have hn3 := fun i => cell_of_row w3 nb i _ _ _ h3.x
                   unfold btl btB at hn3
                   simp only at hn3
                   have H3 := Lib.hid (And.intro h3 (And.intro hn8 (And.intro hr8 (And.intro hO8 (hNi.out.below hB8)))))
                   clear hn8 hr8 hO8 hB8 h3 hcb hcn))
              go_loopg [140] l.length (fun g3 s140 wx => ∃ j : Nat, j + g3 = l.length ∧ s140 = .int .i64 j ∧ Hid (Grows w4 wx))
              case atStart => exact ⟨0, by omega, rfl, Below.refl _ _⟩
              case round =>
                obtain ⟨j, hjg, rfl, hG⟩ := hrel
                clear hc4
                cases gk with
                | zero =>
                  have hjn : ¬ (j : Int) < l.length := by omega
                  have h5 := H4.out.1.next hG.out
                  have hO5 := H4.out.2.1.grows hG.out
                  have hR5 := hO5.rows
                  have hsm := small_good (HS.out.1 (k + 1)) H3.out.2.2.1
                  have htc := twinCells_any A8 c8 l8 wr.heap.size wr (Nat.le_refl _) hR5 hsm
                  unfold CellsPost at htc
                  rw [H3.out.2.1] at htc
                  have H5 := Lib.hid (And.intro h5 htc)
                  clear h5 hO5 hR5 hsm htc
                  go_wp2_with (first
                    | (show wpList _ _ _ (Oper.mk none (Op.store _ (Operand.tmp 160) (Operand.tmp 158)) _ _ _ _ :: _) _ _
                       refine wpList_store_val 24 (.tmp 160) (.tmp 158) rfl rfl rfl rfl rfl rfl rfl (L := btl (btB t (S (k + 1)).1) (.slice (some ⟨ab, off, none⟩) l.length c')) H7.out.1.x (by simp [btl]) sizeSl1 ?_
                       intro w8 hP8 hM8
                       have h8 := H7.out.1.putX (X' := btl (btB t (S (k + 1)).1) (.slice A9 l.length c9)) hP8 hM8
                       have hO8 := H7.out.2.low hP8 (by have := lt_of_heap H5.out.1.x; omega)
                       have hN8 := hO8.rowsN (g := rb) (by have := lt_of_heap H5.out.1.r; omega)
                       have H8 := Lib.hid (And.intro h8 hN8)
                       clear hP8 hM8 h8 hO8 hN8)
                    | (show wpList _ _ _ (Oper.mk none (Op.store _ (Operand.tmp 159) (Operand.tmp 156)) _ _ _ _ :: _) _ _
                       refine wpList_store_val 3 (.tmp 159) (.tmp 156) rfl rfl rfl rfl rfl rfl rfl (L := btl (btB t (S k).1) (.slice (some ⟨ab, off, none⟩) l.length c')) H6.out.2.2.2.x (by simp [btl]) sizeInt1 ?_
                       intro w7 hP7 hM7
                       have h7 := H6.out.2.2.2.putX (X' := btl (btB t (S (k + 1)).1) (.slice (some ⟨ab, off, none⟩) l.length c')) hP7 hM7
                       have hO7 := H6.out.2.2.1.low hP7 (by have := lt_of_heap H5.out.1.x; omega)
                       have H7 := Lib.hid (And.intro h7 hO7)
                       clear hP7 hM7 h7 hO7)
                    | (go_at_call 39
                       refine H5.out.2.mono ?_
                       rintro e w6 ⟨A9, c9, l9, rfl, hr9, hO9, hB9⟩
                       have hr10 := hr9.trans H3.out.2.2.1
                       have hn9 := (HS.out.2.2.2.1 (k + 1) l9 hr10).1
                       rw [hn9]
                       have H6 := Lib.hid (And.intro hr10 (And.intro hn9 (And.intro hO9 (H5.out.1.next hB9))))
                       clear hr9 hr10 hn9 hO9 hB9))
                  go_roundg gg
                  case measure => omega
                  case rel => exact ⟨k + 1, A9, c9, l9, by omega, by go_num, H6.out.2.1, H6.out.1, H8.out.1, H8.out.2⟩
                | succ g3 =>
                  have hj : j < l.length := by omega
                  have hjz : (j : Int) < l.length := by omega
                  have hj0 : (0 : Int) ≤ j := by omega
                  have hj' : j < l8.length := by rw [H3.out.2.1]; exact hj
                  have hlk := (HS.out.2.2.2.1 (k + 1) l8 H3.out.2.2.1).2 j hj hj'
                  obtain ⟨zb, zo, hzA, hzB, hzc⟩ := HZ.out.va (by rw [slvs_len]; omega)
                  subst hzA
                  have hy := hzc j _ (slvs_at l j hj)
                  obtain ⟨cb, of2, hA2, hcB2, hc2⟩ := H4.out.2.1.rows.va (by rw [slvs_len]; omega)
                  subst hA2
                  have hy2 := hc2 j _ (slvs_at l8 j hj')
                  generalize l[j] = y at hy hlk
                  generalize l8[j] = y2 at hy2 hlk
                  obtain ⟨yA, yc, ys⟩ := y
                  obtain ⟨zA, zc, zs⟩ := y2
                  unfold slv at hy hy2
                  simp only at hy hy2 hlk
                  rw [hlk] at hy2
                  have HY := Lib.hid (And.intro hy (And.intro hzB (And.intro hy2 hcB2)))
                  clear hzc hc2 hy hy2 hzB hcB2 hlk
                  go_wp2
                  refine R6.wp_walk (C := RdC wr) 227 (by kernel_rfl) (by kernel_rfl) rfl ⟨(Below.refl _ _).drew, rfl⟩ ?_
                  simp only []
                  repeat (first
                    | (refine' R6.WalkR.det (fun _ => rfl) (fun D ρ W hK hC => ?_) ?_
                       rotate_left
                       · have hWW : Grows w4 W := hG.out.trans (hC.bel.mono hG.out.size)
                         have hcb := fun i => cell_of_row W w.heap.size i _ _ _ ((hWW.block _ (lt_of_heap H4.out.1.b0)).trans H4.out.1.b0)
                         have hca := ((H4.out.1.bel.trans (hWW.mono H4.out.1.bel.size)).cell (p := ⟨zb, zo + j, none⟩) HY.out.2.1).trans HY.out.1
                         have hcx := (hWW.cell (p := ⟨cb, of2 + j, none⟩) HY.out.2.2.2).trans HY.out.2.2.1
                         clear hWW
                         have HC := Lib.hid hC
                         clear hC hK
                         go_simp
                         first
                           | with_reducible exact ⟨rfl, HC.out.move⟩
                           | fail
                       simp only [Act.put, List.setIfInBounds_toArray, List.set_cons_succ, List.set_cons_zero]))
                  refine R6.WalkR.nil (fun D ρ W' hD' hC => ?_)
                  have HG := Lib.hid (hG.out.trans (hC.bel.mono hG.out.size))
                  clear hC hD'
                  go_wp2
                  go_roundg g3
                  case measure => omega
                  case rel => exact ⟨j + 1, by omega, by go_num, HG.out⟩
        | succ gi =>
          have hi : i < l.length := by omega
          have hiz : (i : Int) < l.length := by omega
          have hi0 : (0 : Int) ≤ i := by omega
          have hpl : i < ls.length := by rw [hln.out]; exact hi
          have hel : rowAt (S k).2 i = ls[i].zs := by rw [← hr.out]; simp [rowAt, rws, hpl]
          have hrow : okRow (rowAt (S k).2 i) := (HS.out.1 k).rows _ (by
            have h2' : i < (S k).2.length := by rw [← hr.out]; simpa [rws] using hpl
            simp only [rowAt, List.getElem?_eq_getElem h2', Option.getD_some]
            exact List.getElem_mem h2')
          have hhit := HS.out.2.2.2.2.1 i k
          have hco : coreOf (S k) i = atR (rowAt (S k).2 i) ((rowAt (S k).2 i).length - 1) := rfl
          rw [hco] at hhit
          rw [hel] at hrow hhit
          obtain ⟨ab2, off2, hA2, hab, habn, hca⟩ := hNi.out.va (by rw [slvs_len]; omega)
          injection hA2 with hA2
          injection hA2 with hA2 hA3
          subst hA2 hA3
          have hy := hca i _ (slvs_at ls i hpl)
          have hin := hNi.out.each _ (List.getElem_mem hpl)
          generalize ls[i] = y at hy hrow hhit hin
          obtain ⟨yA, yc, ys⟩ := y
          unfold slv at hy
          simp only at hy hrow hhit hin
          obtain ⟨m, hm⟩ : ∃ m, ys.length = m + 1 := ⟨ys.length - 1, by have := hrow.l1; omega⟩
          have hm6 : m < 6 := by have := hrow.l6; omega
          obtain ⟨sb, so, hsA, hsB, hsn, hcs'⟩ := hin (by omega)
          subst hsA
          have hx := hcs' m (by omega)
          rw [hm, Nat.add_sub_cancel] at hhit
          rw [show ys[m]?.getD 0 = atR ys m from rfl] at hx
          rw [hm] at hy
          generalize atR ys m = x at hhit hx
          have hm0 : (0 : Int) ≤ m := by omega
          have hm6z : (m : Int) < 6 := by omega
          have hmz : (m : Int) < (m : Int) + 1 := by omega
          have v0 : IntKind.i64.wrap (m : Int) = m := IntWalk.i64_in _ (by omega)
          have v1 : IntKind.i64.wrap ((m : Int) + 1 - 1) = m := by rw [Int.add_sub_cancel]; exact IntWalk.i64_in _ (by omega)
          have hst := rL_step (g := g) (k := k) hi
          have hau := allU_succ g k i
          rw [rL_new g hi] at hau
          obtain ⟨L, hL⟩ : ∃ L, L = rL g l.length k i := ⟨_, rfl⟩
          obtain ⟨L', hL'⟩ : ∃ L', L' = rL g l.length k (i + 1) := ⟨_, rfl⟩
          rw [← hL] at hst hau hTi
          rw [← hL'] at hst
          have hll' : L'.length = l.length := by rw [hL', rL_len]
          have HL' := Lib.hid (And.intro hL' hll')
          have HX := Lib.hid (And.intro hx (And.intro hsB hsn))
          clear hL hL' hll' hrow hel hin hcs' hca hx hsB hsn hm
          have hry := (cell_of_row wr rb i _ _ _ hTi.out.r).trans (bls_at L (by rw [hTi.out.ll]; exact hi))
          generalize g i k = hv at hst hau hhit
          generalize allU g k i = av at hau ⊢
          generalize hvv : L[i]?.getD false = v0' at hst hau hry
          have HVV := Lib.hid hvv
          clear hvv
          have HY := Lib.hid (And.intro hy (And.intro hab habn))
          clear hy hab habn
          cases v0'
          · cases hv
            · have hle : ¬ t.need ≤ x := by simpa using hhit.symm
              have hd : decide (t.need ≤ x) = false := decide_eq_false hle
              clear hhit
              cases av
              · simp only [Bool.or_false, Bool.false_and] at hst hau
                have HST := Lib.hid (show L.set i false = L' from hst)
                have HAU := Lib.hid (show allU g k (i + 1) = false from hau)
                clear hst hau hry
                have hyv := HY.out.1
                go_wp2
                clear hyv
                have hone : OneW wr rb (.cells (bls L).toArray 4 (0, 0)) (.cells (bls L').toArray 4 (0, 0)) 18 (fun _ => false) (fun _ => undef) wr.drew := OneW.start hTi.out.r rfl
                have HONE := Lib.hid hone
                clear hone
                refine R6.wp_walk (C := OneW wr rb (.cells (bls L).toArray 4 (0, 0)) (.cells (bls L').toArray 4 (0, 0)) 18) 227 (by kernel_rfl) (by kernel_rfl) rfl ⟨HONE.out.gb, HONE.out.lt, HONE.out.no, HONE.out.yes⟩ ?_
                simp only []
                repeat (first
                  | (refine' R6.WalkR.det (fun _ => rfl) (fun D ρ W hK hC => ?_) ?_
                     rotate_left
                     · have hcb := fun i => cell_of_row W w.heap.size i _ _ _ ((hC.other (lt_of_heap hTi.out.b0) (by have := hTi.out.lr; omega)).trans hTi.out.b0)
                       have hbx : W.heap[sb]? = wr.heap[sb]? := hC.other HX.out.2.1 HX.out.2.2
                       have hcx : W.cell? ⟨sb, so + m, none⟩ = _ := (World.cell?_of_block (w := wr) hbx).trans HX.out.1
                       clear hbx
                       try (have ha := hC.no (hK.post 18 (by first | decide +kernel | (dsimp only; decide +kernel))); have hcr := (cell_of_row W rb i _ _ _ ha).trans (bls_at L (by rw [hTi.out.ll]; exact hi)); rw [HVV.out] at hcr; clear ha)
                       have HC := Lib.hid hC
                       clear hC hK
                       go_simp
                       first
                         | with_reducible exact ⟨rfl, HC.out.move rfl⟩
                         | fail
                     simp only [Act.put, List.setIfInBounds_toArray, List.set_cons_succ, List.set_cons_zero]))
                refine' R6.WalkR.det (c := undef) (fun _ => rfl) (fun D ρ W hK hC => ?_) ?_
                · have ha := hC.no hK.me
                  have HC := Lib.hid hC
                  clear hC hK
                  refine gives_store_val 4 (.tmp 97) (.tmp 96) rfl rfl rfl rfl rfl ha (by rw [bls_len, hTi.out.ll]; exact hi) sizeBool ?_
                  intro W1 hP hM1
                  refine ⟨rfl, HC.out.put hP ?_⟩
                  rw [← HST.out, ← bls_set]; exact hM1
                simp only [Act.put]
                refine R6.WalkR.nil (fun D ρ W6 hD' hC => ?_)
                have hy6 := hC.yes (hD' 18 (by decide))
                have h6 := hTi.out.turn hC.gb hy6 HL'.out.2
                have hN6 := hNi.out.turn hC.gb
                have hcr := (cell_of_row W6 rb i _ _ _ hy6).trans (bls_at L' (by rw [HL'.out.2]; exact hi))
                rw [← HST.out, List.getElem?_set_self (by rw [hTi.out.ll]; exact hi), Option.getD_some] at hcr
                have H6 := Lib.hid (And.intro h6 hN6)
                clear hC hD' hy6 h6 hN6
                go_wp2
                go_roundg gi
                case measure => omega
                case rel => exact ⟨i + 1, by omega, by rw [HAU.out], by go_num, by show RyW _ _ _ _ _ _ _ _; rw [← HL'.out.1]; exact H6.out.1, H6.out.2⟩
              · simp only [Bool.or_false, Bool.and_false] at hst hau
                have HST := Lib.hid (show L.set i false = L' from hst)
                have HAU := Lib.hid (show allU g k (i + 1) = false from hau)
                clear hst hau hry
                have hyv := HY.out.1
                go_wp2
                clear hyv
                have hone : OneW wr rb (.cells (bls L).toArray 4 (0, 0)) (.cells (bls L').toArray 4 (0, 0)) 18 (fun _ => false) (fun _ => undef) wr.drew := OneW.start hTi.out.r rfl
                have HONE := Lib.hid hone
                clear hone
                refine R6.wp_walk (C := OneW wr rb (.cells (bls L).toArray 4 (0, 0)) (.cells (bls L').toArray 4 (0, 0)) 18) 227 (by kernel_rfl) (by kernel_rfl) rfl ⟨HONE.out.gb, HONE.out.lt, HONE.out.no, HONE.out.yes⟩ ?_
                simp only []
                repeat (first
                  | (refine' R6.WalkR.det (fun _ => rfl) (fun D ρ W hK hC => ?_) ?_
                     rotate_left
                     · have hcb := fun i => cell_of_row W w.heap.size i _ _ _ ((hC.other (lt_of_heap hTi.out.b0) (by have := hTi.out.lr; omega)).trans hTi.out.b0)
                       have hbx : W.heap[sb]? = wr.heap[sb]? := hC.other HX.out.2.1 HX.out.2.2
                       have hcx : W.cell? ⟨sb, so + m, none⟩ = _ := (World.cell?_of_block (w := wr) hbx).trans HX.out.1
                       clear hbx
                       try (have ha := hC.no (hK.post 18 (by first | decide +kernel | (dsimp only; decide +kernel))); have hcr := (cell_of_row W rb i _ _ _ ha).trans (bls_at L (by rw [hTi.out.ll]; exact hi)); rw [HVV.out] at hcr; clear ha)
                       have HC := Lib.hid hC
                       clear hC hK
                       go_simp
                       first
                         | with_reducible exact ⟨rfl, HC.out.move rfl⟩
                         | fail
                     simp only [Act.put, List.setIfInBounds_toArray, List.set_cons_succ, List.set_cons_zero]))
                refine' R6.WalkR.det (c := undef) (fun _ => rfl) (fun D ρ W hK hC => ?_) ?_
                · have ha := hC.no hK.me
                  have HC := Lib.hid hC
                  clear hC hK
                  refine gives_store_val 4 (.tmp 97) (.tmp 96) rfl rfl rfl rfl rfl ha (by rw [bls_len, hTi.out.ll]; exact hi) sizeBool ?_
                  intro W1 hP hM1
                  refine ⟨rfl, HC.out.put hP ?_⟩
                  rw [← HST.out, ← bls_set]; exact hM1
                simp only [Act.put]
                refine R6.WalkR.nil (fun D ρ W6 hD' hC => ?_)
                have hy6 := hC.yes (hD' 18 (by decide))
                have h6 := hTi.out.turn hC.gb hy6 HL'.out.2
                have hN6 := hNi.out.turn hC.gb
                have hcr := (cell_of_row W6 rb i _ _ _ hy6).trans (bls_at L' (by rw [HL'.out.2]; exact hi))
                rw [← HST.out, List.getElem?_set_self (by rw [hTi.out.ll]; exact hi), Option.getD_some] at hcr
                have H6 := Lib.hid (And.intro h6 hN6)
                clear hC hD' hy6 h6 hN6
                go_wp2
                go_roundg gi
                case measure => omega
                case rel => exact ⟨i + 1, by omega, by rw [HAU.out], by go_num, by show RyW _ _ _ _ _ _ _ _; rw [← HL'.out.1]; exact H6.out.1, H6.out.2⟩
            · have hle : t.need ≤ x := by simpa using hhit.symm
              clear hhit
              cases av
              · simp only [Bool.or_true, Bool.false_and] at hst hau
                have HST := Lib.hid (show L.set i true = L' from hst)
                have HAU := Lib.hid (show allU g k (i + 1) = false from hau)
                clear hst hau hry
                have hyv := HY.out.1
                go_wp2
                clear hyv
                have hone : OneW wr rb (.cells (bls L).toArray 4 (0, 0)) (.cells (bls L').toArray 4 (0, 0)) 18 (fun _ => false) (fun _ => undef) wr.drew := OneW.start hTi.out.r rfl
                have HONE := Lib.hid hone
                clear hone
                refine R6.wp_walk (C := OneW wr rb (.cells (bls L).toArray 4 (0, 0)) (.cells (bls L').toArray 4 (0, 0)) 18) 227 (by kernel_rfl) (by kernel_rfl) rfl ⟨HONE.out.gb, HONE.out.lt, HONE.out.no, HONE.out.yes⟩ ?_
                simp only []
                repeat (first
                  | (refine' R6.WalkR.det (fun _ => rfl) (fun D ρ W hK hC => ?_) ?_
                     rotate_left
                     · have hcb := fun i => cell_of_row W w.heap.size i _ _ _ ((hC.other (lt_of_heap hTi.out.b0) (by have := hTi.out.lr; omega)).trans hTi.out.b0)
                       have hbx : W.heap[sb]? = wr.heap[sb]? := hC.other HX.out.2.1 HX.out.2.2
                       have hcx : W.cell? ⟨sb, so + m, none⟩ = _ := (World.cell?_of_block (w := wr) hbx).trans HX.out.1
                       clear hbx
                       try (have ha := hC.no (hK.post 18 (by first | decide +kernel | (dsimp only; decide +kernel))); have hcr := (cell_of_row W rb i _ _ _ ha).trans (bls_at L (by rw [hTi.out.ll]; exact hi)); rw [HVV.out] at hcr; clear ha)
                       have HC := Lib.hid hC
                       clear hC hK
                       go_simp
                       first
                         | with_reducible exact ⟨rfl, HC.out.move rfl⟩
                         | fail
                     simp only [Act.put, List.setIfInBounds_toArray, List.set_cons_succ, List.set_cons_zero]))
                refine' R6.WalkR.det (c := undef) (fun _ => rfl) (fun D ρ W hK hC => ?_) ?_
                · have ha := hC.no hK.me
                  have HC := Lib.hid hC
                  clear hC hK
                  refine gives_store_val 4 (.tmp 97) (.tmp 96) rfl rfl rfl rfl rfl ha (by rw [bls_len, hTi.out.ll]; exact hi) sizeBool ?_
                  intro W1 hP hM1
                  refine ⟨rfl, HC.out.put hP ?_⟩
                  rw [← HST.out, ← bls_set]; exact hM1
                simp only [Act.put]
                refine R6.WalkR.nil (fun D ρ W6 hD' hC => ?_)
                have hy6 := hC.yes (hD' 18 (by decide))
                have h6 := hTi.out.turn hC.gb hy6 HL'.out.2
                have hN6 := hNi.out.turn hC.gb
                have hcr := (cell_of_row W6 rb i _ _ _ hy6).trans (bls_at L' (by rw [HL'.out.2]; exact hi))
                rw [← HST.out, List.getElem?_set_self (by rw [hTi.out.ll]; exact hi), Option.getD_some] at hcr
                have H6 := Lib.hid (And.intro h6 hN6)
                clear hC hD' hy6 h6 hN6
                go_wp2
                go_roundg gi
                case measure => omega
                case rel => exact ⟨i + 1, by omega, by rw [HAU.out], by go_num, by show RyW _ _ _ _ _ _ _ _; rw [← HL'.out.1]; exact H6.out.1, H6.out.2⟩
              · simp only [Bool.or_true, Bool.true_and] at hst hau
                have HST := Lib.hid (show L.set i true = L' from hst)
                have HAU := Lib.hid (show allU g k (i + 1) = true from hau)
                clear hst hau hry
                have hyv := HY.out.1
                go_wp2
                clear hyv
                have hone : OneW wr rb (.cells (bls L).toArray 4 (0, 0)) (.cells (bls L').toArray 4 (0, 0)) 18 (fun _ => false) (fun _ => undef) wr.drew := OneW.start hTi.out.r rfl
                have HONE := Lib.hid hone
                clear hone
                refine R6.wp_walk (C := OneW wr rb (.cells (bls L).toArray 4 (0, 0)) (.cells (bls L').toArray 4 (0, 0)) 18) 227 (by kernel_rfl) (by kernel_rfl) rfl ⟨HONE.out.gb, HONE.out.lt, HONE.out.no, HONE.out.yes⟩ ?_
                simp only []
                repeat (first
                  | (refine' R6.WalkR.det (fun _ => rfl) (fun D ρ W hK hC => ?_) ?_
                     rotate_left
                     · have hcb := fun i => cell_of_row W w.heap.size i _ _ _ ((hC.other (lt_of_heap hTi.out.b0) (by have := hTi.out.lr; omega)).trans hTi.out.b0)
                       have hbx : W.heap[sb]? = wr.heap[sb]? := hC.other HX.out.2.1 HX.out.2.2
                       have hcx : W.cell? ⟨sb, so + m, none⟩ = _ := (World.cell?_of_block (w := wr) hbx).trans HX.out.1
                       clear hbx
                       try (have ha := hC.no (hK.post 18 (by first | decide +kernel | (dsimp only; decide +kernel))); have hcr := (cell_of_row W rb i _ _ _ ha).trans (bls_at L (by rw [hTi.out.ll]; exact hi)); rw [HVV.out] at hcr; clear ha)
                       have HC := Lib.hid hC
                       clear hC hK
                       go_simp
                       first
                         | with_reducible exact ⟨rfl, HC.out.move rfl⟩
                         | fail
                     simp only [Act.put, List.setIfInBounds_toArray, List.set_cons_succ, List.set_cons_zero]))
                refine' R6.WalkR.det (c := undef) (fun _ => rfl) (fun D ρ W hK hC => ?_) ?_
                · have ha := hC.no hK.me
                  have HC := Lib.hid hC
                  clear hC hK
                  refine gives_store_val 4 (.tmp 97) (.tmp 96) rfl rfl rfl rfl rfl ha (by rw [bls_len, hTi.out.ll]; exact hi) sizeBool ?_
                  intro W1 hP hM1
                  refine ⟨rfl, HC.out.put hP ?_⟩
                  rw [← HST.out, ← bls_set]; exact hM1
                simp only [Act.put]
                refine R6.WalkR.nil (fun D ρ W6 hD' hC => ?_)
                have hy6 := hC.yes (hD' 18 (by decide))
                have h6 := hTi.out.turn hC.gb hy6 HL'.out.2
                have hN6 := hNi.out.turn hC.gb
                have hcr := (cell_of_row W6 rb i _ _ _ hy6).trans (bls_at L' (by rw [HL'.out.2]; exact hi))
                rw [← HST.out, List.getElem?_set_self (by rw [hTi.out.ll]; exact hi), Option.getD_some] at hcr
                have H6 := Lib.hid (And.intro h6 hN6)
                clear hC hD' hy6 h6 hN6
                go_wp2
                go_roundg gi
                case measure => omega
                case rel => exact ⟨i + 1, by omega, by rw [HAU.out], by go_num, by show RyW _ _ _ _ _ _ _ _; rw [← HL'.out.1]; exact H6.out.1, H6.out.2⟩
          · clear hhit
            cases av
            · simp only [Bool.true_or, Bool.false_and] at hst hau
              have HST := Lib.hid (show L.set i true = L' from hst)
              have HAU := Lib.hid (show allU g k (i + 1) = false from hau)
              clear hst hau hry
              have hyv := HY.out.1
              go_wp2
              clear hyv
              have hone : OneW wr rb (.cells (bls L).toArray 4 (0, 0)) (.cells (bls L').toArray 4 (0, 0)) 18 (fun _ => false) (fun _ => undef) wr.drew := OneW.start hTi.out.r rfl
              have HONE := Lib.hid hone
              clear hone
              refine R6.wp_walk (C := OneW wr rb (.cells (bls L).toArray 4 (0, 0)) (.cells (bls L').toArray 4 (0, 0)) 18) 227 (by kernel_rfl) (by kernel_rfl) rfl ⟨HONE.out.gb, HONE.out.lt, HONE.out.no, HONE.out.yes⟩ ?_
              simp only []
              repeat (first
                | (refine R6.WalkR.un (fun _ => rfl) (fun D ρ W hK hC => hC.move rfl) ?_
                   simp only [Act.put, List.setIfInBounds_toArray, List.set_cons_succ, List.set_cons_zero])
                | (refine' R6.WalkR.det (fun _ => rfl) (fun D ρ W hK hC => ?_) ?_
                   rotate_left
                   · have hcb := fun i => cell_of_row W w.heap.size i _ _ _ ((hC.other (lt_of_heap hTi.out.b0) (by have := hTi.out.lr; omega)).trans hTi.out.b0)
                     have hbx : W.heap[sb]? = wr.heap[sb]? := hC.other HX.out.2.1 HX.out.2.2
                     have hcx : W.cell? ⟨sb, so + m, none⟩ = _ := (World.cell?_of_block (w := wr) hbx).trans HX.out.1
                     clear hbx
                     try (have ha := hC.no (hK.post 18 (by first | decide +kernel | (dsimp only; decide +kernel))); have hcr := (cell_of_row W rb i _ _ _ ha).trans (bls_at L (by rw [hTi.out.ll]; exact hi)); rw [HVV.out] at hcr; clear ha)
                     have HC := Lib.hid hC
                     clear hC hK
                     go_simp
                     first
                       | with_reducible exact ⟨rfl, HC.out.move rfl⟩
                       | fail
                   simp only [Act.put, List.setIfInBounds_toArray, List.set_cons_succ, List.set_cons_zero]))
              refine' R6.WalkR.det (c := undef) (fun _ => rfl) (fun D ρ W hK hC => ?_) ?_
              · have ha := hC.no hK.me
                have HC := Lib.hid hC
                clear hC hK
                refine gives_store_val 4 (.tmp 97) (.tmp 96) rfl rfl rfl rfl rfl ha (by rw [bls_len, hTi.out.ll]; exact hi) sizeBool ?_
                intro W1 hP hM1
                refine ⟨rfl, HC.out.put hP ?_⟩
                rw [← HST.out, ← bls_set]; exact hM1
              simp only [Act.put]
              refine R6.WalkR.nil (fun D ρ W6 hD' hC => ?_)
              have hy6 := hC.yes (hD' 18 (by decide))
              have h6 := hTi.out.turn hC.gb hy6 HL'.out.2
              have hN6 := hNi.out.turn hC.gb
              have hcr := (cell_of_row W6 rb i _ _ _ hy6).trans (bls_at L' (by rw [HL'.out.2]; exact hi))
              rw [← HST.out, List.getElem?_set_self (by rw [hTi.out.ll]; exact hi), Option.getD_some] at hcr
              have H6 := Lib.hid (And.intro h6 hN6)
              clear hC hD' hy6 h6 hN6
              go_wp2
              go_roundg gi
              case measure => omega
              case rel => exact ⟨i + 1, by omega, by rw [HAU.out], by go_num, by show RyW _ _ _ _ _ _ _ _; rw [← HL'.out.1]; exact H6.out.1, H6.out.2⟩
            · simp only [Bool.true_or, Bool.true_and] at hst hau
              have HST := Lib.hid (show L.set i true = L' from hst)
              have HAU := Lib.hid (show allU g k (i + 1) = true from hau)
              clear hst hau hry
              have hyv := HY.out.1
              go_wp2
              clear hyv
              have hone : OneW wr rb (.cells (bls L).toArray 4 (0, 0)) (.cells (bls L').toArray 4 (0, 0)) 18 (fun _ => false) (fun _ => undef) wr.drew := OneW.start hTi.out.r rfl
              have HONE := Lib.hid hone
              clear hone
              refine R6.wp_walk (C := OneW wr rb (.cells (bls L).toArray 4 (0, 0)) (.cells (bls L').toArray 4 (0, 0)) 18) 227 (by kernel_rfl) (by kernel_rfl) rfl ⟨HONE.out.gb, HONE.out.lt, HONE.out.no, HONE.out.yes⟩ ?_
              simp only []
              repeat (first
                | (refine R6.WalkR.un (fun _ => rfl) (fun D ρ W hK hC => hC.move rfl) ?_
                   simp only [Act.put, List.setIfInBounds_toArray, List.set_cons_succ, List.set_cons_zero])
                | (refine' R6.WalkR.det (fun _ => rfl) (fun D ρ W hK hC => ?_) ?_
                   rotate_left
                   · have hcb := fun i => cell_of_row W w.heap.size i _ _ _ ((hC.other (lt_of_heap hTi.out.b0) (by have := hTi.out.lr; omega)).trans hTi.out.b0)
                     have hbx : W.heap[sb]? = wr.heap[sb]? := hC.other HX.out.2.1 HX.out.2.2
                     have hcx : W.cell? ⟨sb, so + m, none⟩ = _ := (World.cell?_of_block (w := wr) hbx).trans HX.out.1
                     clear hbx
                     try (have ha := hC.no (hK.post 18 (by first | decide +kernel | (dsimp only; decide +kernel))); have hcr := (cell_of_row W rb i _ _ _ ha).trans (bls_at L (by rw [hTi.out.ll]; exact hi)); rw [HVV.out] at hcr; clear ha)
                     have HC := Lib.hid hC
                     clear hC hK
                     go_simp
                     first
                       | with_reducible exact ⟨rfl, HC.out.move rfl⟩
                       | fail
                   simp only [Act.put, List.setIfInBounds_toArray, List.set_cons_succ, List.set_cons_zero]))
              refine' R6.WalkR.det (c := undef) (fun _ => rfl) (fun D ρ W hK hC => ?_) ?_
              · have ha := hC.no hK.me
                have HC := Lib.hid hC
                clear hC hK
                refine gives_store_val 4 (.tmp 97) (.tmp 96) rfl rfl rfl rfl rfl ha (by rw [bls_len, hTi.out.ll]; exact hi) sizeBool ?_
                intro W1 hP hM1
                refine ⟨rfl, HC.out.put hP ?_⟩
                rw [← HST.out, ← bls_set]; exact hM1
              simp only [Act.put]
              refine R6.WalkR.nil (fun D ρ W6 hD' hC => ?_)
              have hy6 := hC.yes (hD' 18 (by decide))
              have h6 := hTi.out.turn hC.gb hy6 HL'.out.2
              have hN6 := hNi.out.turn hC.gb
              have hcr := (cell_of_row W6 rb i _ _ _ hy6).trans (bls_at L' (by rw [HL'.out.2]; exact hi))
              rw [← HST.out, List.getElem?_set_self (by rw [hTi.out.ll]; exact hi), Option.getD_some] at hcr
              have H6 := Lib.hid (And.intro h6 hN6)
              clear hC hD' hy6 h6 hN6
              go_wp2
              go_roundg gi
              case measure => omega
              case rel => exact ⟨i + 1, by omega, by rw [HAU.out], by go_num, by show RyW _ _ _ _ _ _ _ _; rw [← HL'.out.1]; exact H6.out.1, H6.out.2⟩

end Go.Proofs.Ytfampdiompjmeaa
