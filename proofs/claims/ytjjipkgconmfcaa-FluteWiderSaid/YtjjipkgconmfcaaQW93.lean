/-
  Texts laid together: FvP, FvQ, FvR.
-/
import Derived.Deep.DeepCutAuto
import Derived.Test.YtjjipkgconmfcaaQW92
import Derived.Test.YtjjipkgconmfcaaB921
set_option linter.all false
namespace Go.Proofs.Ytjjipkgconmfcaa
open Go.RowKit Go.Maps
open R6 (done done_ne done_me upd_ne upd_me)

attribute [local go_sem] gives

set_option maxRecDepth 100000 in
set_option maxHeartbeats 16000000 in
theorem fluteWider_some (f : Fu) (hl : f.hs.length ≤ 1000000) (n0 : Nat) (hn0 : n0 < 256) (o0 o1 : Int) (A : Option Addr) (cap : Nat) (us : List Int) (q : Nat) (hq : q < 256) (B : Nat) (w : World) (hB : B ≤ w.heap.size) (hz : FuAt w B f) (hby : ByAt w B A us) :
    Calls Try.prog 10 #[.agg (fuc f).toArray, .int .u8 (n0 : Int), .agg #[.int .i64 o0, .int .i64 o1], .slice A us.length cap, .int .u8 (q : Int)] w fun e w' => e = .returned (.bool true) ∧ Below w.heap.size w w' := by
  obtain ⟨w1, hw1⟩ : ∃ w1, (w.alloc (.cells (fuc f).toArray 28)).alloc (.cells #[.int .i64 o0, .int .i64 o1] 25) = w1 := ⟨_, rfl⟩
  have hb1 : Below w.heap.size w w1 := by rw [← hw1]; exact ((Below.refl _ _).alloc (Nat.le_refl _) _).alloc (by simp) _
  have m0 : w1.heap[w.heap.size]? = some (.cells (fuc f).toArray 28 (0, 0)) := by rw [← hw1]; exact alloc2_at0 _ _ _
  have m1 : w1.heap[w.heap.size + 1]? = some (.cells #[.int .i64 o0, .int .i64 o1] 25 (0, 0)) := by rw [← hw1]; exact alloc2_at1 _ _ _
  have hz1 := hz.below (hb1.mono hB)
  have hby1 := hby.below (hb1.mono hB)
  have hB1 := Nat.le_trans hB hb1.size
  have HAL := Lib.hid (fun W => alive_any W)
  have hrd := fun W (hW : Below w1.heap.size w1 W) => ready9_any f hl B W (Nat.le_trans hB1 hW.size) (hz1.below (hW.mono hB1))
  have HNO := Lib.hid (fun W => rfNote_any o0 o1 W)
  have hno : okNo (o0, o1) = okS o0 o1 1 10000000 := rfl
  have hpl := fun n (h256 : n < 256) W (hW : Below w1.heap.size w1 W) => plays_any f hl n h256 (o0, o1) B W (Nat.le_trans hB1 hW.size) (hz1.below (hW.mono hB1))
  have htw := fun W (hW : Below w1.heap.size w1 W) => rfTwin_own f hl B W (Nat.le_trans hB1 hW.size) (hz1.below (hW.mono hB1))
  have HAT := Lib.hid (fun (i : Int) (h0 : 0 ≤ i) W (hW : Below w1.heap.size w1 W) => at9_any A cap us i h0 B W (hby1.below (hW.mono hB1)).va hby.ln)
  have HAB := Lib.hid (fun i => atL_bnd hby (i := i))
  unfold PlaPost at hpl
  unfold TwinOwn fuAt' at htw
  have hpe : okFu f = true → okNo (o0, o1) = true → ∀ n, n < 2 ^ f.hs.length → plaE f n (o0, o1) = 0 ∧ plaV f n (o0, o1) = knoF (airF f n) (o0, o1) (f.s0, f.s1) := fun h1 h2 n h3 => ⟨by simp [plaE, h1, h2, h3], by simp [plaV, h1, h2, h3]⟩
  have hcf := fun (W : World) (hW : Below w1.heap.size w1 W) => And.intro (fun i => cell_of_row W w.heap.size i _ _ _ ((hW.block _ (lt_of_heap m0)).trans m0)) (fun i => cell_of_row W (w.heap.size + 1) i _ _ _ ((hW.block _ (lt_of_heap m1)).trans m1))
  have hfg := fun (h8 : f.hs.length ≤ 8) n (hn : n < 256) W => fingered_any f h8 n hn W
  have H1 := Lib.hid hb1
  have HZ1 := Lib.hid (And.intro hz1 hB1)
  have HLT := Lib.hid (And.intro (lt_of_heap m0) (lt_of_heap m1))
  clear hz hb1 m0 m1 hz1 hby1 hby
  unfold fuc at hw1 hcf hrd hpl hfg htw ⊢
  dsimp only at htw
  have HCF := Lib.hid hcf
  clear hcf
  have hrk := fun (h : rdyF f = true) => rdy_ok h
  generalize rdyF f = v1 at hrd hrk
  have HRD := Lib.hid hrd
  clear hrd
  rw [← hno] at HNO
  cases v1
  · clear hrk hpl htw hpe hfg hno
    go_enter Try.func10, Try.ntmps10
    go_wp2_with (first
      | (go_at_call 13; refine (HAL.out _).mono ?_; rintro e w2 ⟨rfl, hB2⟩; obtain ⟨hc2, hc3⟩ := HCF.out w2 hB2; have H2 := Lib.hid hB2; clear hB2)
      | (go_at_call 32; refine (HRD.out w2 H2.out).mono ?_; rintro e w3 ⟨rfl, hB3⟩; have H3 := Lib.hid (H2.out.trans (hB3.mono H2.out.size)); clear hB3))
    go_ret
    exact ⟨rfl, H1.out.trans (H3.out.mono H1.out.size)⟩
  have hok := hrk rfl
  cases hnv : okNo (o0, o1)
  · rw [hnv] at HNO
    clear hrk hpl htw hpe hfg hno hok hnv
    go_enter Try.func10, Try.ntmps10
    go_wp2_with (first
      | (go_at_call 13; refine (HAL.out _).mono ?_; rintro e w2 ⟨rfl, hB2⟩; obtain ⟨hc2, hc3⟩ := HCF.out w2 hB2; have H2 := Lib.hid hB2; clear hB2)
      | (go_at_call 32; refine (HRD.out w2 H2.out).mono ?_; rintro e w3 ⟨rfl, hB3⟩; obtain ⟨hc4, hc5⟩ := HCF.out w3 (H2.out.trans (hB3.mono H2.out.size)); have H3 := Lib.hid (H2.out.trans (hB3.mono H2.out.size)); clear hB3 hc2 hc3)
      | (go_at_call 33; refine (HNO.out w3).mono ?_; rintro e w4 ⟨rfl, hB4⟩; have H4 := Lib.hid (H3.out.trans (hB4.mono H3.out.size)); clear hB4))
    go_ret
    exact ⟨rfl, H1.out.trans (H4.out.mono H1.out.size)⟩
  rw [hnv] at HNO
  have hbn := okFu_bnd hok
  have hlen8 := hbn.2.2.2.2.1
  have hfgn := hfg hlen8 n0 hn0
  have hN8 : 2 ^ f.hs.length ≤ 256 := Nat.pow_le_pow_right (n := 2) (by omega) hlen8
  have hnlt : n0 % 2 ^ f.hs.length < 2 ^ f.hs.length := Nat.mod_lt _ (Nat.pow_pos (by omega))
  obtain ⟨n, hn⟩ : ∃ n, n = n0 % 2 ^ f.hs.length := ⟨_, rfl⟩
  rw [← hn] at hfgn hnlt
  have hn256 : n < 256 := by omega
  have hlz : (f.hs.length : Int) ≤ 8 := by omega
  have HP := hpl n hn256
  rw [(hpe hok hnv n hnlt).1, (hpe hok hnv n hnlt).2] at HP
  clear hrk hpl hpe hfg hno hN8 hn
  have HP := Lib.hid HP
  have HFN := Lib.hid hfgn
  have HTW := Lib.hid htw
  have hwk := fun A' c' => wid_kno hok us A' c' (o0, o1) hnlt
  have HOK := Lib.hid (And.intro hok (And.intro hlen8 (And.intro hnlt (And.intro hn256 (And.intro hnv hbn)))))
  clear hfgn htw hok hnlt hn256 hnv hbn
  generalize knoF (airF f n) (o0, o1) (f.s0, f.s1) = kv at HP hwk
  have HWK := Lib.hid hwk
  clear hwk
  go_enter Try.func10, Try.ntmps10
  go_wp2_with (first
    | (go_at_call 13; refine (HAL.out _).mono ?_; rintro e w2 ⟨rfl, hB2⟩; obtain ⟨hc2, hc3⟩ := HCF.out w2 hB2; have H2 := Lib.hid hB2; clear hB2)
    | (go_at_call 32; refine (HRD.out w2 H2.out).mono ?_; rintro e w3 ⟨rfl, hB3⟩; obtain ⟨hc4, hc5⟩ := HCF.out w3 (H2.out.trans (hB3.mono H2.out.size)); have H3 := Lib.hid (H2.out.trans (hB3.mono H2.out.size)); clear hB3 hc2 hc3)
    | (go_at_call 33; refine (HNO.out w3).mono ?_; rintro e w4 ⟨rfl, hB4⟩; obtain ⟨hc6, hc7⟩ := HCF.out w4 (H3.out.trans (hB4.mono H3.out.size)); have H4 := Lib.hid (H3.out.trans (hB4.mono H3.out.size)); clear hB4 hc4 hc5)
    | (go_at_call 34; (with_reducible refine (HFN.out w4).mono ?_); rintro e w5 ⟨rfl, hB5⟩; obtain ⟨hc8, hc9⟩ := HCF.out w5 (H4.out.trans (hB5.mono H4.out.size)); have H5 := Lib.hid (H4.out.trans (hB5.mono H4.out.size)); clear hB5 hc6 hc7)
    | (go_at_call 26; (with_reducible refine (HTW.out w5 H5.out).mono ?_); rintro e w6 ⟨g, c, rfl, ⟨tl, hO6⟩, hg6, hB6⟩; have H6 := Lib.hid (And.intro (H5.out.trans (hB6.mono H5.out.size)) (And.intro hO6 (Nat.le_trans H5.out.size hg6))); clear hB6 hg6 hO6 hc8 hc9))
  -- GEN
  obtain ⟨b, hb⟩ : ∃ b, b = w6.heap.size := ⟨_, rfl⟩
  obtain ⟨w7, hw7⟩ : ∃ w7, w6.alloc (.cells #[.int .i64 f.len, .int .i64 f.e0, .int .i64 f.e1, .int .i64 f.c0, .int .i64 f.c1, .int .i64 f.s0, .int .i64 f.s1, .slice (some ⟨g, 0, none⟩) f.hs.length c] 28) = w7 := ⟨_, rfl⟩
  have m7 : w7.heap[b]? = some (.cells #[.int .i64 f.len, .int .i64 f.e0, .int .i64 f.e1, .int .i64 f.c0, .int .i64 f.c1, .int .i64 f.s0, .int .i64 f.s1, .slice (some ⟨g, 0, none⟩) f.hs.length c] 28 (0, 0)) := by rw [← hw7, hb]; exact alloc_at0 _ _
  have g7 : Grows w6 w7 := by rw [← hw7]; exact grow1 _ _
  rw [hw7, ← hb]
  have hlt6 := lt_of_heap H6.out.2.1
  have H7 := Lib.hid (WdS.mk (w0 := w1) (b := b) (g := g) (x := [.int .i64 f.len, .int .i64 f.e0, .int .i64 f.e1, .int .i64 f.c0, .int .i64 f.c1, .int .i64 f.s0, .int .i64 f.s1, .slice (some ⟨g, 0, none⟩) f.hs.length c]) (h := f.hs) (tl := tl) (H6.out.1.trans (g7.mono H6.out.1.size)) m7 ((g7.block _ hlt6).trans H6.out.2.1))
  have hbg : w1.heap.size ≤ b ∧ w1.heap.size ≤ g ∧ b ≠ g := ⟨by rw [hb]; exact H6.out.1.size, H6.out.2.2, fun e => by rw [← e, hb] at hlt6; exact Nat.lt_irrefl _ hlt6⟩
  have HBG := Lib.hid hbg
  have hfb : w.heap.size ≠ b ∧ w.heap.size ≠ g := ⟨by have := HLT.out.1; omega, by have := HLT.out.1; omega⟩
  have HFB := Lib.hid hfb
  have hbn := HOK.out.2.2.2.2.2
  obtain ⟨r0, hr0⟩ : ∃ r, remL (atL us 0) (60 - f.e1) = r := ⟨_, rfl⟩
  obtain ⟨r1, hr1⟩ : ∃ r, remL (atL us 1) f.c0 = r := ⟨_, rfl⟩
  obtain ⟨r2, hr2⟩ : ∃ r, remL (atL us 2) (f.s0 - 100000) = r := ⟨_, rfl⟩
  have F0 := rem_facts (a := atL us 0) (m := 60 - f.e1) (HAB.out 0) (by omega)
  have F1 := rem_facts (a := atL us 1) (m := f.c0) (HAB.out 1) (by omega)
  have F2 := rem_facts (a := atL us 2) (m := f.s0 - 100000) (HAB.out 2) (by omega)
  rw [hr0] at F0
  rw [hr1] at F1
  rw [hr2] at F2
  have x0 : IntKind.i64.wrap (f.e1 + r0) = f.e1 + r0 := IntWalk.i64_in _ (by omega)
  have x1 : IntKind.i64.wrap (f.c0 - r1) = f.c0 - r1 := IntWalk.i64_in _ (by omega)
  have x2 : IntKind.i64.wrap (f.s0 - r2) = f.s0 - r2 := IntWalk.i64_in _ (by omega)
  have F0 := Lib.hid (And.intro F0 x0)
  have F1 := Lib.hid (And.intro F1 x1)
  have F2 := Lib.hid (And.intro F2 x2)
  have HRR := Lib.hid (And.intro hr0 (And.intro hr1 hr2))
  clear m7 g7 hw7 hlt6 hbg hfb hbn hr0 hr1 hr2 x0 x1 x2 hb
  refine R6.wp_walk (C := PutC w7 b 28 (oneB 15 [.int .i64 f.len, .int .i64 f.e0, .int .i64 f.e1, .int .i64 f.c0, .int .i64 f.c1, .int .i64 f.s0, .int .i64 f.s1, .slice (some ⟨g, 0, none⟩) f.hs.length c] [.int .i64 f.len, .int .i64 f.e0, .int .i64 (f.e1 + r0), .int .i64 (f.c0), .int .i64 f.c1, .int .i64 (f.s0), .int .i64 f.s1, .slice (some ⟨g, 0, none⟩) f.hs.length c])) 225 (by kernel_rfl) (by kernel_rfl) rfl (PutC.start (F := oneB 15 [.int .i64 f.len, .int .i64 f.e0, .int .i64 f.e1, .int .i64 f.c0, .int .i64 f.c1, .int .i64 f.s0, .int .i64 f.s1, .slice (some ⟨g, 0, none⟩) f.hs.length c] [.int .i64 f.len, .int .i64 f.e0, .int .i64 (f.e1 + r0), .int .i64 (f.c0), .int .i64 f.c1, .int .i64 (f.s0), .int .i64 f.s1, .slice (some ⟨g, 0, none⟩) f.hs.length c]) (by rw [oneB_off rfl]; exact H7.out.m)) ?_
  simp only []
  iterate 15
    (refine' R6.WalkR.det (fun _ => rfl) (fun D ρ W hK hC => ?_) ?_
     rotate_left
     · have hW := H7.out.bel.trans (hC.bel.mono HBG.out.1)
       have f0 := (HCF.out W hW).1
       try (have hq : D 15 = false := hK.post 15 (needs_edge (by decide +kernel)); have ho := hC.own; rw [oneB_off hq] at ho; have f1 := fun i => cell_of_row W b i _ _ _ ho; clear hq ho)
       obtain ⟨⟨k1, k2, k3, k4, k5, k6, k7, k8⟩, k9⟩ := F0.out
       have HC := Lib.hid (And.intro hC hW)
       clear hC hK hW
       go_simp
       first
         | with_reducible exact ⟨rfl, HC.out.1.move (oneB_move rfl)⟩
         | (go_at_call 40; (with_reducible refine (HAT.out 0 (by omega) W HC.out.2).mono ?_); rintro e W1 ⟨rfl, rfl⟩; exact ⟨_, rfl, rfl, HC.out.1.move (oneB_move rfl)⟩)
     simp only [Act.put, List.setIfInBounds_toArray, List.set_cons_succ, List.set_cons_zero])
  refine' R6.WalkR.det (c := undef) (fun _ => rfl) (fun D ρ W hK hC => ?_) ?_
  · have hq : D 15 = false := hK.me
    have ho := hC.own
    rw [oneB_off hq] at ho
    refine gives_store_one 3 (.tmp 56) (.tmp 54) (o := 2) rfl rfl rfl ho (Nat.le_of_ble_eq_true rfl) infoI9 ?_
    intro W' hP hM
    exact ⟨rfl, hC.put hP hM (by rw [oneB_me]; rfl)⟩
  simp only [Act.put, List.setIfInBounds_toArray, List.set_cons_succ, List.set_cons_zero]
  refine R6.WalkR.nil (fun D ρ W hD hC => ?_)
  obtain ⟨w8, hwn⟩ : ∃ wn, W = wn := ⟨_, rfl⟩
  rw [hwn] at hC ⊢
  have ho := hC.own
  rw [oneB_on (hD 15 (by decide))] at ho
  have H8 := Lib.hid (H7.out.putB HBG.out.1 HBG.out.2.2 hC.bel hC.oth ho)
  clear hC hD hwn ho
  clear D ρ W
  go_wp2
  refine R6.wp_walk (C := PutC w8 b 28 (oneB 14 [.int .i64 f.len, .int .i64 f.e0, .int .i64 (f.e1 + r0), .int .i64 (f.c0), .int .i64 f.c1, .int .i64 (f.s0), .int .i64 f.s1, .slice (some ⟨g, 0, none⟩) f.hs.length c] [.int .i64 f.len, .int .i64 f.e0, .int .i64 (f.e1 + r0), .int .i64 (f.c0 - r1), .int .i64 f.c1, .int .i64 (f.s0), .int .i64 f.s1, .slice (some ⟨g, 0, none⟩) f.hs.length c])) 225 (by kernel_rfl) (by kernel_rfl) rfl (PutC.start (F := oneB 14 [.int .i64 f.len, .int .i64 f.e0, .int .i64 (f.e1 + r0), .int .i64 (f.c0), .int .i64 f.c1, .int .i64 (f.s0), .int .i64 f.s1, .slice (some ⟨g, 0, none⟩) f.hs.length c] [.int .i64 f.len, .int .i64 f.e0, .int .i64 (f.e1 + r0), .int .i64 (f.c0 - r1), .int .i64 f.c1, .int .i64 (f.s0), .int .i64 f.s1, .slice (some ⟨g, 0, none⟩) f.hs.length c]) (by rw [oneB_off rfl]; exact H8.out.m)) ?_
  simp only []
  iterate 14
    (refine' R6.WalkR.det (fun _ => rfl) (fun D ρ W hK hC => ?_) ?_
     rotate_left
     · have hW := H8.out.bel.trans (hC.bel.mono HBG.out.1)
       have f0 := (HCF.out W hW).1
       try (have hq : D 14 = false := hK.post 14 (needs_edge (by decide +kernel)); have ho := hC.own; rw [oneB_off hq] at ho; have f1 := fun i => cell_of_row W b i _ _ _ ho; clear hq ho)
       obtain ⟨⟨k1, k2, k3, k4, k5, k6, k7, k8⟩, k9⟩ := F1.out
       have HC := Lib.hid (And.intro hC hW)
       clear hC hK hW
       go_simp
       first
         | with_reducible exact ⟨rfl, HC.out.1.move (oneB_move rfl)⟩
         | (go_at_call 40; (with_reducible refine (HAT.out 1 (by omega) W HC.out.2).mono ?_); rintro e W1 ⟨rfl, rfl⟩; exact ⟨_, rfl, rfl, HC.out.1.move (oneB_move rfl)⟩)
     simp only [Act.put, List.setIfInBounds_toArray, List.set_cons_succ, List.set_cons_zero])
  refine' R6.WalkR.det (c := undef) (fun _ => rfl) (fun D ρ W hK hC => ?_) ?_
  · have hq : D 14 = false := hK.me
    have ho := hC.own
    rw [oneB_off hq] at ho
    refine gives_store_one 3 (.tmp 70) (.tmp 68) (o := 3) rfl rfl rfl ho (Nat.le_of_ble_eq_true rfl) infoI9 ?_
    intro W' hP hM
    exact ⟨rfl, hC.put hP hM (by rw [oneB_me]; rfl)⟩
  simp only [Act.put, List.setIfInBounds_toArray, List.set_cons_succ, List.set_cons_zero]
  refine R6.WalkR.nil (fun D ρ W hD hC => ?_)
  obtain ⟨w9, hwn⟩ : ∃ wn, W = wn := ⟨_, rfl⟩
  rw [hwn] at hC ⊢
  have ho := hC.own
  rw [oneB_on (hD 14 (by decide))] at ho
  have H9 := Lib.hid (H8.out.putB HBG.out.1 HBG.out.2.2 hC.bel hC.oth ho)
  clear hC hD hwn ho
  clear D ρ W
  go_wp2
  refine R6.wp_walk (C := PutC w9 b 28 (oneB 15 [.int .i64 f.len, .int .i64 f.e0, .int .i64 (f.e1 + r0), .int .i64 (f.c0 - r1), .int .i64 f.c1, .int .i64 (f.s0), .int .i64 f.s1, .slice (some ⟨g, 0, none⟩) f.hs.length c] [.int .i64 f.len, .int .i64 f.e0, .int .i64 (f.e1 + r0), .int .i64 (f.c0 - r1), .int .i64 f.c1, .int .i64 (f.s0 - r2), .int .i64 f.s1, .slice (some ⟨g, 0, none⟩) f.hs.length c])) 225 (by kernel_rfl) (by kernel_rfl) rfl (PutC.start (F := oneB 15 [.int .i64 f.len, .int .i64 f.e0, .int .i64 (f.e1 + r0), .int .i64 (f.c0 - r1), .int .i64 f.c1, .int .i64 (f.s0), .int .i64 f.s1, .slice (some ⟨g, 0, none⟩) f.hs.length c] [.int .i64 f.len, .int .i64 f.e0, .int .i64 (f.e1 + r0), .int .i64 (f.c0 - r1), .int .i64 f.c1, .int .i64 (f.s0 - r2), .int .i64 f.s1, .slice (some ⟨g, 0, none⟩) f.hs.length c]) (by rw [oneB_off rfl]; exact H9.out.m)) ?_
  simp only []
  iterate 15
    (refine' R6.WalkR.det (fun _ => rfl) (fun D ρ W hK hC => ?_) ?_
     rotate_left
     · have hW := H9.out.bel.trans (hC.bel.mono HBG.out.1)
       have f0 := (HCF.out W hW).1
       try (have hq : D 15 = false := hK.post 15 (needs_edge (by decide +kernel)); have ho := hC.own; rw [oneB_off hq] at ho; have f1 := fun i => cell_of_row W b i _ _ _ ho; clear hq ho)
       obtain ⟨⟨k1, k2, k3, k4, k5, k6, k7, k8⟩, k9⟩ := F2.out
       have HC := Lib.hid (And.intro hC hW)
       clear hC hK hW
       go_simp
       first
         | with_reducible exact ⟨rfl, HC.out.1.move (oneB_move rfl)⟩
         | (go_at_call 40; (with_reducible refine (HAT.out 2 (by omega) W HC.out.2).mono ?_); rintro e W1 ⟨rfl, rfl⟩; exact ⟨_, rfl, rfl, HC.out.1.move (oneB_move rfl)⟩)
     simp only [Act.put, List.setIfInBounds_toArray, List.set_cons_succ, List.set_cons_zero])
  refine' R6.WalkR.det (c := undef) (fun _ => rfl) (fun D ρ W hK hC => ?_) ?_
  · have hq : D 15 = false := hK.me
    have ho := hC.own
    rw [oneB_off hq] at ho
    refine gives_store_one 3 (.tmp 85) (.tmp 83) (o := 5) rfl rfl rfl ho (Nat.le_of_ble_eq_true rfl) infoI9 ?_
    intro W' hP hM
    exact ⟨rfl, hC.put hP hM (by rw [oneB_me]; rfl)⟩
  simp only [Act.put, List.setIfInBounds_toArray, List.set_cons_succ, List.set_cons_zero]
  refine R6.WalkR.nil (fun D ρ W hD hC => ?_)
  obtain ⟨w10, hwn⟩ : ∃ wn, W = wn := ⟨_, rfl⟩
  rw [hwn] at hC ⊢
  have ho := hC.own
  rw [oneB_on (hD 15 (by decide))] at ho
  have H10 := Lib.hid (H9.out.putB HBG.out.1 HBG.out.2.2 hC.bel hC.oth ho)
  clear hC hD hwn ho
  clear D ρ W
  have hc10 := fun i => cell_of_row w10 b i _ _ _ H10.out.m
  go_wp2
  clear hc10
  go_loopg [89] f.hs.length (fun gg s89 wx => ∃ k : Nat, k + gg = f.hs.length ∧ s89 = .int .i64 k ∧ Hid (WdS w1 b g [.int .i64 f.len, .int .i64 f.e0, .int .i64 (f.e1 + r0), .int .i64 (f.c0 - r1), .int .i64 f.c1, .int .i64 (f.s0 - r2), .int .i64 f.s1, .slice (some ⟨g, 0, none⟩) f.hs.length c] (mapK (widH us) k f.hs) tl wx))
  case atStart => exact ⟨0, by omega, rfl, Lib.hid (by rw [mapK_zero]; exact H10.out)⟩
  case round =>
    obtain ⟨k, hkg, rfl, HBr⟩ := hrel
    cases gk with
    | zero =>
      obtain rfl : k = f.hs.length := by omega
      have hok2 := wid_ok HOK.out.1 us (some ⟨g, 0, none⟩) c
      have hwl : (widF f us (some ⟨g, 0, none⟩) c).hs.length = f.hs.length := by simp [widF]
      have hpw := fun W (hz' : FuAt W W.heap.size (widF f us (some ⟨g, 0, none⟩) c)) => plays_any (widF f us (some ⟨g, 0, none⟩) c) (by rw [hwl]; exact hl) n HOK.out.2.2.2.1 (o0, o1) W.heap.size W (Nat.le_refl _) hz'
      have e1 : plaE (widF f us (some ⟨g, 0, none⟩) c) n (o0, o1) = 0 := by simp [plaE, hok2, hwl, HOK.out.2.2.1, HOK.out.2.2.2.2.1]
      have e2 : plaV (widF f us (some ⟨g, 0, none⟩) c) n (o0, o1) = knoF (airF (widF f us (some ⟨g, 0, none⟩) c) n) (o0, o1) ((widF f us (some ⟨g, 0, none⟩) c).s0, (widF f us (some ⟨g, 0, none⟩) c).s1) := by simp [plaV, hok2, hwl, HOK.out.2.2.1, HOK.out.2.2.2.2.1]
      unfold PlaPost at hpw
      simp only [e1, e2] at hpw
      have hkw := HWK.out (some ⟨g, 0, none⟩) c
      generalize knoF (airF (widF f us (some ⟨g, 0, none⟩) c) n) (o0, o1) ((widF f us (some ⟨g, 0, none⟩) c).s0, (widF f us (some ⟨g, 0, none⟩) c).s1) = kw at hpw hkw
      have hpx := fun W (hW : Grows wr W) => hpw W (by
        have := OwnHo.vals (W := W) (g := g) (hs := f.hs.mapIdx (widH us)) (tl := tl) (by rw [← mapK_all]; exact (HBr.out.grows hW).o)
        exact this)
      unfold fuc widF at hpx
      simp only [List.length_mapIdx, HRR.out.1, HRR.out.2.1, HRR.out.2.2] at hpx
      have HPX := Lib.hid hpx
      have HKW := Lib.hid hkw
      clear hok2 hwl hpw e1 e2 hkw hpx
      obtain ⟨hd0, hd1⟩ := HCF.out wr HBr.out.bel
      have hdb := fun i => cell_of_row wr b i _ _ _ HBr.out.m
      go_upto_region 18 with (first
        | (go_at_call 22; (with_reducible refine (HP.out wr HBr.out.bel).mono ?_); rintro e w11 ⟨rfl, hB11⟩
           have H11 := Lib.hid (And.intro (HBr.out.grows hB11) hB11)
           obtain ⟨he0, he1⟩ := HCF.out w11 H11.out.1.bel
           have heb := fun i => cell_of_row w11 b i _ _ _ H11.out.1.m
           clear hB11 hd0 hd1 hdb)
        | (go_at_call 22; (with_reducible refine (HPX.out w11 H11.out.2).mono ?_); rintro e w12 ⟨rfl, hB12⟩
           have H12 := Lib.hid (H11.out.1.grows hB12)
           obtain ⟨hf0, hf1⟩ := HCF.out w12 H12.out.bel
           clear hB12 he0 he1 heb))
      go_cut [146] from 132 to 146 (fun s146 wx => s146 = .bool false ∧ wx = w12)
      case first =>
        rcases HKW.out with rfl | rfl
        · go_wp2_with fail
          go_meet
          exact ⟨rfl, rfl⟩
        · have hne : (kw != kw) = false := by simp
          by_cases h1 : kw = 1
          · have h1b : (kw != 1) = false := by simp [h1]
            have H1B := Lib.hid h1
            clear h1
            go_wp2_with fail
            go_meet
            exact ⟨rfl, rfl⟩
          · have h1b : (kw != 1) = true := by simp [h1]
            have H1B := Lib.hid h1
            clear h1
            go_wp2_with fail
            go_meet
            exact ⟨rfl, rfl⟩
      case rest =>
        obtain ⟨rfl, hwc⟩ := hcut
        rw [hwc]
        clear hwc
        by_cases h0 : n = 0
        · have hnz : ((n : Int) == 0) = true := by simp [h0]
          have HN0 := Lib.hid h0
          clear h0
          go_wp2
          go_ret
          exact ⟨rfl, H1.out.trans (H12.out.bel.mono H1.out.size)⟩
        have hnz : ((n : Int) == 0) = false := by simp [h0]
        have HN0 := Lib.hid h0
        clear h0
        go_wp2_with (go_at_call 26; (with_reducible refine (HTW.out w12 H12.out.bel).mono ?_); rintro e w13 ⟨g2, c2, rfl, ⟨tl2, hO13⟩, hg13, hB13⟩; have H13 := Lib.hid (And.intro (H12.out.bel.trans (hB13.mono H12.out.bel.size)) (And.intro hO13 (Nat.le_trans H12.out.bel.size hg13))); clear hB13 hg13 hO13)
        obtain ⟨b2, hb2⟩ : ∃ b, b = w13.heap.size := ⟨_, rfl⟩
        obtain ⟨w14, hw14⟩ : ∃ w14, w13.alloc (.cells #[.int .i64 f.len, .int .i64 f.e0, .int .i64 f.e1, .int .i64 0, .int .i64 0, .int .i64 f.s0, .int .i64 f.s1, .slice (some ⟨g2, 0, none⟩) f.hs.length c2] 28) = w14 := ⟨_, rfl⟩
        have m14 : w14.heap[b2]? = some (.cells #[.int .i64 f.len, .int .i64 f.e0, .int .i64 f.e1, .int .i64 0, .int .i64 0, .int .i64 f.s0, .int .i64 f.s1, .slice (some ⟨g2, 0, none⟩) f.hs.length c2] 28 (0, 0)) := by rw [← hw14, hb2]; exact alloc_at0 _ _
        have g14 : Grows w13 w14 := by rw [← hw14]; exact grow1 _ _
        rw [hw14, ← hb2]
        have hlt13 := lt_of_heap H13.out.2.1
        have H14 := Lib.hid (WdS.mk (w0 := w1) (b := b2) (g := g2) (x := [.int .i64 f.len, .int .i64 f.e0, .int .i64 f.e1, .int .i64 0, .int .i64 0, .int .i64 f.s0, .int .i64 f.s1, .slice (some ⟨g2, 0, none⟩) f.hs.length c2]) (h := f.hs) (tl := tl2) (H13.out.1.trans (g14.mono H13.out.1.size)) m14 ((g14.block _ hlt13).trans H13.out.2.1))
        have hbg2 : w1.heap.size ≤ b2 ∧ w1.heap.size ≤ g2 ∧ b2 ≠ g2 := ⟨by rw [hb2]; exact H13.out.1.size, H13.out.2.2, fun e => by rw [← e, hb2] at hlt13; exact Nat.lt_irrefl _ hlt13⟩
        have HBG2 := Lib.hid hbg2
        obtain ⟨fi, hfi⟩ : ∃ i, i = tz8 n := ⟨_, rfl⟩
        have htl := tz8_lt HOK.out.2.2.2.1 HN0.out HOK.out.2.2.1
        obtain ⟨hz1, hz2, hz3⟩ := tz8_spec n HOK.out.2.2.2.1
        have hz2 := (hz2 HN0.out).2
        have hst := fun j (hj : j < tz8 n) => sam_tone HOK.out.1 (some ⟨g2, 0, none⟩) c2 HOK.out.2.2.1 HN0.out hj
        rw [← hfi] at htl hz2 hz3 hst
        have hl0 : 0 < f.hs.length := by omega
        have hl0z : (0 : Int) < f.hs.length := by omega
        obtain ⟨h0, hh0⟩ : ∃ h, f.hs[0]?.getD ⟨0, 0, 0⟩ = h := ⟨_, rfl⟩
        have hh1 : h0 = f.hs[0] := by rw [← hh0]; simp [hl0]
        have HST := Lib.hid (And.intro hst (And.intro hz2 (And.intro hz3 (And.intro hh1 hh0))))
        have HTL := Lib.hid (And.intro htl hl0)
        have hc14 := fun i => cell_of_row w14 b2 i _ _ _ H14.out.m
        clear m14 g14 hw14 hlt13 hbg2 hb2 hfi htl hz1 hz2 hz3 hst hh0 hh1 hf0 hf1
        go_wp2
        clear hc14
        go_loopg [19, 157] f.hs.length (fun gg s19 s157 wx => ∃ k : Nat, k + gg = f.hs.length ∧ s19 = .int .i64 (fstK fi k) ∧ s157 = .int .i64 k ∧ Hid (WdS w1 b2 g2 [.int .i64 f.len, .int .i64 f.e0, .int .i64 f.e1, .int .i64 0, .int .i64 0, .int .i64 f.s0, .int .i64 f.s1, .slice (some ⟨g2, 0, none⟩) f.hs.length c2] (mapK (samH h0) k f.hs) tl2 wx))
        case atStart => exact ⟨0, by omega, by rw [fstK_le (Nat.zero_le _)], rfl, Lib.hid (by rw [mapK_zero]; exact H14.out)⟩
        case round =>
          obtain ⟨k, hkg, hs19, rfl, HBs⟩ := hrel
          cases gk with
          | zero =>
            obtain rfl : k = f.hs.length := by omega
            rw [fstK_gt HTL.out.1] at hs19
            obtain rfl := hs19
            by_cases hf0 : fi = 0
            · subst hf0
              go_wp2
              go_ret
              exact ⟨rfl, H1.out.trans (HBs.out.bel.mono H1.out.size)⟩
            have hfd : decide ((fi : Int) ≤ 0) = false := decide_eq_false (by omega)
            have hfi0 : fi ≠ 0 := hf0
            obtain ⟨j, hj⟩ : ∃ j, j = q % fi := ⟨_, rfl⟩
            have hjl : j < fi := by rw [hj]; exact Nat.mod_lt _ (by omega)
            obtain ⟨hml, hx0, hx1⟩ := HST.out.1 j hjl
            have hso := sam_ok HOK.out.1 HTL.out.2 (some ⟨g2, 0, none⟩) c2
            have hsl : (samF f (some ⟨g2, 0, none⟩) c2).hs.length = f.hs.length := by simp [samF]
            have hto := fun m (hm : m < 2 ^ f.hs.length) (h256 : m < 256) W (hz' : FuAt W W.heap.size (samF f (some ⟨g2, 0, none⟩) c2)) => tone_any9 (samF f (some ⟨g2, 0, none⟩) c2) (by rw [hsl]; exact hl) m h256 W.heap.size W (Nat.le_refl _) hz'
            have e1 : ∀ m, m < 2 ^ f.hs.length → tonE (samF f (some ⟨g2, 0, none⟩) c2) m = 0 := fun m hm => by simp [tonE, hso, hsl, hm]
            have e2 : ∀ m, m < 2 ^ f.hs.length → tonV (samF f (some ⟨g2, 0, none⟩) c2) m = tonF (samF f (some ⟨g2, 0, none⟩) c2) m := fun m hm => by simp [tonV, hso, hsl, hm]
            unfold TonePost at hto
            have hN8 : 2 ^ f.hs.length ≤ 256 := Nat.pow_le_pow_right (n := 2) (by omega) HOK.out.2.1
            have ht1 := hto n HOK.out.2.2.1 HOK.out.2.2.2.1
            have ht2 := hto (n ||| 2 ^ j) hml (by omega)
            rw [e1 n HOK.out.2.2.1, e2 n HOK.out.2.2.1] at ht1
            rw [e1 _ hml, e2 _ hml] at ht2
            obtain ⟨p0, hp0⟩ : ∃ p, (tonF (samF f (some ⟨g2, 0, none⟩) c2) n).1 = p := ⟨_, rfl⟩
            obtain ⟨p1, hp1⟩ : ∃ p, (tonF (samF f (some ⟨g2, 0, none⟩) c2) n).2 = p := ⟨_, rfl⟩
            obtain ⟨q0, hq0⟩ : ∃ p, (tonF (samF f (some ⟨g2, 0, none⟩) c2) (n ||| 2 ^ j)).1 = p := ⟨_, rfl⟩
            obtain ⟨q1, hq1⟩ : ∃ p, (tonF (samF f (some ⟨g2, 0, none⟩) c2) (n ||| 2 ^ j)).2 = p := ⟨_, rfl⟩
            rw [hp0, hq0] at hx0
            rw [hp1, hq1] at hx1
            rw [hp0, hp1] at ht1
            rw [hq0, hq1] at ht2
            have hv := fun W (hW : Grows wr W) => (show FuAt W W.heap.size (samF f (some ⟨g2, 0, none⟩) c2) by
              have := OwnHo.vals (W := W) (g := g2) (hs := f.hs.mapIdx (samH (f.hs[0]?.getD ⟨0, 0, 0⟩))) (tl := tl2) (by rw [HST.out.2.2.2.2, ← mapK_all]; exact (HBs.out.grows hW).o)
              exact this)
            have hu1 := fun W (hW : Grows wr W) => ht1 W (hv W hW)
            have hu2 := fun W (hW : Grows wr W) => ht2 W (hv W hW)
            unfold fuc samF at hu1 hu2
            simp only [List.length_mapIdx] at hu1 hu2
            have HU1 := Lib.hid hu1
            have HU2 := Lib.hid hu2
            have hd5 : decide (p0 ≤ q0) = true := decide_eq_true hx0
            have hd6 : decide (p1 ≤ q1) = true := decide_eq_true hx1
            have hj8 : j < 8 := by have := HTL.out.1; have := HOK.out.2.1; omega
            have hor : bits .or .u8 (n : Int) ((2 ^ j : Nat) : Int) = ((n ||| 2 ^ j : Nat) : Int) := bits_or8 n (2 ^ j) HOK.out.2.2.2.1 (Nat.lt_of_lt_of_le (Nat.pow_lt_pow_right (by omega) hj8) (Nat.le_refl (2 ^ 8)))
            have hjm : (q : Int).tmod (fi : Int) = (j : Int) := by rw [Int.tmod_eq_emod_of_nonneg (by omega), hj]; simp
            have HOR := Lib.hid (And.intro hor (And.intro hj8 hjm))
            have hdb := fun i => cell_of_row wr b2 i _ _ _ HBs.out.m
            clear hso hsl hto e1 e2 hN8 ht1 ht2 hp0 hp1 hq0 hq1 hx0 hx1 hv hu1 hu2 hor hjm hj hml hjl hf0
            have hfz : ¬ (fi : Int) = 0 := by omega
            have hf8 : (fi : Int) ≤ 7 := by have := HTL.out.1; have := HOK.out.2.1; omega
            have hqz : (q : Int) ≤ 255 := by omega
            go_wp2_with (go_at_call 21; (with_reducible refine (HU1.out wr (Grows.refl _)).mono ?_); rintro e w15 ⟨rfl, hB15⟩; have H15 := Lib.hid (And.intro hB15 (HBs.out.grows hB15)); clear hB15 hdb)
            obtain ⟨w16, hw16⟩ : ∃ w16, w15.alloc (.cells #[.int .i64 p0, .int .i64 p1] 25) = w16 := ⟨_, rfl⟩
            have g16 : Grows w15 w16 := by rw [← hw16]; exact grow1 _ _
            have m16 : w16.heap[w15.heap.size]? = some (.cells #[.int .i64 p0, .int .i64 p1] 25 (0, 0)) := by rw [← hw16]; exact alloc_at0 _ _
            rw [hw16]
            have H16 := Lib.hid (And.intro (H15.out.1.trans (g16.mono H15.out.1.size)) (And.intro (H15.out.2.grows g16) m16))
            clear g16 m16 hw16
            refine R6.wp_walk (C := BxC w16 25 [.int .i64 0, .int .i64 0] [.int .i64 q0, .int .i64 q1] 12 23 13) 225 (by kernel_rfl) (by kernel_rfl) rfl (BxC.start (fun k => by simp)) ?_
            simp only []
            iterate 8
              (refine' R6.WalkR.det (fun _ => rfl) (fun D ρ W hK hC => ?_) ?_
               rotate_left
               · have f1 := fun i => cell_of_row W b2 i _ _ _ ((hC.bel.block _ (lt_of_heap H16.out.2.1.m)).trans H16.out.2.1.m)
                 have hjm := HOR.out.2.2
                 have hj7 : (j : Int) ≤ 7 := by have := HOR.out.2.1; omega
                 have hqw : IntKind.i64.wrap (q : Int) = q := IntWalk.i64_in _ (by omega)
                 have HC := Lib.hid hC
                 clear hC hK
                 go_simp
                 with_reducible exact ⟨rfl, HC.out.move rfl rfl⟩
               simp only [Act.put, List.setIfInBounds_toArray, List.set_cons_succ, List.set_cons_zero])
            refine' R6.WalkR.det (fun _ => rfl) (fun D ρ W hK hC => ?_) ?_
            rotate_left
            · have HC := Lib.hid hC
              clear hC hK
              go_simp
              go_at_call 21
              rw [pow_u8 HOR.out.2.1, HOR.out.1]
              (with_reducible refine (HU2.out W (H16.out.1.trans (HC.out.bel.mono H16.out.1.size))).mono ?_)
              rintro e W1 ⟨rfl, hB1⟩
              exact ⟨_, rfl, rfl, (HC.out.next hB1).move rfl rfl⟩
            simp only [Act.put, List.setIfInBounds_toArray, List.set_cons_succ, List.set_cons_zero]
            iterate 3
              (refine' R6.WalkR.det (fun _ => rfl) (fun D ρ W hK hC => ?_) ?_
               rotate_left
               · have HC := Lib.hid hC
                 clear hC hK
                 go_simp
                 with_reducible exact ⟨rfl, HC.out.move rfl rfl⟩
               simp only [Act.put, List.setIfInBounds_toArray, List.set_cons_succ, List.set_cons_zero])
            refine' R6.WalkR.nd (fun _ => rfl) rfl (fun D ρ W hK hC => ?_) ?_
            · have hq2 : D 13 = false := hK.post 13 (needs_edge (by decide +kernel))
              have HC := Lib.hid (And.intro hC hq2)
              clear hC hK hq2
              go_simp
              exact HC.out.1.alloc rfl HC.out.2
            simp only [Act.put, List.setIfInBounds_toArray, List.set_cons_succ, List.set_cons_zero]
            refine' R6.WalkR.det (c := undef) (fun _ => rfl) (fun D ρ W hK hC => ?_) ?_
            · have hq2 : D 13 = false := hK.me
              have hq3 : D 12 = true := hK.pre 12 (needs_edge (by decide +kernel))
              obtain ⟨b3, e3, hb3, hm3⟩ := hC.box hq3
              rw [oneB_off hq2] at hm3
              refine gives_store_blk 25 (.tmp 23) (.tmp 200) rfl (by first | exact e3) (cs := [.int .i64 q0, .int .i64 q1]) rfl hm3 (Nat.le_refl 2) (by intro v hv; simp only [List.mem_cons, List.not_mem_nil, or_false] at hv; rcases hv with rfl | rfl <;> rfl) rowSpan ?_
              intro W' hP hM
              exact ⟨rfl, hC.store hq3 hb3 e3 hP hM⟩
            simp only [Act.put, List.setIfInBounds_toArray, List.set_cons_succ, List.set_cons_zero]
            refine' R6.WalkR.det (fun _ => rfl) (fun D ρ W hK hC => ?_) ?_
            rotate_left
            · have HC := Lib.hid hC
              clear hC hK
              go_simp
              with_reducible exact ⟨rfl, HC.out.move rfl rfl⟩
            simp only [Act.put, List.setIfInBounds_toArray, List.set_cons_succ, List.set_cons_zero]
            refine R6.WalkR.nil (fun D ρ W hD hC => ?_)
            obtain ⟨b3, e3, hb3, hm3⟩ := hC.box (hD 12 (by decide))
            rw [oneB_on (hD 13 (by decide))] at hm3
            rw [e3]
            have hg7 := fun i => cell_of_row W b3 i _ _ _ hm3
            have hg8 := fun i => cell_of_row W w15.heap.size i _ _ _ ((hC.bel.block _ (lt_of_heap H16.out.2.2)).trans H16.out.2.2)
            have H17 := Lib.hid (H1.out.trans ((H16.out.2.1.bel.trans (hC.bel.mono H16.out.2.1.bel.size)).mono H1.out.size))
            clear hC hD e3 hb3 hm3
            go_wp2
            go_ret
            exact ⟨rfl, H17.out⟩
          | succ gg =>
            obtain rfl := hs19
            have hk : k < f.hs.length := by omega
            have hkz : (k : Int) < f.hs.length := by omega
            have hkz7 : (k : Int) ≤ 7 := by omega
            go_wp2
            refine R6.wp_walk (C := PutC wr g2 38 (oneB 10 ((mapK (samH h0) k f.hs).flatMap hoc ++ tl2) ((mapK (samH h0) (k + 1) f.hs).flatMap hoc ++ tl2))) 225 (by kernel_rfl) (by kernel_rfl) rfl (PutC.start (F := oneB 10 ((mapK (samH h0) k f.hs).flatMap hoc ++ tl2) ((mapK (samH h0) (k + 1) f.hs).flatMap hoc ++ tl2)) (by rw [oneB_off rfl]; exact HBs.out.o)) ?_
            simp only []
            iterate 7
              (refine' R6.WalkR.det (fun _ => rfl) (fun D ρ W hK hC => ?_) ?_
               rotate_left
               · have f1 := fun i => cell_of_row W b2 i _ _ _ ((hC.oth _ HBG2.out.2.2).trans HBs.out.m)
                 have HC := Lib.hid hC
                 clear hC hK
                 go_simp
                 with_reducible exact ⟨rfl, HC.out.move (oneB_move rfl)⟩
               simp only [Act.put, List.setIfInBounds_toArray, List.set_cons_succ, List.set_cons_zero])
            refine' R6.WalkR.det (fun _ => rfl) (fun D ρ W hK hC => ?_) ?_
            rotate_left
            · have hq : D 10 = false := hK.post 10 (needs_edge (by decide +kernel))
              have ho := hC.own
              rw [oneB_off hq] at ho
              exact gives_load_at 25 (.tmp 166) rfl (by simp [Act.eval]) [.int .i64 h0.lo, .int .i64 h0.hi] (fun j v hv => (cell_of_row W g2 (1 + j) _ _ _ ho).trans ((List.getElem?_toArray).trans (mapK_first HTL.out.2 HST.out.2.2.2.1 j v hv))) rowSpan ⟨rfl, hC.move (oneB_move rfl)⟩
            simp only [Act.put, List.setIfInBounds_toArray, List.set_cons_succ, List.set_cons_zero]
            iterate 2
              (refine' R6.WalkR.det (fun _ => rfl) (fun D ρ W hK hC => ?_) ?_
               rotate_left
               · have HC := Lib.hid hC
                 clear hC hK
                 go_simp
                 with_reducible exact ⟨rfl, HC.out.move (oneB_move rfl)⟩
               simp only [Act.put, List.setIfInBounds_toArray, List.set_cons_succ, List.set_cons_zero])
            refine' R6.WalkR.det (c := undef) (fun _ => rfl) (fun D ρ W hK hC => ?_) ?_
            · have hq : D 10 = false := hK.me
              have ho := hC.own
              rw [oneB_off hq] at ho
              refine gives_store_blk 25 (.tmp 169) (.tmp 167) rfl (b := g2) (o := k * 3 + 1) rfl (cs := [.int .i64 h0.lo, .int .i64 h0.hi]) rfl ho (by rw [List.length_append, flat_len hoc_len, mapK_len]; simp; omega) (by intro v hv; simp only [List.mem_cons, List.not_mem_nil, or_false] at hv; rcases hv with rfl | rfl <;> rfl) rowSpan ?_
              intro W' hP hM
              exact ⟨rfl, hC.put hP hM (by rw [oneB_me]; exact mapK_splice hk _ _ rfl)⟩
            simp only [Act.put, List.setIfInBounds_toArray, List.set_cons_succ, List.set_cons_zero]
            refine R6.WalkR.nil (fun D ρ W hD hC => ?_)
            have ho := hC.own
            rw [oneB_on (hD 10 (by decide))] at ho
            have H15 := Lib.hid (HBs.out.putG HBG2.out.2.1 HBG2.out.2.2 hC.bel hC.oth ho)
            clear hC hD ho
            have hba := bit_and9 HOK.out.2.2.2.1 (show k < 8 by have := HOK.out.2.1; omega)
            rcases Nat.lt_trichotomy k fi with hlt | heq | hgt
            · have e1 := fstK_le (fi := fi) (k := k) (by omega)
              have e2 := fstK_le (fi := fi) (k := k + 1) (by omega)
              rw [HST.out.2.2.1 k hlt] at hba
              simp only [Bool.false_eq_true, if_false] at hba
              have hd : decide (fstK fi k < 0) = true := decide_eq_true (by omega)
              have HE := Lib.hid (And.intro e1 e2)
              clear e1 e2 hlt
              go_wp2
              go_roundg gg
              case measure => omega
              case rel => exact ⟨k + 1, by omega, by rw [HE.out.1, HE.out.2], by go_num, H15⟩
            · subst heq
              have e1 := fstK_le (fi := k) (k := k) (Nat.le_refl _)
              have e2 := fstK_gt (fi := k) (k := k + 1) (by omega)
              rw [HST.out.2.1] at hba
              simp only [if_true] at hba
              have hd : decide (fstK k k < 0) = true := decide_eq_true (by omega)
              have HE := Lib.hid (And.intro e1 e2)
              clear e1 e2
              go_wp2
              go_roundg gg
              case measure => omega
              case rel => exact ⟨k + 1, by omega, by rw [HE.out.2], by go_num, H15⟩
            · have e1 := fstK_gt (fi := fi) (k := k) hgt
              have e2 := fstK_gt (fi := fi) (k := k + 1) (by omega)
              have hd : decide (fstK fi k < 0) = false := decide_eq_false (by omega)
              have HE := Lib.hid (And.intro e1 e2)
              clear e1 e2 hgt hba
              go_wp2
              go_roundg gg
              case measure => omega
              case rel => exact ⟨k + 1, by omega, by rw [HE.out.1, HE.out.2], by go_num, H15⟩
    | succ gg =>
      have hk : k < f.hs.length := by omega
      have hkz : (k : Int) < f.hs.length := by omega
      have hkz7 : (k : Int) ≤ 7 := by omega
      go_wp2
      obtain ⟨c', off, hA, hcB, hcy⟩ := vals_elem hoc_len HZ1.out.1 (by decide) hk
      obtain ⟨y, hye⟩ : ∃ y, y = f.hs[k] := ⟨_, rfl⟩
      have hyb := (HOK.out.2.2.2.2.2).2.2.2.2.2 _ (List.getElem_mem hk)
      have hcl := fun j (hj : j < 3) => mapK_cell (g := widH us) (tl := tl) hk hj
      rw [← hye] at hcy hyb hcl
      have hy := fun (W : World) (hW : Below w1.heap.size w1 W) => (Below.cell hW (p := ⟨c', off + k * 3 + 2, none⟩) (Nat.lt_of_lt_of_le hcB HZ1.out.2)).trans (hcy 2 _ rfl)
      obtain ⟨rk, hrk⟩ : ∃ r, remL (atL us k) (60 - y.hi) = r := ⟨_, rfl⟩
      have FK := rem_facts (a := atL us k) (m := 60 - y.hi) (HAB.out k) (by omega)
      rw [hrk] at FK
      have xk : IntKind.i64.wrap (y.hi + rk) = y.hi + rk := IntWalk.i64_in _ (by omega)
      have FK := Lib.hid (And.intro FK xk)
      have HY := Lib.hid hy
      have HA := Lib.hid hA
      have HCL := Lib.hid hcl
      have HYE := Lib.hid (And.intro hye hrk)
      clear hcy hy hA hye hrk xk hyb hcl
      refine R6.wp_walk (C := PutC wr g 38 (oneB 25 ((mapK (widH us) k f.hs).flatMap hoc ++ tl) ((mapK (widH us) (k + 1) f.hs).flatMap hoc ++ tl))) 225 (by kernel_rfl) (by kernel_rfl) rfl (PutC.start (F := oneB 25 ((mapK (widH us) k f.hs).flatMap hoc ++ tl) ((mapK (widH us) (k + 1) f.hs).flatMap hoc ++ tl)) (by rw [oneB_off rfl]; exact HBr.out.o)) ?_
      simp only []
      iterate 25
        (refine' R6.WalkR.det (fun _ => rfl) (fun D ρ W hK hC => ?_) ?_
         rotate_left
         · have hW := HBr.out.bel.trans (hC.bel.mono HBG.out.2.1)
           have f0 := (HCF.out W hW).1
           have f1 := fun i => cell_of_row W b i _ _ _ ((hC.oth _ HBG.out.2.2).trans HBr.out.m)
           try (have hq : D 25 = false := hK.post 25 (needs_edge (by decide +kernel)); have ho := hC.own; rw [oneB_off hq] at ho; have f2 : W.cell? ⟨g, k * 3 + 2, none⟩ = some (.int .i64 y.hi) := (cell_of_row W g (k * 3 + 2) _ _ _ ho).trans ((List.getElem?_toArray).trans (HCL.out 2 (by decide))); clear hq ho)
           have f3 := HY.out W hW
           have hA := HA.out
           obtain ⟨⟨k1, k2, k3, k4, k5, k6, k7, k8⟩, k9⟩ := FK.out
           have HC := Lib.hid (And.intro hC hW)
           clear hC hK hW
           go_simp
           first
             | with_reducible exact ⟨rfl, HC.out.1.move (oneB_move rfl)⟩
             | (go_at_call 40; (with_reducible refine (HAT.out (k : Int) (by omega) W HC.out.2).mono ?_); rintro e W1 ⟨rfl, rfl⟩; exact ⟨_, rfl, rfl, HC.out.1.move (oneB_move rfl)⟩)
         simp only [Act.put, List.setIfInBounds_toArray, List.set_cons_succ, List.set_cons_zero])
      refine' R6.WalkR.det (c := undef) (fun _ => rfl) (fun D ρ W hK hC => ?_) ?_
      · have hq : D 25 = false := hK.me
        have ho := hC.own
        rw [oneB_off hq] at ho
        refine gives_store_one 3 (.tmp 116) (.tmp 113) (o := k * 3 + 2) rfl rfl rfl ho (by rw [List.length_append, flat_len hoc_len, mapK_len]; omega) infoI9 ?_
        intro W' hP hM
        exact ⟨rfl, hC.put hP hM (by rw [oneB_me]; exact mapK_set hk (by decide) _ (by rw [← HYE.out.1]; unfold widH; rw [HYE.out.2]; rfl))⟩
      simp only [Act.put, List.setIfInBounds_toArray, List.set_cons_succ, List.set_cons_zero]
      refine R6.WalkR.nil (fun D ρ W hD hC => ?_)
      have ho := hC.own
      rw [oneB_on (hD 25 (by decide))] at ho
      have H13 := Lib.hid (HBr.out.putG HBG.out.2.1 HBG.out.2.2 hC.bel hC.oth ho)
      clear hC hD ho
      go_wp2
      go_roundg gg
      case measure => omega
      case rel => exact ⟨k + 1, by omega, by go_num, H13⟩

end Go.Proofs.Ytjjipkgconmfcaa

namespace Go.Proofs.Ytjjipkgconmfcaa
open Go.RowKit Go.Maps

attribute [local go_sem] gives

set_option maxRecDepth 100000 in
set_option maxHeartbeats 4000000 in
theorem fluteWider_law (f : Fu) (n0 : Nat) (hn0 : n0 < 256) (o0 o1 : Int) (A : Option Addr) (cap : Nat) (us : List Int) (q : Nat) (hq : q < 256) (B : Nat) (w : World) (hB : B ≤ w.heap.size) (hz : FuAt w B f) (hby : ByAt w B A us) :
    Calls Try.prog 10 #[.agg (fuc f).toArray, .int .u8 (n0 : Int), .agg #[.int .i64 o0, .int .i64 o1], .slice A us.length cap, .int .u8 (q : Int)] w fun e w' => e = .returned (.bool true) ∧ Below w.heap.size w w' := by
  by_cases h12 : f.hs.length ≤ 12
  · exact fluteWider_some f (by omega) n0 hn0 o0 o1 A cap us q hq B w hB hz hby
  clear hz hB hby
  obtain ⟨w1, hw1⟩ : ∃ w1, (w.alloc (.cells (fuc f).toArray 28)).alloc (.cells #[.int .i64 o0, .int .i64 o1] 25) = w1 := ⟨_, rfl⟩
  have hb1 : Below w.heap.size w w1 := by rw [← hw1]; exact ((Below.refl _ _).alloc (Nat.le_refl _) _).alloc (by simp) _
  have m0 : w1.heap[w.heap.size]? = some (.cells (fuc f).toArray 28 (0, 0)) := by rw [← hw1]; exact alloc2_at0 _ _ _
  have HAL := Lib.hid (fun W => alive_any W)
  have HRD := Lib.hid (fun W => ready9_big f h12 W)
  have hcf := fun (W : World) (hW : Below w1.heap.size w1 W) i => cell_of_row W w.heap.size i _ _ _ ((hW.block _ (lt_of_heap m0)).trans m0)
  have H1 := Lib.hid hb1
  clear hb1 m0 h12
  unfold fuc at hw1 hcf HRD ⊢
  have HCF := Lib.hid hcf
  clear hcf
  go_enter Try.func10, Try.ntmps10
  go_wp2_with (first
    | (go_at_call 13; refine (HAL.out _).mono ?_; rintro e w2 ⟨rfl, hB2⟩; have hc2 := HCF.out w2 hB2; have H2 := Lib.hid hB2; clear hB2)
    | (go_at_call 32; refine (HRD.out w2).mono ?_; rintro e w3 ⟨rfl, hB3⟩; have H3 := Lib.hid (H2.out.trans (hB3.mono H2.out.size)); clear hB3))
  go_ret
  exact ⟨rfl, H1.out.trans (H3.out.mono H1.out.size)⟩

end Go.Proofs.Ytjjipkgconmfcaa

namespace Go.Proofs.Ytjjipkgconmfcaa
open Go.ChangeShapes Go.WideShapes Go.ChangeAt Go.RowKit Go.Deep

section
variable {H : Type} {enc : TypeId × Value → H} {P : Program} {w : World} {base : Nat} {spare : Nat → Bool} {held : Bool}
theorem trodAll_five {t t' t'' t3 t4 : TypeId} {args : Array Value} {ds : List (DataW H)} {ps : List MemPlace} (h : DataW.TrodAll enc P w base spare held [t, t', t'', t3, t4] args.toList ds ps) :
    ∃ v v' v'' v3 v4 d d' d'' d3 d4 p p' p'' p3 p4, args = #[v, v', v'', v3, v4] ∧ ds = [d, d', d'', d3, d4] ∧ ps = p ++ p' ++ p'' ++ p3 ++ p4 ∧ DataW.Trod enc P w base spare held t v d p ∧ DataW.Trod enc P w base spare held t' v' d' p' ∧ DataW.Trod enc P w base spare held t'' v'' d'' p'' ∧ DataW.Trod enc P w base spare held t3 v3 d3 p3 ∧ DataW.Trod enc P w base spare held t4 v4 d4 p4 := by
  obtain ⟨v, vs, d, ds', p, q, hargs, rfl, rfl, hd, hrest⟩ := trodAll_cons h
  obtain ⟨v', vs', d', ds'', p', q', rfl, rfl, rfl, hd', hrest'⟩ := trodAll_cons hrest
  obtain ⟨v'', vs'', d'', ds''', p'', q'', rfl, rfl, rfl, hd'', hrest''⟩ := trodAll_cons hrest'
  obtain ⟨v3, vs3, d3, ds3, p3, q3, rfl, rfl, rfl, hd3, hrest3⟩ := trodAll_cons hrest''
  obtain ⟨v4, vs4, d4, ds4, p4, q4, rfl, rfl, rfl, hd4, hrest4⟩ := trodAll_cons hrest3
  obtain ⟨rfl, rfl, rfl⟩ := trodAll_nil hrest4
  exact ⟨v, v', v'', v3, v4, d, d', d'', d3, d4, p, p', p'', p3, p4, by cases args; simp_all, rfl, by simp, hd, hd', hd'', hd3, hd4⟩
theorem trodAll_mk5 {t t' t'' t3 t4 : TypeId} {v v' v'' v3 v4 : Value} {d d' d'' d3 d4 : DataW H} {p p' p'' p3 p4 : List MemPlace} (h : DataW.Trod enc P w base spare held t v d p) (h' : DataW.Trod enc P w base spare held t' v' d' p')
    (h'' : DataW.Trod enc P w base spare held t'' v'' d'' p'') (h3 : DataW.Trod enc P w base spare held t3 v3 d3 p3) (h4 : DataW.Trod enc P w base spare held t4 v4 d4 p4) : DataW.TrodAll enc P w base spare held [t, t', t'', t3, t4] [v, v', v'', v3, v4] [d, d', d'', d3, d4] (p ++ (p' ++ (p'' ++ (p3 ++ p4)))) := ⟨p, p' ++ (p'' ++ (p3 ++ p4)), h, trodAll_mk4 h' h'' h3 h4, rfl⟩
end

end Go.Proofs.Ytjjipkgconmfcaa
