/-
  Texts laid together: FvN.
-/
import Derived.Deep.DeepCutAuto
import Derived.Test.YtjjipkgconmfcaaQT91
set_option linter.all false
namespace Go.Proofs.Ytjjipkgconmfcaa
open Go.RowKit Go.Maps
open R6 (done done_ne done_me upd_ne upd_me)

attribute [local go_sem] gives

set_option maxRecDepth 100000 in
set_option maxHeartbeats 16000000 in
theorem fluteTrue_some (f : Fu) (hl : f.hs.length ≤ 1000000) (n0 : Nat) (hn0 : n0 < 256) (o0 o1 : Int) (A : Option Addr) (cap : Nat) (us : List Int) (B : Nat) (w : World) (hB : B ≤ w.heap.size) (hz : FuAt w B f) (hby : ByAt w B A us) :
    Calls Try.prog 6 #[.agg (fuc f).toArray, .int .u8 (n0 : Int), .agg #[.int .i64 o0, .int .i64 o1], .slice A us.length cap] w fun e w' => e = .returned (.bool true) ∧ Below w.heap.size w w' := by
  obtain ⟨w1, hw1⟩ : ∃ w1, (w.alloc (.cells (fuc f).toArray 28)).alloc (.cells #[.int .i64 o0, .int .i64 o1] 25) = w1 := ⟨_, rfl⟩
  have hb1 : Below w.heap.size w w1 := by rw [← hw1]; exact ((Below.refl _ _).alloc (Nat.le_refl _) _).alloc (by simp) _
  have m0 : w1.heap[w.heap.size]? = some (.cells (fuc f).toArray 28 (0, 0)) := by rw [← hw1]; exact alloc2_at0 _ _ _
  have m1 : w1.heap[w.heap.size + 1]? = some (.cells #[.int .i64 o0, .int .i64 o1] 25 (0, 0)) := by rw [← hw1]; exact alloc2_at1 _ _ _
  have hz1 := hz.below (hb1.mono hB)
  have hby1 := hby.below (hb1.mono hB)
  have hB1 := Nat.le_trans hB hb1.size
  have HAL := Lib.hid (fun W => alive_any W)
  have hrd := fun W (hW : Below w1.heap.size w1 W) => ready9_any f hl B W (Nat.le_trans hB1 hW.size) (hz1.below (hW.mono hB1))
  have HNO := Lib.hid (fun W => rfNote_any o0 o1 W)
  have hno : okNo (o0, o1) = okS o0 o1 1 10000000 := rfl
  have htn := fun n (h256 : n < 256) W (hW : Below w1.heap.size w1 W) => tone_any9 f hl n h256 B W (Nat.le_trans hB1 hW.size) (hz1.below (hW.mono hB1))
  have hpl := fun n (h256 : n < 256) W (hW : Below w1.heap.size w1 W) => plays_any f hl n h256 (o0, o1) B W (Nat.le_trans hB1 hW.size) (hz1.below (hW.mono hB1))
  have hso := fun (hok : okFu f = true) n (hn : n < 2 ^ f.hs.length) W (hW : Below w1.heap.size w1 W) => sound_any f hok n hn A cap us B W (Nat.le_trans hB1 hW.size) (hz1.below (hW.mono hB1)) (hby1.below (hW.mono hB1))
  have htw := fun W (hW : Below w1.heap.size w1 W) => rfTwin_own f hl B W (Nat.le_trans hB1 hW.size) (hz1.below (hW.mono hB1))
  unfold TonePost at htn
  unfold PlaPost at hpl
  unfold TwinOwn at htw
  have hte : okFu f = true → ∀ n, n < 2 ^ f.hs.length → tonE f n = 0 ∧ tonV f n = tonF f n := fun h1 n h3 => ⟨by simp [tonE, h1, h3], by simp [tonV, h1, h3]⟩
  have hpe : okFu f = true → okNo (o0, o1) = true → ∀ n, n < 2 ^ f.hs.length → plaE f n (o0, o1) = 0 ∧ plaV f n (o0, o1) = knoF (airF f n) (o0, o1) (f.s0, f.s1) := fun h1 h2 n h3 => ⟨by simp [plaE, h1, h2, h3], by simp [plaV, h1, h2, h3]⟩
  have hcf := fun (W : World) (hW : Below w1.heap.size w1 W) => And.intro (fun i => cell_of_row W w.heap.size i _ _ _ ((hW.block _ (lt_of_heap m0)).trans m0)) (fun i => cell_of_row W (w.heap.size + 1) i _ _ _ ((hW.block _ (lt_of_heap m1)).trans m1))
  have hfg := fun (h8 : f.hs.length ≤ 8) n (hn : n < 256) W => fingered_any f h8 n hn W
  have hm0 := fun (W : World) (hW : Below w1.heap.size w1 W) => And.intro ((hW.block _ (lt_of_heap m0)).trans m0) ((hW.block _ (lt_of_heap m1)).trans m1)
  have H1 := Lib.hid hb1
  have HZ1 := Lib.hid (And.intro hz1 hB1)
  have HLT := Lib.hid (And.intro (lt_of_heap m0) (lt_of_heap m1))
  clear hz hb1 m0 m1 hz1 hby1 hby
  unfold fuc at hw1 hcf hrd htn hpl hso hfg htw hm0 ⊢
  have HCF := Lib.hid hcf
  have HM0 := Lib.hid hm0
  clear hcf hm0
  have hrk := fun (h : rdyF f = true) => rdy_ok h
  generalize rdyF f = v1 at hrd hrk
  have HRD := Lib.hid hrd
  clear hrd
  rw [← hno] at HNO
  cases v1
  · clear hrk htn hpl hso htw hte hpe hfg hno
    go_enter Try.func6, Try.ntmps6
    go_wp2_with (first
      | (go_at_call 13; refine (HAL.out _).mono ?_; rintro e w2 ⟨rfl, hB2⟩; obtain ⟨hc2, hc3⟩ := HCF.out w2 hB2; have H2 := Lib.hid hB2; clear hB2)
      | (go_at_call 32; refine (HRD.out w2 H2.out).mono ?_; rintro e w3 ⟨rfl, hB3⟩; have H3 := Lib.hid (H2.out.trans (hB3.mono H2.out.size)); clear hB3))
    go_ret
    exact ⟨rfl, H1.out.trans (H3.out.mono H1.out.size)⟩
  have hok := hrk rfl
  cases hnv : okNo (o0, o1)
  · rw [hnv] at HNO
    clear hrk htn hpl hso htw hte hpe hfg hno hok hnv
    go_enter Try.func6, Try.ntmps6
    go_wp2_with (first
      | (go_at_call 13; refine (HAL.out _).mono ?_; rintro e w2 ⟨rfl, hB2⟩; obtain ⟨hc2, hc3⟩ := HCF.out w2 hB2; have H2 := Lib.hid hB2; clear hB2)
      | (go_at_call 32; refine (HRD.out w2 H2.out).mono ?_; rintro e w3 ⟨rfl, hB3⟩; obtain ⟨hc4, hc5⟩ := HCF.out w3 (H2.out.trans (hB3.mono H2.out.size)); have H3 := Lib.hid (H2.out.trans (hB3.mono H2.out.size)); clear hB3 hc2 hc3)
      | (go_at_call 33; refine (HNO.out w3).mono ?_; rintro e w4 ⟨rfl, hB4⟩; have H4 := Lib.hid (H3.out.trans (hB4.mono H3.out.size)); clear hB4))
    go_ret
    exact ⟨rfl, H1.out.trans (H4.out.mono H1.out.size)⟩
  rw [hnv] at HNO
  have hlen8 := (okFu_bnd hok).2.2.2.2.1
  have hfgn := hfg hlen8 n0 hn0
  have hN8 : 2 ^ f.hs.length ≤ 256 := Nat.pow_le_pow_right (n := 2) (by omega) hlen8
  have hnlt : n0 % 2 ^ f.hs.length < 2 ^ f.hs.length := Nat.mod_lt _ (Nat.pow_pos (by omega))
  obtain ⟨n, hn⟩ : ∃ n, n = n0 % 2 ^ f.hs.length := ⟨_, rfl⟩
  rw [← hn] at hfgn hnlt
  have hn256 : n < 256 := by omega
  have hlz : (f.hs.length : Int) ≤ 8 := by omega
  have HT := htn n hn256
  rw [(hte hok n hnlt).1, (hte hok n hnlt).2] at HT
  have HP := hpl n hn256
  rw [(hpe hok hnv n hnlt).1, (hpe hok hnv n hnlt).2] at HP
  have HS := hso hok n hnlt
  have hk := kno_so hok us hnlt (o0, o1)
  have hi := soF_in hok us hnlt
  have hends := fun A' c' => so_ends hok A' c' [] hnlt
  have hlow := fun A' c' => low_ok hok A' c'
  have hsl := fun (g : Fu) (hg : okFu g = true) (he : g.hs.length = f.hs.length) W (hz' : FuAt W W.heap.size g) => sound_any g hg n (by rw [he]; exact hnlt) none 0 [] W.heap.size W (Nat.le_refl _) hz' ⟨fun h => by simp [u32s] at h, fun k hk => absurd hk (by simp), by simp⟩
  clear hrk htn hpl hso hte hpe hfg hno hnv hN8 hn
  generalize knoF (airF f n) (o0, o1) (f.s0, f.s1) = kv at HP hk
  generalize soF f us n = is at HS hk hi
  obtain ⟨t0, ht0⟩ : ∃ t0, (tonF f n).1 = t0 := ⟨_, rfl⟩
  obtain ⟨t1, ht1⟩ : ∃ t1, (tonF f n).2 = t1 := ⟨_, rfl⟩
  rw [ht0, ht1] at HT hi
  simp only [ht0, ht1] at hends
  clear ht0 ht1
  have HT := Lib.hid HT
  have HP := Lib.hid HP
  have HS := Lib.hid HS
  have HFN := Lib.hid hfgn
  have HTW := Lib.hid htw
  have HEN := Lib.hid (And.intro hends (And.intro hlow hsl))
  dsimp only at hk
  obtain ⟨inb, hinb⟩ : ∃ b, (decide (o0 ≤ is) && decide (is ≤ o1)) = b := ⟨_, rfl⟩
  have hkb : kv = 2 → inb = true := fun h => by rw [← hinb, decide_eq_true (hk.2.1 h).1, decide_eq_true (hk.2.1 h).2]; rfl
  have hkc : kv = 0 → inb = false := fun h => by
    rw [← hinb]
    by_cases h0 : o0 ≤ is
    · rw [decide_eq_false (fun h1 => hk.2.2 h ⟨h0, h1⟩), Bool.and_false]
    · rw [decide_eq_false h0, Bool.false_and]
  have HKV := Lib.hid (And.intro hk.1 (And.intro hkb (And.intro hkc hinb)))
  have hd1 : decide (is < t0) = false := decide_eq_false (by omega)
  have hd2 : decide (t1 < is) = false := decide_eq_false (by omega)
  have hd3 : decide (2 < kv) = false := decide_eq_false (by omega)
  have HOK := Lib.hid (And.intro hok (And.intro hlen8 (And.intro hnlt hn256)))
  clear hfgn htw hends hlow hsl hk hkb hkc hinb hi hok hnlt hn256
  go_enter Try.func6, Try.ntmps6
  go_upto_region 12 with (first
    | (go_at_call 13; refine (HAL.out _).mono ?_; rintro e w2 ⟨rfl, hB2⟩; obtain ⟨hc2, hc3⟩ := HCF.out w2 hB2; have H2 := Lib.hid hB2; clear hB2)
    | (go_at_call 32; refine (HRD.out w2 H2.out).mono ?_; rintro e w3 ⟨rfl, hB3⟩; obtain ⟨hc4, hc5⟩ := HCF.out w3 (H2.out.trans (hB3.mono H2.out.size)); have H3 := Lib.hid (H2.out.trans (hB3.mono H2.out.size)); clear hB3 hc2 hc3)
    | (go_at_call 33; refine (HNO.out w3).mono ?_; rintro e w4 ⟨rfl, hB4⟩; obtain ⟨hc6, hc7⟩ := HCF.out w4 (H3.out.trans (hB4.mono H3.out.size)); have H4 := Lib.hid (H3.out.trans (hB4.mono H3.out.size)); clear hB4 hc4 hc5)
    | (go_at_call 34; (with_reducible refine (HFN.out w4).mono ?_); rintro e w5 ⟨rfl, hB5⟩; obtain ⟨hc8, hc9⟩ := HCF.out w5 (H4.out.trans (hB5.mono H4.out.size)); have H5 := Lib.hid (H4.out.trans (hB5.mono H4.out.size)); clear hB5 hc6 hc7)
    | (go_at_call 21; (with_reducible refine (HT.out w5 H5.out).mono ?_); rintro e w6 ⟨rfl, hB6⟩; obtain ⟨hd6, hd7⟩ := HCF.out w6 (H5.out.trans (hB6.mono H5.out.size)); have H6 := Lib.hid (H5.out.trans (hB6.mono H5.out.size)); have hl6 : w.heap.size < w6.heap.size := Nat.lt_of_lt_of_le HLT.out.1 H6.out.size; have hl7 : w.heap.size + 1 < w6.heap.size := Nat.lt_of_lt_of_le HLT.out.2 H6.out.size; clear hB6 hc8 hc9)
    | (go_at_call 22
       refine (HP.out _ (H6.out.alloc H6.out.size (.cells #[.int .i64 t0, .int .i64 t1] 25))).mono ?_
       rintro e w7 ⟨rfl, hB7⟩
       have m7 : w7.heap[w6.heap.size]? = _ := (hB7.block _ (by simp)).trans (alloc_at0 w6 (.cells #[.int .i64 t0, .int .i64 t1] 25))
       have hc7 := fun i => cell_of_row w7 w6.heap.size i _ _ _ m7
       have H7 := Lib.hid (And.intro ((H6.out.alloc H6.out.size (.cells #[.int .i64 t0, .int .i64 t1] 25)).trans (hB7.mono (by have := H6.out.size; simp; omega))) m7)
       obtain ⟨hc8, hc9⟩ := HCF.out w7 H7.out.1
       clear hB7 m7 hd6 hd7)
    | (go_at_call 35
       (with_reducible refine (HS.out w7 H7.out.1).mono ?_)
       rintro e w8 ⟨rfl, hB8⟩
       have m8 := (hB8.block _ (lt_of_heap H7.out.2)).trans H7.out.2
       have he7 := fun i => cell_of_row w8 w6.heap.size i _ _ _ m8
       have H8 := Lib.hid (And.intro (H7.out.1.trans (hB8.mono H7.out.1.size)) m8)
       obtain ⟨he8, he9⟩ := HCF.out w8 H8.out.1
       have H8b := Lib.hid (HM0.out w8 H8.out.1)
       clear hB8 m8 hc7 hc8 hc9))
  go_cut [15] from 73 to 82 (fun s15 wx => s15 = .bool inb ∧ wx = w8)
  case first =>
    have hin := HKV.out.2.2.2
    by_cases h0 : o0 ≤ is
    · have e0 : decide (o0 ≤ is) = true := decide_eq_true h0
      by_cases h1 : is ≤ o1
      · have e1 : decide (is ≤ o1) = true := decide_eq_true h1
        rw [e0, e1] at hin
        have HIN := Lib.hid hin
        clear hin
        go_wp2_with fail
        go_meet
        exact ⟨by rw [← HIN.out]; rfl, rfl⟩
      · have e1 : decide (is ≤ o1) = false := decide_eq_false h1
        rw [e0, e1] at hin
        have HIN := Lib.hid hin
        clear hin
        go_wp2_with fail
        go_meet
        exact ⟨by rw [← HIN.out]; rfl, rfl⟩
    · have e0 : decide (o0 ≤ is) = false := decide_eq_false h0
      rw [e0, Bool.false_and] at hin
      have HIN := Lib.hid hin
      clear hin
      go_wp2_with fail
      go_meet
      exact ⟨by rw [← HIN.out], rfl⟩
  case rest =>
    obtain ⟨rfl, hwc⟩ := hcut
    rw [hwc]
    clear hwc
    go_upto_region 13 with fail
    go_cut [95] from 83 to 95 (fun s95 wx => s95 = .bool false ∧ wx = w8)
    case first =>
      have hkv := HKV.out.1
      have hkb := HKV.out.2.1
      have hkc := HKV.out.2.2.1
      rcases hkv with rfl | rfl | rfl
      · obtain rfl := hkc rfl
        clear hkb hkc
        go_wp2_with fail
        go_meet
        exact ⟨rfl, rfl⟩
      · clear hkb hkc
        cases inb
        all_goals
          go_wp2_with fail
          go_meet
          exact ⟨rfl, rfl⟩
      · obtain rfl := hkb rfl
        clear hkb hkc
        go_wp2_with fail
        go_meet
        exact ⟨rfl, rfl⟩
    case rest =>
      obtain ⟨rfl, hwc⟩ := hcut
      rw [hwc]
      clear hwc
      go_wp2
      refine R6.wp_walk (C := TwC w8 f) 180 (by kernel_rfl) (by kernel_rfl) rfl (TwC.start (fun k => by simp)) ?_
      simp only []
      refine' R6.WalkR.det (fun _ => rfl) (fun D ρ W hK hC => ?_) ?_
      rotate_left
      · have f0 := (HCF.out W (H8.out.1.trans (hC.bel.mono H8.out.1.size))).1
        have HC := Lib.hid hC
        clear hC hK
        go_simp
        with_reducible exact ⟨rfl, HC.out.move rfl rfl⟩
      simp only [Act.put, List.setIfInBounds_toArray, List.set_cons_succ, List.set_cons_zero]
      refine' R6.WalkR.nd (fun _ => rfl) rfl (fun D ρ W hK hC => ?_) ?_
      · have h6 : D 6 = false := hK.post 6 (needs_edge (by decide +kernel))
        have hW := H8.out.1.trans (hC.bel.mono H8.out.1.size)
        have HC := Lib.hid (And.intro hC (And.intro h6 hW))
        clear hC hK h6 hW
        go_simp
        go_at_call 26
        (with_reducible refine (HTW.out W HC.out.2.2).mono ?_)
        rintro e W1 ⟨g, c, rfl, ⟨tl, hO⟩, hg, hB1⟩
        exact ⟨_, rfl, HC.out.1.call1 hB1 ⟨c, tl, rfl, Nat.le_trans HC.out.1.bel.size hg, hO⟩ hg HC.out.2.1⟩
      simp only [Act.put, List.setIfInBounds_toArray, List.set_cons_succ, List.set_cons_zero]
      refine' R6.WalkR.det (fun _ => rfl) (fun D ρ W hK hC => ?_) ?_
      rotate_left
      · have f0 := (HCF.out W (H8.out.1.trans (hC.bel.mono H8.out.1.size))).1
        have HC := Lib.hid hC
        clear hC hK
        go_simp
        with_reducible exact ⟨rfl, HC.out.move rfl rfl⟩
      simp only [Act.put, List.setIfInBounds_toArray, List.set_cons_succ, List.set_cons_zero]
      refine' R6.WalkR.nd (fun _ => rfl) rfl (fun D ρ W hK hC => ?_) ?_
      · have h7 : D 7 = false := hK.post 7 (needs_edge (by decide +kernel))
        have hW := H8.out.1.trans (hC.bel.mono H8.out.1.size)
        have HC := Lib.hid (And.intro hC (And.intro h7 hW))
        clear hC hK h7 hW
        go_simp
        go_at_call 26
        (with_reducible refine (HTW.out W HC.out.2.2).mono ?_)
        rintro e W1 ⟨g, c, rfl, ⟨tl, hO⟩, hg, hB1⟩
        exact ⟨_, rfl, HC.out.1.call3 hB1 ⟨c, tl, rfl, Nat.le_trans HC.out.1.bel.size hg, hO⟩ hg HC.out.2.1⟩
      simp only [Act.put, List.setIfInBounds_toArray, List.set_cons_succ, List.set_cons_zero]
      refine' R6.WalkR.nd (fun _ => rfl) rfl (fun D ρ W hK hC => ?_) ?_
      · have h6 : D 6 = false := hK.post 6 (needs_edge (by decide +kernel))
        have HC := Lib.hid (And.intro hC h6)
        clear hC hK h6
        go_simp
        exact HC.out.1.box4 HC.out.2
      simp only [Act.put, List.setIfInBounds_toArray, List.set_cons_succ, List.set_cons_zero]
      refine' R6.WalkR.nd (fun _ => rfl) rfl (fun D ρ W hK hC => ?_) ?_
      · have h7 : D 7 = false := hK.post 7 (needs_edge (by decide +kernel))
        have HC := Lib.hid (And.intro hC h7)
        clear hC hK h7
        go_simp
        exact HC.out.1.box5 HC.out.2
      simp only [Act.put, List.setIfInBounds_toArray, List.set_cons_succ, List.set_cons_zero]
      refine' R6.WalkR.det (c := undef) (fun _ => rfl) (fun D ρ W hK hC => ?_) ?_
      · have h4 : D 4 = true := hK.pre 4 (needs_edge (by decide +kernel))
        have h1 : D 1 = true := hK.pre 1 (needs_edge (by decide +kernel))
        have h7 : D 7 = false := hK.post 7 (needs_edge (by decide +kernel))
        obtain ⟨e4, b4, cs, hl4, h14, hx4, ho4⟩ := hC.a4 h4
        obtain ⟨c1, tl1, e1, b1, hO1⟩ := hC.t1 h1
        refine gives_store_blk 28 (.tmp 16) (.tmp 97) rfl (by first | exact e4) (cs := fuc (fuAt' f (some ⟨twb (ρ 97), 0, none⟩) c1)) e1 ho4 (by rw [hl4]; exact Nat.le_refl 8) (by simp [fuc, Value.oneCell']) rowFlute ?_
        intro W' hP hM
        rw [splice_all (by rw [hl4, fuc_len])] at hM
        exact ⟨rfl, hC.put6 h4 h7 hP rfl (by simp [fuc, Value.oneCell']) e1 hM⟩
      simp only [Act.put, List.setIfInBounds_toArray, List.set_cons_succ, List.set_cons_zero]
      refine' R6.WalkR.det (c := undef) (fun _ => rfl) (fun D ρ W hK hC => ?_) ?_
      · have h5 : D 5 = true := hK.pre 5 (needs_edge (by decide +kernel))
        have h3 : D 3 = true := hK.pre 3 (needs_edge (by decide +kernel))
        have h7 : D 7 = false := hK.me
        obtain ⟨e5, b5, cs, hl5, h15, hx5, ho5⟩ := hC.a5 h5
        obtain ⟨c3, tl3, e3, b3, hO3⟩ := hC.t3 h3
        refine gives_store_blk 28 (.tmp 17) (.tmp 99) rfl (by first | exact e5) (cs := fuc (fuAt' f (some ⟨twb (ρ 99), 0, none⟩) c3)) e3 ho5 (by rw [hl5]; exact Nat.le_refl 8) (by simp [fuc, Value.oneCell']) rowFlute ?_
        intro W' hP hM
        rw [splice_all (by rw [hl5, fuc_len])] at hM
        exact ⟨rfl, hC.put7 h5 hP rfl (by simp [fuc, Value.oneCell']) e3 hM⟩
      simp only [Act.put, List.setIfInBounds_toArray, List.set_cons_succ, List.set_cons_zero]
      refine R6.WalkR.nil (fun D ρ W hD hC => ?_)
      obtain ⟨c1, tl1, e1, g1b, hO1⟩ := hC.t1 (hD 1 (by decide))
      obtain ⟨c3, tl3, e3, g3b, hO3⟩ := hC.t3 (hD 3 (by decide))
      obtain ⟨e4, b4, cs4, hl4, -, hx4, ho4⟩ := hC.a4 (hD 4 (by decide))
      obtain ⟨e5, b5, cs5, hl5, -, hx5, ho5⟩ := hC.a5 (hD 5 (by decide))
      have hn1 := hC.n1 (hD 1 (by decide)) (hD 3 (by decide))
      have hn2 := hC.n2 (hD 4 (by decide)) (hD 5 (by decide))
      have hb := hC.bel
      rw [hD 6 (by decide), if_pos rfl, e1] at hx4
      rw [hD 7 (by decide), if_pos rfl, e3] at hx5
      obtain rfl : fuc (fuAt' f (some ⟨twb (ρ 97), 0, none⟩) c1) = cs4 := by simpa using hx4
      obtain rfl : fuc (fuAt' f (some ⟨twb (ρ 99), 0, none⟩) c3) = cs5 := by simpa using hx5
      clear hx4 hx5 hl4 hl5 hC hD
      rw [e1, e3, e4, e5]
      clear e1 e3 e4 e5
      generalize twb (ρ 97) = g1 at *
      generalize twb (ρ 99) = g3 at *
      generalize ptb (ρ 16) = b6 at *
      generalize ptb (ρ 17) = b7 at *
      clear D ρ
      obtain ⟨w9, hw9⟩ : ∃ w9, W = w9 := ⟨_, rfl⟩
      rw [hw9] at hO1 hO3 ho4 ho5 hb ⊢
      clear hw9
      clear W
      have hT : Tw2 w8 b6 b7 g1 g3 (fuc (fuAt' f (some ⟨g1, 0, none⟩) c1)) (fuc (fuAt' f (some ⟨g3, 0, none⟩) c3)) f.hs tl1 f.hs tl3 w9 := ⟨hb, ho4, ho5, hO1, hO3⟩
      have hN : NeB w8 b6 b7 g1 g3 := ⟨b4, b5, g1b, g3b, hn2, hn1, ne_types ho4 hO1, ne_types ho4 hO3, ne_types ho5 hO1, ne_types ho5 hO3⟩
      have HN := Lib.hid hN
      have H9 := Lib.hid hT
      have hw8 : w.heap.size < w8.heap.size ∧ w.heap.size + 1 < w8.heap.size := ⟨Nat.lt_of_lt_of_le HLT.out.1 H8.out.1.size, Nat.lt_of_lt_of_le HLT.out.2 H8.out.1.size⟩
      have HW8 := Lib.hid hw8
      have hfb := fun (W : World) (hW : Below w8.heap.size w8 W) => (hW.block _ HW8.out.1).trans (H8b.out.1)
      have HFB := Lib.hid hfb
      clear hb ho4 ho5 hO1 hO3 hn1 hn2 b4 b5 g1b g3b hT hN hw8 hfb he7 he8 he9
      have hsp : w.heap.size ≠ b6 ∧ w.heap.size ≠ b7 := ⟨by have := HN.out.a6; have := HW8.out.1; omega, by have := HN.out.a7; have := HW8.out.1; omega⟩
      have HSP := Lib.hid hsp
      clear hsp
      go_wp2
      refine R6.wp_walk (C := PutC w9 b6 28 (lowB f g1 c1)) 180 (by kernel_rfl) (by kernel_rfl) rfl (PutC.start H9.out.m6) ?_
      simp only []
      iterate 11
        (refine' R6.WalkR.det (fun _ => rfl) (fun D ρ W hK hC => ?_) ?_
         rotate_left
         · have f0 := fun i => cell_of_row W w.heap.size i _ _ _ ((hC.oth w.heap.size HSP.out.1).trans (HFB.out w9 H9.out.bel))
           have HC := Lib.hid hC
           clear hC hK
           go_simp
           with_reducible exact ⟨rfl, HC.out.move (by simp [lowB, done])⟩
         simp only [Act.put, List.setIfInBounds_toArray, List.set_cons_succ, List.set_cons_zero])
      refine' R6.WalkR.det (c := undef) (fun _ => rfl) (fun D ρ W hK hC => ?_) ?_
      · refine gives_store_one 3 (.tmp 110) (.tmp 102) (o := 1) rfl rfl rfl hC.own (Nat.le_of_ble_eq_true rfl) infoI9 ?_
        intro W' hP hM
        exact ⟨rfl, hC.put hP hM (by simp [lowB, done])⟩
      simp only [Act.put, List.setIfInBounds_toArray, List.set_cons_succ, List.set_cons_zero]
      iterate 2
        (refine' R6.WalkR.det (fun _ => rfl) (fun D ρ W hK hC => ?_) ?_
         rotate_left
         · have f0 := fun i => cell_of_row W w.heap.size i _ _ _ ((hC.oth w.heap.size HSP.out.1).trans (HFB.out w9 H9.out.bel))
           have HC := Lib.hid hC
           clear hC hK
           go_simp
           with_reducible exact ⟨rfl, HC.out.move (by simp [lowB, done])⟩
         simp only [Act.put, List.setIfInBounds_toArray, List.set_cons_succ, List.set_cons_zero])
      refine' R6.WalkR.det (c := undef) (fun _ => rfl) (fun D ρ W hK hC => ?_) ?_
      · refine gives_store_one 3 (.tmp 112) (.tmp 105) (o := 3) rfl rfl rfl hC.own (Nat.le_of_ble_eq_true rfl) infoI9 ?_
        intro W' hP hM
        exact ⟨rfl, hC.put hP hM (by simp [lowB, done])⟩
      simp only [Act.put, List.setIfInBounds_toArray, List.set_cons_succ, List.set_cons_zero]
      iterate 2
        (refine' R6.WalkR.det (fun _ => rfl) (fun D ρ W hK hC => ?_) ?_
         rotate_left
         · have f0 := fun i => cell_of_row W w.heap.size i _ _ _ ((hC.oth w.heap.size HSP.out.1).trans (HFB.out w9 H9.out.bel))
           have HC := Lib.hid hC
           clear hC hK
           go_simp
           with_reducible exact ⟨rfl, HC.out.move (by simp [lowB, done])⟩
         simp only [Act.put, List.setIfInBounds_toArray, List.set_cons_succ, List.set_cons_zero])
      refine' R6.WalkR.det (c := undef) (fun _ => rfl) (fun D ρ W hK hC => ?_) ?_
      · refine gives_store_one 3 (.tmp 114) (.tmp 108) (o := 6) rfl rfl rfl hC.own (Nat.le_of_ble_eq_true rfl) infoI9 ?_
        intro W' hP hM
        exact ⟨rfl, hC.put hP hM (by simp [lowB, done])⟩
      simp only [Act.put, List.setIfInBounds_toArray, List.set_cons_succ, List.set_cons_zero]
      refine R6.WalkR.nil (fun D ρ W hD hC => ?_)
      obtain ⟨w10, hw10⟩ : ∃ w10, W = w10 := ⟨_, rfl⟩
      rw [hw10] at hC ⊢
      have ho := hC.own
      unfold lowB at ho
      rw [hD 11 (by decide), hD 14 (by decide), hD 17 (by decide)] at ho
      have H10 := Lib.hid (H9.out.put6 HN.out hC.bel hC.oth ho)
      clear hC hD hw10 ho
      clear D ρ W
      go_wp2
      refine R6.wp_walk (C := PutC w10 b7 28 (highB f g3 c3)) 180 (by kernel_rfl) (by kernel_rfl) rfl (PutC.start H10.out.m7) ?_
      simp only []
      iterate 11
        (refine' R6.WalkR.det (fun _ => rfl) (fun D ρ W hK hC => ?_) ?_
         rotate_left
         · have f0 := fun i => cell_of_row W w.heap.size i _ _ _ ((hC.oth w.heap.size HSP.out.2).trans (HFB.out w10 H10.out.bel))
           have HC := Lib.hid hC
           clear hC hK
           go_simp
           with_reducible exact ⟨rfl, HC.out.move (by simp [highB, done])⟩
         simp only [Act.put, List.setIfInBounds_toArray, List.set_cons_succ, List.set_cons_zero])
      refine' R6.WalkR.det (c := undef) (fun _ => rfl) (fun D ρ W hK hC => ?_) ?_
      · refine gives_store_one 3 (.tmp 125) (.tmp 117) (o := 2) rfl rfl rfl hC.own (Nat.le_of_ble_eq_true rfl) infoI9 ?_
        intro W' hP hM
        exact ⟨rfl, hC.put hP hM (by simp [highB, done])⟩
      simp only [Act.put, List.setIfInBounds_toArray, List.set_cons_succ, List.set_cons_zero]
      iterate 2
        (refine' R6.WalkR.det (fun _ => rfl) (fun D ρ W hK hC => ?_) ?_
         rotate_left
         · have f0 := fun i => cell_of_row W w.heap.size i _ _ _ ((hC.oth w.heap.size HSP.out.2).trans (HFB.out w10 H10.out.bel))
           have HC := Lib.hid hC
           clear hC hK
           go_simp
           with_reducible exact ⟨rfl, HC.out.move (by simp [highB, done])⟩
         simp only [Act.put, List.setIfInBounds_toArray, List.set_cons_succ, List.set_cons_zero])
      refine' R6.WalkR.det (c := undef) (fun _ => rfl) (fun D ρ W hK hC => ?_) ?_
      · refine gives_store_one 3 (.tmp 127) (.tmp 120) (o := 4) rfl rfl rfl hC.own (Nat.le_of_ble_eq_true rfl) infoI9 ?_
        intro W' hP hM
        exact ⟨rfl, hC.put hP hM (by simp [highB, done])⟩
      simp only [Act.put, List.setIfInBounds_toArray, List.set_cons_succ, List.set_cons_zero]
      iterate 2
        (refine' R6.WalkR.det (fun _ => rfl) (fun D ρ W hK hC => ?_) ?_
         rotate_left
         · have f0 := fun i => cell_of_row W w.heap.size i _ _ _ ((hC.oth w.heap.size HSP.out.2).trans (HFB.out w10 H10.out.bel))
           have HC := Lib.hid hC
           clear hC hK
           go_simp
           with_reducible exact ⟨rfl, HC.out.move (by simp [highB, done])⟩
         simp only [Act.put, List.setIfInBounds_toArray, List.set_cons_succ, List.set_cons_zero])
      refine' R6.WalkR.det (c := undef) (fun _ => rfl) (fun D ρ W hK hC => ?_) ?_
      · refine gives_store_one 3 (.tmp 129) (.tmp 123) (o := 5) rfl rfl rfl hC.own (Nat.le_of_ble_eq_true rfl) infoI9 ?_
        intro W' hP hM
        exact ⟨rfl, hC.put hP hM (by simp [highB, done])⟩
      simp only [Act.put, List.setIfInBounds_toArray, List.set_cons_succ, List.set_cons_zero]
      refine R6.WalkR.nil (fun D ρ W hD hC => ?_)
      obtain ⟨w11, hw11⟩ : ∃ w11, W = w11 := ⟨_, rfl⟩
      rw [hw11] at hC ⊢
      have ho := hC.own
      unfold highB at ho
      rw [hD 11 (by decide), hD 14 (by decide), hD 17 (by decide)] at ho
      have H11 := Lib.hid (H10.out.put7 HN.out hC.bel hC.oth ho)
      clear hC hD hw11 ho
      clear D ρ W
      have hc11 := fun i => cell_of_row w11 w.heap.size i _ _ _ (HFB.out w11 H11.out.bel)
      go_wp2
      clear hc11
      go_loopg [133] f.hs.length (fun gg s133 wx => ∃ k : Nat, k + gg = f.hs.length ∧ s133 = .int .i64 k ∧ Hid (Tw2 w8 b6 b7 g1 g3 [.int .i64 f.len, .int .i64 f.e1, .int .i64 f.e1, .int .i64 f.c1, .int .i64 f.c1, .int .i64 f.s0, .int .i64 f.s0, .slice (some ⟨g1, 0, none⟩) f.hs.length c1] [.int .i64 f.len, .int .i64 f.e0, .int .i64 f.e0, .int .i64 f.c0, .int .i64 f.c0, .int .i64 f.s1, .int .i64 f.s1, .slice (some ⟨g3, 0, none⟩) f.hs.length c3] (mapK lowH k f.hs) tl1 (mapK highH k f.hs) tl3 wx))
      case atStart => exact ⟨0, by omega, rfl, Lib.hid (by rw [mapK_zero, mapK_zero]; exact H11.out)⟩
      case round =>
        obtain ⟨k, hkg, rfl, HBr⟩ := hrel
        have hcr := fun i => cell_of_row wr w.heap.size i _ _ _ (HFB.out wr HBr.out.bel)
        cases gk with
        | zero =>
          obtain rfl : k = f.hs.length := by omega
          have hends := HEN.out.1
          have h1 := HEN.out.2.2 (lowF f (some ⟨g1, 0, none⟩) c1) (HEN.out.2.1 _ _).1 (by simp [lowF])
          have h3 := HEN.out.2.2 (highF f (some ⟨g3, 0, none⟩) c3) (HEN.out.2.1 _ _).2 (by simp [highF])
          rw [(hends _ _).1] at h1
          rw [(hends _ _).2] at h3
          have hv := fun W (hW : Grows wr W) => And.intro (Lib.hid ((hW.block _ (lt_of_heap HBr.out.o1)).trans HBr.out.o1)) (Lib.hid ((hW.block _ (lt_of_heap HBr.out.o3)).trans HBr.out.o3))
          have hs1 := fun W (hW : Grows wr W) => h1 W (by
            have := OwnHo.vals (W := W) (g := g1) (hs := f.hs.mapIdx lowH) (tl := tl1) (by rw [← mapK_all]; exact (hv W hW).1.out)
            exact this)
          have hs3 := fun W (hW : Grows wr W) => h3 W (by
            have := OwnHo.vals (W := W) (g := g3) (hs := f.hs.mapIdx highH) (tl := tl3) (by rw [← mapK_all]; exact (hv W hW).2.out)
            exact this)
          unfold fuc lowF at hs1
          unfold fuc highF at hs3
          simp only [List.length_mapIdx, List.length_nil] at hs1 hs3
          have HS1 := Lib.hid hs1
          have HS3 := Lib.hid hs3
          have h7 := fun (W : World) (hW : Grows wr W) => (HBr.out.bel.trans (hW.mono HBr.out.bel.size)).block _ (lt_of_heap H8.out.2) |>.trans H8.out.2
          have H7c := Lib.hid h7
          clear hends h1 h3 hv hs1 hs3 h7
          go_wp2
          refine R6.wp_walk (C := fun _ _ W => Below wr.heap.size wr W) 180 (by kernel_rfl) (by kernel_rfl) rfl (Below.refl _ _).drew ?_
          simp only []
          repeat
            (refine' R6.WalkR.det (fun _ => rfl) (fun D ρ W hK hC => ?_) ?_
             rotate_left
             · have f1 := fun i => cell_of_row W b6 i _ _ _ ((hC.block _ (lt_of_heap HBr.out.m6)).trans HBr.out.m6)
               have f3 := fun i => cell_of_row W b7 i _ _ _ ((hC.block _ (lt_of_heap HBr.out.m7)).trans HBr.out.m7)
               have f7 := fun i => cell_of_row W w6.heap.size i _ _ _ (H7c.out W hC)
               have HC := Lib.hid hC
               clear hC hK
               go_simp
               first
                 | with_reducible exact ⟨rfl, HC.out⟩
                 | (go_at_call 35; (with_reducible refine (HS1.out W HC.out).mono ?_); rintro e W1 ⟨rfl, hB1⟩; exact ⟨_, rfl, rfl, HC.out.trans (hB1.mono HC.out.size)⟩)
                 | (go_at_call 35; (with_reducible refine (HS3.out W HC.out).mono ?_); rintro e W1 ⟨rfl, hB1⟩; exact ⟨_, rfl, rfl, HC.out.trans (hB1.mono HC.out.size)⟩)
             simp only [Act.put, List.setIfInBounds_toArray, List.set_cons_succ, List.set_cons_zero])
          refine R6.WalkR.nil (fun D ρ W hD hC => ?_)
          have H14 := Lib.hid (H1.out.trans (((H8.out.1.trans (HBr.out.bel.mono H8.out.1.size)).trans (hC.mono (Nat.le_trans H8.out.1.size HBr.out.bel.size))).mono H1.out.size))
          clear hC hD
          go_wp2
          go_ret
          exact ⟨rfl, H14.out⟩
        | succ gg =>
          have hk : k < f.hs.length := by omega
          have hkz : (k : Int) < f.hs.length := by omega
          have hkz7 : (k : Int) ≤ 7 := by omega
          go_wp2
          obtain ⟨c, off, hA, hcB, hcy⟩ := vals_elem hoc_len HZ1.out.1 (by decide) hk
          obtain ⟨y, hye⟩ : ∃ y, y = f.hs[k] := ⟨_, rfl⟩
          rw [← hye] at hcy
          have hy := fun (W : World) (hW : Below w8.heap.size w8 W) => And.intro
            ((Below.cell (H8.out.1.trans (hW.mono H8.out.1.size)) (p := ⟨c, off + k * 3 + 1, none⟩) (Nat.lt_of_lt_of_le hcB HZ1.out.2)).trans (hcy 1 _ rfl))
            ((Below.cell (H8.out.1.trans (hW.mono H8.out.1.size)) (p := ⟨c, off + k * 3 + 2, none⟩) (Nat.lt_of_lt_of_le hcB HZ1.out.2)).trans (hcy 2 _ rfl))
          have HY := Lib.hid hy
          have HA := Lib.hid hA
          have HYE := Lib.hid hye
          clear hcy hy hA hye hcr
          refine R6.wp_walk (C := PutC wr g1 38 (nxB lowH k f.hs tl1)) 180 (by kernel_rfl) (by kernel_rfl) rfl (PutC.start (F := nxB lowH k f.hs tl1) HBr.out.o1) ?_
          simp only []
          iterate 13
            (refine' R6.WalkR.det (fun _ => rfl) (fun D ρ W hK hC => ?_) ?_
             rotate_left
             · have hW := HBr.out.bel.trans (hC.bel.mono HN.out.a1)
               have f0 := fun i => cell_of_row W w.heap.size i _ _ _ (HFB.out W hW)
               have f1 := fun i => cell_of_row W b6 i _ _ _ ((hC.oth _ HN.out.n61).trans HBr.out.m6)
               obtain ⟨f2, f3⟩ := HY.out W hW
               have hA := HA.out
               have HC := Lib.hid hC
               clear hC hK hW
               go_simp
               with_reducible exact ⟨rfl, HC.out.move (by simp [nxB, done])⟩
             simp only [Act.put, List.setIfInBounds_toArray, List.set_cons_succ, List.set_cons_zero])
          refine' R6.WalkR.det (c := undef) (fun _ => rfl) (fun D ρ W hK hC => ?_) ?_
          · have hme : D 13 = false := hK.me
            have hown := hC.own
            unfold nxB at hown
            rw [hme, if_neg (by decide)] at hown
            refine gives_store_one 3 (.tmp 148) (.tmp 145) (o := k * 3 + 1) rfl rfl rfl hown (by rw [List.length_append, flat_len hoc_len, mapK_len]; omega) infoI9 ?_
            intro W' hP hM
            refine ⟨rfl, hC.put hP hM ?_⟩
            unfold nxB
            rw [done_me, if_pos rfl]
            exact mapK_set hk (by decide) _ (by rw [← HYE.out]; rfl)
          simp only [Act.put, List.setIfInBounds_toArray, List.set_cons_succ, List.set_cons_zero]
          refine R6.WalkR.nil (fun D ρ W hD hC => ?_)
          obtain ⟨w12, hw12⟩ : ∃ w12, W = w12 := ⟨_, rfl⟩
          rw [hw12] at hC ⊢
          have ho := hC.own
          unfold nxB at ho
          rw [hD 13 (by decide), if_pos rfl] at ho
          have H12 := Lib.hid (HBr.out.put1 HN.out hC.bel hC.oth ho)
          clear hC hD hw12 ho
          clear D ρ W
          go_wp2
          refine R6.wp_walk (C := PutC w12 g3 38 (nxB highH k f.hs tl3)) 180 (by kernel_rfl) (by kernel_rfl) rfl (PutC.start (F := nxB highH k f.hs tl3) H12.out.o3) ?_
          simp only []
          iterate 13
            (refine' R6.WalkR.det (fun _ => rfl) (fun D ρ W hK hC => ?_) ?_
             rotate_left
             · have hW := H12.out.bel.trans (hC.bel.mono HN.out.a3)
               have f0 := fun i => cell_of_row W w.heap.size i _ _ _ (HFB.out W hW)
               have f1 := fun i => cell_of_row W b7 i _ _ _ ((hC.oth _ HN.out.n73).trans H12.out.m7)
               obtain ⟨f2, f3⟩ := HY.out W hW
               have hA := HA.out
               have HC := Lib.hid hC
               clear hC hK hW
               go_simp
               with_reducible exact ⟨rfl, HC.out.move (by simp [nxB, done])⟩
             simp only [Act.put, List.setIfInBounds_toArray, List.set_cons_succ, List.set_cons_zero])
          refine' R6.WalkR.det (c := undef) (fun _ => rfl) (fun D ρ W hK hC => ?_) ?_
          · have hme : D 13 = false := hK.me
            have hown := hC.own
            unfold nxB at hown
            rw [hme, if_neg (by decide)] at hown
            refine gives_store_one 3 (.tmp 161) (.tmp 158) (o := k * 3 + 2) rfl rfl rfl hown (by rw [List.length_append, flat_len hoc_len, mapK_len]; omega) infoI9 ?_
            intro W' hP hM
            refine ⟨rfl, hC.put hP hM ?_⟩
            unfold nxB
            rw [done_me, if_pos rfl]
            exact mapK_set hk (by decide) _ (by rw [← HYE.out]; rfl)
          simp only [Act.put, List.setIfInBounds_toArray, List.set_cons_succ, List.set_cons_zero]
          refine R6.WalkR.nil (fun D ρ W hD hC => ?_)
          have ho := hC.own
          unfold nxB at ho
          rw [hD 13 (by decide), if_pos rfl] at ho
          have H13 := Lib.hid (H12.out.put3 HN.out hC.bel hC.oth ho)
          clear hC hD ho
          go_wp2
          go_roundg gg
          case measure => omega
          case rel => exact ⟨k + 1, by omega, by go_num, H13⟩

set_option maxRecDepth 100000 in
set_option maxHeartbeats 4000000 in
theorem fluteTrue_law (f : Fu) (n0 : Nat) (hn0 : n0 < 256) (o0 o1 : Int) (A : Option Addr) (cap : Nat) (us : List Int) (B : Nat) (w : World) (hB : B ≤ w.heap.size) (hz : FuAt w B f) (hby : ByAt w B A us) :
    Calls Try.prog 6 #[.agg (fuc f).toArray, .int .u8 (n0 : Int), .agg #[.int .i64 o0, .int .i64 o1], .slice A us.length cap] w fun e w' => e = .returned (.bool true) ∧ Below w.heap.size w w' := by
  by_cases h12 : f.hs.length ≤ 12
  · exact fluteTrue_some f (by omega) n0 hn0 o0 o1 A cap us B w hB hz hby
  clear hz hB hby
  obtain ⟨w1, hw1⟩ : ∃ w1, (w.alloc (.cells (fuc f).toArray 28)).alloc (.cells #[.int .i64 o0, .int .i64 o1] 25) = w1 := ⟨_, rfl⟩
  have hb1 : Below w.heap.size w w1 := by rw [← hw1]; exact ((Below.refl _ _).alloc (Nat.le_refl _) _).alloc (by simp) _
  have m0 : w1.heap[w.heap.size]? = some (.cells (fuc f).toArray 28 (0, 0)) := by rw [← hw1]; exact alloc2_at0 _ _ _
  have HAL := Lib.hid (fun W => alive_any W)
  have HRD := Lib.hid (fun W => ready9_big f h12 W)
  have hcf := fun (W : World) (hW : Below w1.heap.size w1 W) i => cell_of_row W w.heap.size i _ _ _ ((hW.block _ (lt_of_heap m0)).trans m0)
  have H1 := Lib.hid hb1
  clear hb1 m0 h12
  unfold fuc at hw1 hcf HRD ⊢
  have HCF := Lib.hid hcf
  clear hcf
  go_enter Try.func6, Try.ntmps6
  go_wp2_with (first
    | (go_at_call 13; refine (HAL.out _).mono ?_; rintro e w2 ⟨rfl, hB2⟩; have hc2 := HCF.out w2 hB2; have H2 := Lib.hid hB2; clear hB2)
    | (go_at_call 32; refine (HRD.out w2).mono ?_; rintro e w3 ⟨rfl, hB3⟩; have H3 := Lib.hid (H2.out.trans (hB3.mono H2.out.size)); clear hB3))
  go_ret
  exact ⟨rfl, H1.out.trans (H3.out.mono H1.out.size)⟩

end Go.Proofs.Ytjjipkgconmfcaa
