/-
  The law FluteAll.
-/
import Derived.Test.YthjpgpelbagceaaFvD
set_option linter.all false
namespace Go.Proofs.Ythjpgpelbagceaa
open Go.RowKit Go.Maps
open R6 (done done_ne done_me upd_ne upd_me)

attribute [local go_sem] gives

def rdyF (f : Fu) : Bool := !greatF f bk0 0 && okFu f
theorem rdy_ok {f : Fu} (h : rdyF f = true) : okFu f = true := by
  simp only [rdyF, Bool.and_eq_true] at h; exact h.2

set_option maxRecDepth 100000 in
set_option maxHeartbeats 4000000 in
theorem ready9_any (f : Fu) (hl : f.hs.length ≤ 1000000) (B : Nat) (w : World) (hB : B ≤ w.heap.size) (hz : FuAt w B f) :
    Calls Try.prog 32 #[.agg (fuc f).toArray] w fun e w' => e = .returned (.bool (rdyF f)) ∧ Below w.heap.size w w' := by
  obtain ⟨w1, hw1⟩ : ∃ w1, w.alloc (.cells (fuc f).toArray 28) = w1 := ⟨_, rfl⟩
  have hb1 : Below w.heap.size w w1 := by rw [← hw1]; exact grow1 _ _
  have m1 : w1.heap[w.heap.size]? = some (.cells (fuc f).toArray 28 (0, 0)) := by rw [← hw1]; exact alloc_at0 _ _
  have hcf := fun (W : World) (hW : Below w1.heap.size w1 W) i => cell_of_row W w.heap.size i _ _ _ ((hW.block _ (lt_of_heap m1)).trans m1)
  have HFL := Lib.hid (fun W (hW : Below w1.heap.size w1 W) => rfFlute_any f hl B W (Nat.le_trans hB (Nat.le_trans hb1.size hW.size)) ((hz.below (hb1.mono hB)).below (hW.mono (Nat.le_trans hB hb1.size))))
  have hgr := fun W => rfGreat_any f bk0 0 W
  have H1 := Lib.hid hb1
  clear hz hb1 m1
  unfold rdyF
  unfold fuc bkc bk0 at hgr
  dsimp only [List.length_nil] at hgr
  unfold fuc at hw1 hcf HFL ⊢
  have HCF := Lib.hid hcf
  have hc1 := HCF.out w1 (Below.refl _ _)
  clear hcf
  have hgx : greatF f ⟨0, 0, 0, 0, 0, 0, 0, 0, 0, none, 0, []⟩ 0 = greatF f bk0 0 := rfl
  rw [hgx] at hgr
  generalize greatF f bk0 0 = v0 at hgr ⊢
  generalize okFu f = v1 at HFL ⊢
  have HGR := Lib.hid hgr
  clear hgr hgx
  cases v0
  · cases v1
    all_goals
      go_enter Try.func32, Try.ntmps32
      go_wp2_with (first
        | (go_at_call 25; refine (HGR.out _).mono ?_; rintro e w2 ⟨rfl, hB2⟩; have hc2 := HCF.out w2 hB2; have H2 := Lib.hid hB2; clear hB2 hc1)
        | (go_at_call 37; refine (HFL.out w2 H2.out).mono ?_; rintro e w3 ⟨rfl, hB3⟩; have H3 := Lib.hid (H2.out.trans (hB3.mono H2.out.size)); clear hB3))
      go_ret
      exact ⟨rfl, H1.out.trans (H3.out.mono H1.out.size)⟩
  · go_enter Try.func32, Try.ntmps32
    go_wp2_with (go_at_call 25; refine (HGR.out _).mono ?_; rintro e w2 ⟨rfl, hB2⟩; have H2 := Lib.hid hB2; clear hB2 hc1)
    go_ret
    exact ⟨rfl, H1.out.trans (H2.out.mono H1.out.size)⟩

/-- A tone within a note is met. -/
theorem ins_meets (a o s : Int × Int) (ha : 50 ≤ a.1 ∧ a.1 ≤ a.2) (hs : 0 ≤ s.1 ∧ s.1 ≤ s.2) (h : insB o (tonA s.1 s.2 a) = true) : meetF a o s = true := by
  obtain ⟨a0, a1⟩ := a
  obtain ⟨o0, o1⟩ := o
  obtain ⟨s0, s1⟩ := s
  simp only [insB, tonA, Bool.and_eq_true, decide_eq_true_eq] at h ha hs
  have h1 := of_decide_eq_true h.1
  have h2 := of_decide_eq_true h.2
  refine any_upto (p := fun d => metL (o0, o1) (s0, s1) (a0 + d)) (k := 0) (by dsimp only; omega) ?_
  have e0 : a0 + ((0 : Nat) : Int) = a0 := by simp
  show metL (o0, o1) (s0, s1) (a0 + ((0 : Nat) : Int)) = true
  rw [e0]
  have hle : o0 ≤ 500 * s0 / a0 := Int.le_trans h1 (ediv_anti (by omega) (by omega) ha.2)
  have hm : o0 * a0 ≤ 500 * s0 := (Int.le_ediv_iff_mul_le (by omega)).1 hle
  have hmx : max s0 ((o0 * a0 + 499) / 500) = s0 := by
    generalize o0 * a0 = P at hm
    omega
  have h3 : 500 * s0 / a0 ≤ 500 * s1 / a0 := Int.ediv_le_ediv (by omega) (by omega)
  unfold metL
  dsimp only
  rw [hmx, decide_eq_true hs.2, decide_eq_true (Int.le_trans h3 h2)]
  rfl
theorem kno_two (a o s : Int × Int) (ha : 50 ≤ a.1 ∧ a.1 ≤ a.2) (hs : 0 ≤ s.1 ∧ s.1 ≤ s.2) : (insB o (tonA s.1 s.2 a) = true → knoF a o s = 2) ∧ (insB o (tonA s.1 s.2 a) = false → knoF a o s = 0 ∨ knoF a o s = 1) := by
  refine ⟨fun h => ?_, fun h => ?_⟩
  · unfold knoF; rw [h, ins_meets a o s ha hs h]; rfl
  · unfold knoF; rw [h]; cases meetF a o s
    · exact .inl rfl
    · exact .inr rfl
theorem fingZ_split (f : Fu) (o : Int × Int) (n d : Nat) (h : insB o (tonF f n) = true) : ∃ r, fingZ f o (List.range (n + 1 + d)) = fingZ f o (List.range n) ++ (n : Int) :: r := by
  induction d with
  | zero => exact ⟨[], by rw [Nat.add_zero, List.range_succ, fingZ_snoc, if_pos h]⟩
  | succ d ih =>
    obtain ⟨r, hr⟩ := ih
    rw [show n + 1 + (d + 1) = (n + 1 + d) + 1 by omega, List.range_succ, fingZ_snoc, hr]
    exact ⟨r ++ (if insB o (tonF f (n + 1 + d)) = true then [((n + 1 + d : Nat) : Int)] else []), by simp⟩
theorem fingZ_at (f : Fu) (o : Int × Int) {n N : Nat} (hn : n < N) (h : insB o (tonF f n) = true) :
    (fingZ f o (List.range n)).length < (fingZ f o (List.range N)).length ∧ (fingZ f o (List.range N))[(fingZ f o (List.range n)).length]?.getD 0 = (n : Int) ∧ (fingZ f o (List.range (n + 1))).length = (fingZ f o (List.range n)).length + 1 := by
  obtain ⟨d, rfl⟩ : ∃ d, N = n + 1 + d := ⟨N - (n + 1), by omega⟩
  obtain ⟨r, hr⟩ := fingZ_split f o n d h
  rw [hr]
  refine ⟨by simp, by simp, ?_⟩
  rw [List.range_succ, fingZ_snoc, if_pos h]; simp
theorem fingZ_no (f : Fu) (o : Int × Int) {n : Nat} (h : insB o (tonF f n) = false) : (fingZ f o (List.range (n + 1))).length = (fingZ f o (List.range n)).length := by
  rw [List.range_succ, fingZ_snoc, h]; simp

set_option maxRecDepth 100000 in
set_option maxHeartbeats 16000000 in
theorem fluteAll_some (f : Fu) (hl : f.hs.length ≤ 1000000) (o : Int × Int) (B : Nat) (w : World) (hB : B ≤ w.heap.size) (hz : FuAt w B f) :
    Calls Try.prog 7 #[.agg (fuc f).toArray, .agg #[.int .i64 o.1, .int .i64 o.2]] w fun e w' => e = .returned (.bool true) ∧ Below w.heap.size w w' := by
  obtain ⟨o0, o1⟩ := o
  dsimp only
  obtain ⟨w1, hw1⟩ : ∃ w1, (w.alloc (.cells (fuc f).toArray 28)).alloc (.cells #[.int .i64 o0, .int .i64 o1] 25) = w1 := ⟨_, rfl⟩
  have hb1 : Below w.heap.size w w1 := by rw [← hw1]; exact ((Below.refl _ _).alloc (Nat.le_refl _) _).alloc (by simp) _
  have m0 : w1.heap[w.heap.size]? = some (.cells (fuc f).toArray 28 (0, 0)) := by rw [← hw1]; exact alloc2_at0 _ _ _
  have m1 : w1.heap[w.heap.size + 1]? = some (.cells #[.int .i64 o0, .int .i64 o1] 25 (0, 0)) := by rw [← hw1]; exact alloc2_at1 _ _ _
  have hz1 := hz.below (hb1.mono hB)
  have hB1 := Nat.le_trans hB hb1.size
  have HAL := Lib.hid (fun W => alive_any W)
  have hrd := fun W (hW : Below w1.heap.size w1 W) => ready9_any f hl B W (Nat.le_trans hB1 hW.size) (hz1.below (hW.mono hB1))
  have HNO := Lib.hid (fun W => rfNote_any o0 o1 W)
  have hno : okNo (o0, o1) = okS o0 o1 1 10000000 := rfl
  have hfi := fun (hok : okFu f = true) (hn : okNo (o0, o1) = true) W (hW : Below w1.heap.size w1 W) => fingers_any f hl (o0, o1) B W (Nat.le_trans hB1 hW.size) (hz1.below (hW.mono hB1))
  have hpl := fun (hok : okFu f = true) (hn : okNo (o0, o1) = true) n (h256 : n < 256) W (hW : Below w1.heap.size w1 W) => plays_any f hl n h256 (o0, o1) B W (Nat.le_trans hB1 hW.size) (hz1.below (hW.mono hB1))
  unfold FinPost at hfi
  unfold PlaPost at hpl
  have hfe : okFu f = true → okNo (o0, o1) = true → finE f (o0, o1) = 0 ∧ finL f (o0, o1) = fingZ f (o0, o1) (List.range (2 ^ f.hs.length)) := fun h1 h2 => ⟨by simp [finE, h1, h2], by simp [finL, h1, h2]⟩
  have hpe : okFu f = true → okNo (o0, o1) = true → ∀ n, n < 2 ^ f.hs.length → plaE f n (o0, o1) = 0 ∧ plaV f n (o0, o1) = knoF (airF f n) (o0, o1) (f.s0, f.s1) := fun h1 h2 n h3 => ⟨by simp [plaE, h1, h2, h3], by simp [plaV, h1, h2, h3]⟩
  have hcf := fun (W : World) (hW : Below w1.heap.size w1 W) => And.intro (fun i => cell_of_row W w.heap.size i _ _ _ ((hW.block _ (lt_of_heap m0)).trans m0)) (fun i => cell_of_row W (w.heap.size + 1) i _ _ _ ((hW.block _ (lt_of_heap m1)).trans m1))
  have H1 := Lib.hid hb1
  clear hz hb1 m0 m1 hz1
  unfold fuc at hw1 hcf hrd hfi hpl ⊢
  have HCF := Lib.hid hcf
  clear hcf
  have hrk := fun (h : rdyF f = true) => rdy_ok h
  generalize rdyF f = v1 at hrd hrk
  have HRD := Lib.hid hrd
  clear hrd
  rw [← hno] at HNO
  cases v1
  · clear hrk hfi hpl hfe hpe hno
    go_enter Try.func7, Try.ntmps7
    go_wp2_with (first
      | (go_at_call 13; refine (HAL.out _).mono ?_; rintro e w2 ⟨rfl, hB2⟩; obtain ⟨hc2, hc3⟩ := HCF.out w2 hB2; have H2 := Lib.hid hB2; clear hB2)
      | (go_at_call 32; refine (HRD.out w2 H2.out).mono ?_; rintro e w3 ⟨rfl, hB3⟩; have H3 := Lib.hid (H2.out.trans (hB3.mono H2.out.size)); clear hB3))
    go_ret
    exact ⟨rfl, H1.out.trans (H3.out.mono H1.out.size)⟩
  have hok := hrk rfl
  cases hnv : okNo (o0, o1)
  · rw [hnv] at HNO
    clear hrk hfi hpl hfe hpe hno hok hnv
    go_enter Try.func7, Try.ntmps7
    go_wp2_with (first
      | (go_at_call 13; refine (HAL.out _).mono ?_; rintro e w2 ⟨rfl, hB2⟩; obtain ⟨hc2, hc3⟩ := HCF.out w2 hB2; have H2 := Lib.hid hB2; clear hB2)
      | (go_at_call 32; refine (HRD.out w2 H2.out).mono ?_; rintro e w3 ⟨rfl, hB3⟩; obtain ⟨hc4, hc5⟩ := HCF.out w3 (H2.out.trans (hB3.mono H2.out.size)); have H3 := Lib.hid (H2.out.trans (hB3.mono H2.out.size)); clear hB3 hc2 hc3)
      | (go_at_call 33; refine (HNO.out w3).mono ?_; rintro e w4 ⟨rfl, hB4⟩; have H4 := Lib.hid (H3.out.trans (hB4.mono H3.out.size)); clear hB4))
    go_ret
    exact ⟨rfl, H1.out.trans (H4.out.mono H1.out.size)⟩
  rw [hnv] at HNO
  obtain ⟨hfe1, hfe2⟩ := hfe hok hnv
  have HFI := Lib.hid (hfi hok hnv)
  rw [hfe1, hfe2] at HFI
  have hlen8 := (okFu_bnd hok).2.2.2.2.1
  have hsp := (okFu_bnd hok).2.2.2.1
  have hkn : ∀ n, n < 2 ^ f.hs.length → (insB (o0, o1) (tonF f n) = true → knoF (airF f n) (o0, o1) (f.s0, f.s1) = 2) ∧ (insB (o0, o1) (tonF f n) = false → knoF (airF f n) (o0, o1) (f.s0, f.s1) = 0 ∨ knoF (airF f n) (o0, o1) (f.s0, f.s1) = 1) := fun n hn => kno_two (airF f n) (o0, o1) (f.s0, f.s1) (by have := airF_bnd hok hn; omega) (by dsimp only; omega)
  have HKN := Lib.hid (And.intro hkn (And.intro (hpe hok hnv) (hpl hok hnv)))
  clear hrk hfi hpl hfe hpe hno hok hnv hfe1 hfe2 hsp hkn
  have hN8 : 2 ^ f.hs.length ≤ 256 := Nat.pow_le_pow_right (n := 2) (by omega) hlen8
  obtain ⟨N, hN⟩ : ∃ N, N = 2 ^ f.hs.length := ⟨_, rfl⟩
  rw [← hN] at HKN hN8 HFI
  have hNz : ((2 : Int) ^ f.hs.length) = (N : Int) := by rw [hN]; simp
  have hNw : wrap64 ((2 : Int) ^ f.hs.length) = (N : Int) := by rw [hNz]; unfold wrap64; omega
  have hlz : (f.hs.length : Int) ≤ 8 := by omega
  have HNW := Lib.hid hNw
  have hNi : (N : Int) ≤ 256 := by omega
  have hZ := fun n (hn : n < N) h => fingZ_at f (o0, o1) (n := n) hn h
  have HZ := Lib.hid (And.intro hZ (And.intro (fun n h => fingZ_no f (o0, o1) (n := n) h) (fingZ_len f (o0, o1) (List.range N))))
  have hlx : ∀ n, (fingZ f (o0, o1) (List.range n)).length ≤ n := fun n => by have := fingZ_len f (o0, o1) (List.range n); simpa using this
  have HLX := Lib.hid hlx
  clear hZ hN hNz hNw hlx
  generalize hLL : fingZ f (o0, o1) (List.range N) = L at HFI HZ
  have hL0 : L.length = (fingZ f (o0, o1) (List.range N)).length := by rw [hLL]
  have HL0 := Lib.hid hL0
  have hLn : L.length ≤ 256 := by have := HLX.out N; omega
  clear hLL hL0
  go_enter Try.func7, Try.ntmps7
  go_wp2_with (first
    | (go_at_call 13; refine (HAL.out _).mono ?_; rintro e w2 ⟨rfl, hB2⟩; obtain ⟨hc2, hc3⟩ := HCF.out w2 hB2; have H2 := Lib.hid hB2; clear hB2)
    | (go_at_call 32; refine (HRD.out w2 H2.out).mono ?_; rintro e w3 ⟨rfl, hB3⟩; obtain ⟨hc4, hc5⟩ := HCF.out w3 (H2.out.trans (hB3.mono H2.out.size)); have H3 := Lib.hid (H2.out.trans (hB3.mono H2.out.size)); clear hB3 hc2 hc3)
    | (go_at_call 33; refine (HNO.out w3).mono ?_; rintro e w4 ⟨rfl, hB4⟩; obtain ⟨hc6, hc7⟩ := HCF.out w4 (H3.out.trans (hB4.mono H3.out.size)); have H4 := Lib.hid (H3.out.trans (hB4.mono H3.out.size)); clear hB4 hc4 hc5)
    | (go_at_call 27
       refine (HFI.out w4 H4.out).mono ?_
       rintro e w5 ⟨v, rfl, hU, hB5⟩
       obtain ⟨A5, c5, rfl⟩ := own_shape hU
       obtain ⟨hc8, hc9⟩ := HCF.out w5 (H4.out.trans (hB5.mono H4.out.size))
       have H5 := Lib.hid (And.intro hU (H4.out.trans (hB5.mono H4.out.size)))
       clear hU hB5 hc6 hc7))
  rw [HNW.out]
  go_loopg [8, 36] N (fun gg s8 s36 wx => ∃ n : Nat, n + gg = N ∧ s8 = .int .i64 ((fingZ f (o0, o1) (List.range n)).length : Int) ∧ s36 = .int .i64 n ∧ Hid (Below w5.heap.size w5 wx))
  case atStart => exact ⟨0, by omega, rfl, by go_num, Below.refl _ _⟩
  case round =>
    obtain ⟨n, hng, rfl, rfl, hBr⟩ := hrel
    clear hc8 hc9
    obtain ⟨hcA, hcB⟩ := HCF.out wr (H5.out.2.trans (hBr.out.mono H5.out.2.size))
    cases gk with
    | zero =>
      obtain rfl : n = N := by omega
      rw [← HL0.out]
      go_wp2
      go_ret
      exact ⟨by simp, H1.out.trans ((H5.out.2.trans (hBr.out.mono H5.out.2.size)).mono H1.out.size)⟩
    | succ gg =>
      have hn : n < N := by omega
      have hnz : (n : Int) < N := by omega
      have hn8 : (n : Int) ≤ 255 := by omega
      have hpl := HKN.out.2.2 n (by omega) wr (H5.out.2.trans (hBr.out.mono H5.out.2.size))
      obtain ⟨hpe1, hpe2⟩ := HKN.out.2.1 n hn
      rw [hpe1, hpe2] at hpl
      have hkn := HKN.out.1 n hn
      have hza := HZ.out.1 n hn
      have hzn := HZ.out.2.1 n
      have hi9 := HLX.out n
      generalize hii : (fingZ f (o0, o1) (List.range n)).length = i at hza hzn hi9
      generalize knoF (airF f n) (o0, o1) (f.s0, f.s1) = kv at hpl hkn
      have HPL := Lib.hid hpl
      have HII := Lib.hid hii
      clear hpl hpe1 hpe2 hii
      cases hin : insB (o0, o1) (tonF f n)
      · have hk := hkn.2 hin
        have HS := Lib.hid (hzn hin)
        clear hkn hza hzn hin
        rcases hk with rfl | rfl
        all_goals
          go_wp2_with (go_at_call 22; refine HPL.out.mono ?_; rintro e w6 ⟨rfl, hB6⟩; have H6 := Lib.hid (hBr.out.trans (hB6.mono hBr.out.size)); clear hB6 hcA hcB)
          go_roundg gg
          case measure => omega
          case rel => exact ⟨n + 1, by omega, by rw [HS.out], by go_num, H6.out⟩
      · obtain rfl := hkn.1 hin
        obtain ⟨hz1, hz2, hz3⟩ := hza hin
        have HS := Lib.hid hz3
        have hvs := Vals.own H5.out.1
        obtain ⟨bb, off, rfl, hbl, hcc⟩ := hvs (by simp [u8s]; omega)
        have hci : wr.cell? ⟨bb, off + i, none⟩ = some (.int .u8 (n : Int)) := (hBr.out.cell (p := ⟨bb, off + i, none⟩) hbl).trans (hcc i _ (by rw [← hz2]; simp [u8s, hz1]))
        have hbl2 := hbl
        have HCI := Lib.hid (And.intro hbl hci)
        have hil : (i : Int) < L.length := by omega
        have hge : decide ((L.length : Int) ≤ (i : Int)) = false := decide_eq_false (by omega)
        clear hkn hza hzn hin hvs hcc hz2 hz3 hci hbl hbl2 hz1
        go_wp2_with (go_at_call 22; refine HPL.out.mono ?_; rintro e w6 ⟨rfl, hB6⟩
                     have hc6 : w6.cell? ⟨bb, off + i, none⟩ = some (.int .u8 (n : Int)) := (hB6.cell (p := ⟨bb, off + i, none⟩) (Nat.lt_of_lt_of_le HCI.out.1 hBr.out.size)).trans HCI.out.2
                     have H6 := Lib.hid (hBr.out.trans (hB6.mono hBr.out.size)); clear hB6 hcA hcB)
        go_roundg gg
        case measure => omega
        case rel => exact ⟨n + 1, by omega, by rw [HS.out]; go_num, by go_num, H6.out⟩

set_option maxRecDepth 100000 in
theorem ready9_big (f : Fu) (h12 : ¬ f.hs.length ≤ 12) (w : World) : Calls Try.prog 32 #[.agg (fuc f).toArray] w fun e w' => e = .returned (.bool false) ∧ Below w.heap.size w w' := by
  have hgt : greatF f bk0 0 = true := by simp [greatF]; omega
  have hgr := fun W => rfGreat_any f bk0 0 W
  rw [hgt] at hgr
  obtain ⟨w1, hw1⟩ : ∃ w1, w.alloc (.cells (fuc f).toArray 28) = w1 := ⟨_, rfl⟩
  have hb1 : Below w.heap.size w w1 := by rw [← hw1]; exact grow1 _ _
  have m1 : w1.heap[w.heap.size]? = some (.cells (fuc f).toArray 28 (0, 0)) := by rw [← hw1]; exact alloc_at0 _ _
  have hc1 := fun i => cell_of_row w1 w.heap.size i _ _ _ m1
  have H1 := Lib.hid hb1
  have HGR := Lib.hid hgr
  clear hb1 m1 hgr h12 hgt
  unfold fuc bkc bk0 at HGR
  dsimp only [List.length_nil] at HGR
  unfold fuc at hw1 hc1 ⊢
  go_enter Try.func32, Try.ntmps32
  go_wp2_with (go_at_call 25; refine (HGR.out _).mono ?_; rintro e w2 ⟨rfl, hB2⟩; have H2 := Lib.hid hB2; clear hB2 hc1)
  go_ret
  exact ⟨rfl, H1.out.trans (H2.out.mono H1.out.size)⟩

set_option maxRecDepth 100000 in
set_option maxHeartbeats 4000000 in
theorem fluteAll_law (f : Fu) (o : Int × Int) (B : Nat) (w : World) (hB : B ≤ w.heap.size) (hz : FuAt w B f) :
    Calls Try.prog 7 #[.agg (fuc f).toArray, .agg #[.int .i64 o.1, .int .i64 o.2]] w fun e w' => e = .returned (.bool true) ∧ Below w.heap.size w w' := by
  by_cases h12 : f.hs.length ≤ 12
  · exact fluteAll_some f (by omega) o B w hB hz
  clear hz hB
  obtain ⟨o0, o1⟩ := o
  dsimp only
  obtain ⟨w1, hw1⟩ : ∃ w1, (w.alloc (.cells (fuc f).toArray 28)).alloc (.cells #[.int .i64 o0, .int .i64 o1] 25) = w1 := ⟨_, rfl⟩
  have hb1 : Below w.heap.size w w1 := by rw [← hw1]; exact ((Below.refl _ _).alloc (Nat.le_refl _) _).alloc (by simp) _
  have m0 : w1.heap[w.heap.size]? = some (.cells (fuc f).toArray 28 (0, 0)) := by rw [← hw1]; exact alloc2_at0 _ _ _
  have HAL := Lib.hid (fun W => alive_any W)
  have HRD := Lib.hid (fun W => ready9_big f h12 W)
  have hcf := fun (W : World) (hW : Below w1.heap.size w1 W) i => cell_of_row W w.heap.size i _ _ _ ((hW.block _ (lt_of_heap m0)).trans m0)
  have H1 := Lib.hid hb1
  clear hb1 m0 h12
  unfold fuc at hw1 hcf HRD ⊢
  have HCF := Lib.hid hcf
  clear hcf
  go_enter Try.func7, Try.ntmps7
  go_wp2_with (first
    | (go_at_call 13; refine (HAL.out _).mono ?_; rintro e w2 ⟨rfl, hB2⟩; have hc2 := HCF.out w2 hB2; have H2 := Lib.hid hB2; clear hB2)
    | (go_at_call 32; refine (HRD.out w2).mono ?_; rintro e w3 ⟨rfl, hB3⟩; have H3 := Lib.hid (H2.out.trans (hB3.mono H2.out.size)); clear hB3))
  go_ret
  exact ⟨rfl, H1.out.trans (H3.out.mono H1.out.size)⟩

end Go.Proofs.Ythjpgpelbagceaa
