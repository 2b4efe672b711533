/-
  The law ClumpKept: a year of the book.
-/
import Derived.Test.YtanjolmelbipoaaKepA
namespace Go.Proofs.Ytanjolmelbipoaa
open Go.RowKit Go.Shelf

attribute [local go_sem] gives

/-- What is known of the year of which ClumpKept asks. -/
structure KxC (w : World) (g : Gr) (A1 : Option Addr) (c1 : Nat) (A2 : Option Addr) (c2 : Nat) (Y : Int) (k : Nat) (L A G : List Int) (s n : Int) : Prop where
  gr : GrAt w w.heap.size g A1 c1 A2 c2
  al : ∀ W, Calls Try.prog 28 #[] W fun e w' => e = .returned (.bool true) ∧ Below W.heap.size W w'
  gt : ∀ W, Calls Try.prog 12 #[grv g A1 c1 A2 c2] W fun e w' => e = .returned (.bool false) ∧ Below W.heap.size W w'
  ck : ∀ W, Below w.heap.size w W → Calls Try.prog 19 #[grv g A1 c1 A2 c2] W fun e w' => e = .returned (.int .i64 0) ∧ Below W.heap.size W w'
  s1 : ∀ W, Below w.heap.size w W → Calls Try.prog 14 #[grv g A1 c1 A2 c2, .int .i64 (g.first + k)] W (LenPost W g.start.length L)
  s2 : ∀ W, Below w.heap.size w W → Calls Try.prog 14 #[grv g A1 c1 A2 c2, .int .i64 Y] W (LenPost W g.start.length A)
  tk : ∀ W, Below w.heap.size w W → Calls Try.prog 16 #[grv g A1 c1 A2 c2, .int .i64 Y] W (TakePost W (takesTo Y G g.start.length) 0)
  hs : g.seas[k]?.getD (0, 0) = (s, n)

/-- Where the loop over what was cut is. -/
structure KL (w6 : World) (m : Nat) (Y s n : Int) (T : List (Int × Int)) (i : Nat) (W : World) : Prop where
  bel : Below w6.heap.size w6 W
  bs : W.heap[w6.heap.size]? = some (.cells #[.int .i64 s, .int .i64 n] 76 (0, 0))
  bg : W.heap[w6.heap.size + 1]? = some (.cells (ints (putL Y (List.replicate m 0) (T.take i))).toArray 3 (0, 0))

theorem KL.put {w6 : World} {m : Nat} {Y s n nm : Int} {T : List (Int × Int)} {i a : Nat} {W : World} (h1 : W.heap[w6.heap.size + 1]? = some (.cells (ints (putL Y (List.replicate m 0) (T.take i))).toArray 3 (0, 0)))
    (h2 : W.heap[w6.heap.size]? = some (.cells #[.int .i64 s, .int .i64 n] 76 (0, 0))) (h3 : Below w6.heap.size w6 W) (hp : putL Y (List.replicate m 0) (T.take (i + 1)) = (putL Y (List.replicate m 0) (T.take i)).set a nm) :
    KL w6 m Y s n T (i + 1) (W.setCell ⟨w6.heap.size + 1, a, none⟩ (.int .i64 nm)) := by
  refine ⟨h3.setCell (p := ⟨w6.heap.size + 1, a, none⟩) (by simp) _, (heap_setCell_other _ _ _ _ (by simp)).trans h2, ?_⟩
  have := heap_setCell_same W (w6.heap.size + 1) a _ _ (.int .i64 nm) h1
  rw [ints_set, ← hp] at this
  exact this

set_option maxRecDepth 100000 in
set_option maxHeartbeats 8000000 in
theorem clumpKept_main (g : Gr) (k : Nat) (Y : Int) (hY : Y = g.first + ((k : Int) + 1)) (hk : k < g.seas.length) (L A G : List Int) (s n : Int) (d r : Nat) (hd : g.hab.dies = d) (hr : g.hab.ripe = r) (hst : g.start.length = d + 1) (d6 : d ≤ 6) (rd : r ≤ d) (r1 : 1 ≤ r)
    (f0 : 0 ≤ g.first) (f1 : g.first ≤ 3000) (l60 : g.seas.length ≤ 60)
    (A1 : Option Addr) (c1 : Nat) (A2 : Option Addr) (c2 : Nat) (w : World) (hC : KxC w g A1 c1 A2 c2 Y k L A G s n)
    (hL : L.length = d + 1) (hA : A.length = d + 1) (hG : G.length = d + 1) (bL : Bnd 0 30 L) (bA : Bnd 0 30 A) (bG : Bnd 0 30 G) (hs0 : 0 ≤ s ∧ s ≤ 30) (hn0 : 0 ≤ n ∧ n ≤ 30)
    (a0 : A[0]?.getD 0 = s) (ai : ∀ i, 0 < i → i < d + 1 → A[i]?.getD 0 = L[i - 1]?.getD 0 - G[i]?.getD 0 ∧ 0 ≤ A[i]?.getD 0) (old : ∀ i, i < d + 1 → 0 < G[i]?.getD 0 → (A.drop (i + 1)).sum = 0)
    (rip : ∀ i, i < r → G[i]?.getD 0 = 0) (cut : G.sum = n) (sumA : A.sum = L.sum + s - n - L[d]?.getD 0) :
    Calls Try.prog 9 #[grv g A1 c1 A2 c2, .int .i64 Y] w fun e w' => e = .returned (.bool true) ∧ Below w.heap.size w w' := by
  have HC := Lib.hid hC
  have HN := Lib.hid (And.intro hL (And.intro hA (And.intro hG (And.intro bL (And.intro bA (And.intro bG (And.intro hst hY)))))))
  have HF := Lib.hid (And.intro a0 (And.intro ai (And.intro old (And.intro rip (And.intro cut sumA)))))
  have HD := Lib.hid (And.intro hd hr)
  have hy1 : Y ≤ g.first + ((k : Int) + 1) := by omega
  have hy2 : g.first + ((k : Int) + 1) ≤ Y := by omega
  have he0 : Y - 1 = g.first + k := by omega
  have he1 : Y - g.first = (k : Int) + 1 := by omega
  have hlz : 0 < g.start.length := by omega
  have hl7 : g.start.length ≤ 7 := by omega
  have hkz : (k : Int) < g.seas.length := by omega
  have q1 : decide (Y ≤ g.first) = false := by rw [decide_eq_false_iff_not]; omega
  have q2 : decide (g.first + (g.seas.length : Int) < Y) = false := by rw [decide_eq_false_iff_not]; omega
  have hdl : g.start.length - 1 = d := by omega
  have HDL := Lib.hid hdl
  clear hdl
  have hT := takes_put bG (y := Y) g.start.length (by omega)
  have hTa := takes_all (y := Y) (G := G) g.start.length (by omega)
  have hTi := takes_inc (y := Y) (G := G) g.start.length (by omega)
  have hTl := takesTo_len Y G g.start.length
  obtain ⟨T, hTe⟩ : ∃ T, T = takesTo Y G g.start.length := ⟨_, rfl⟩
  rw [← hTe] at hT hTa hTi hTl
  have hTd : putL Y (List.replicate g.start.length 0) T = G ∧ (T.map (·.2)).sum = n := by
    rw [hG, ← hst, Nat.sub_self, List.drop_zero, cut] at hT
    exact ⟨by simpa using hT.1, hT.2⟩
  have hT7 : T.length ≤ 7 := by omega
  have htk := hC.tk
  rw [← hTe] at htk
  have HT := Lib.hid (And.intro hTd (And.intro hTa (And.intro hTi htk)))
  obtain ⟨i0, hi, hz0, hz1, hz2⟩ := info_parts Try.info3
  have hmk := fun W => run_make_ints (P := Try.prog) 26 3 i0 Try.underlying26 hi hz0 hz1 hz2 g.start.length (by omega) W
  obtain ⟨bs, os, hbs, hbsl, hse⟩ := hC.gr.se (by rw [pairs_len]; omega)
  have hsp := pairs_at g.seas k hk
  rw [hC.hs] at hsp
  have hse0 : ∀ W, Below w.heap.size w W → W.cell? ⟨bs, os + k * 2, none⟩ = some (.int .i64 s) := fun W hW => (hW.cell (p := ⟨bs, os + k * 2, none⟩) hbsl).trans (hse _ _ hsp.1)
  have hse1 : ∀ W, Below w.heap.size w W → W.cell? ⟨bs, os + k * 2 + 1, none⟩ = some (.int .i64 n) := fun W hW => (hW.cell (p := ⟨bs, os + k * 2 + 1, none⟩) hbsl).trans (hse _ _ hsp.2)
  have HSE := Lib.hid (And.intro hse0 hse1)
  subst hbs
  obtain ⟨w0, hw0⟩ : ∃ w0, w.alloc (.cells (gcs g A1 c1 (some ⟨bs, os, none⟩) c2) 29) = w0 := ⟨_, rfl⟩
  have hb0 : Below w.heap.size w w0 := by rw [← hw0]; exact (Below.refl _ _).alloc (Nat.le_refl _) _
  have hs0' : w0.heap.size = w.heap.size + 1 := by rw [← hw0]; simp
  have hm0 : w0.heap[w.heap.size]? = some (.cells (gcs g A1 c1 (some ⟨bs, os, none⟩) c2) 29 (0, 0)) := by rw [← hw0]; exact alloc_at0 w _
  have B0 := Lib.hid (And.intro hb0 (And.intro hm0 hs0'))
  clear hC hL hA hG bL bA bG hst hY a0 ai old rip cut sumA hd hr hT hTa hTi hTl hTe hTd htk hi hz0 hz1 hz2 hsp hse hse0 hse1 hb0 hs0' hm0
  simp only [gcs] at hw0
  unfold grv
  go_enter Try.func9, Try.ntmps9
  go_wp2_with (first
    | (go_at_call 28; refine (HC.out.al w0).mono ?_; rintro e w1 ⟨rfl, hB1⟩
       have hs1 : w.heap.size < w1.heap.size := by have := B0.out.2.2; have := hB1.size; omega
       have hc1' := fun i => cell_of_row w1 w.heap.size i _ _ _ ((hB1.block _ (by have := B0.out.2.2; omega)).trans B0.out.2.1)
       have H1 := Lib.hid (And.intro (B0.out.1.trans (hB1.mono (by have := B0.out.2.2; omega))) ((hB1.block _ (by have := B0.out.2.2; omega)).trans B0.out.2.1))
       clear hB1)
    | (go_at_call 12; refine (HC.out.gt w1).mono ?_; rintro e w2 ⟨rfl, hB2⟩
       have hs2 : w.heap.size < w2.heap.size := by have := hB2.size; omega
       have hc2' := fun i => cell_of_row w2 w.heap.size i _ _ _ ((hB2.block _ hs1).trans H1.out.2)
       have H2 := Lib.hid (And.intro (H1.out.1.trans (hB2.mono H1.out.1.size)) ((hB2.block _ hs1).trans H1.out.2))
       clear hB2 hc1')
    | (go_at_call 19; refine (HC.out.ck w2 H2.out.1).mono ?_; rintro e w3 ⟨rfl, hB3⟩
       have hs3 : w.heap.size < w3.heap.size := by have := hB3.size; omega
       have hc3' := fun i => cell_of_row w3 w.heap.size i _ _ _ ((hB3.block _ hs2).trans H2.out.2)
       have H3 := Lib.hid (And.intro (H2.out.1.trans (hB3.mono H2.out.1.size)) ((hB3.block _ hs2).trans H2.out.2))
       clear hB3 hc2')
    | (go_at_call 16; refine (HT.out.2.2.2 w5 H5.out.1).mono ?_; rintro e w6 ⟨D3, q3, rfl, hD3, hB6⟩
       have hs6 : w.heap.size < w6.heap.size := by have := hB6.size; omega
       have hc6' := fun i => cell_of_row w6 w.heap.size i _ _ _ ((hB6.block _ hs5).trans H5.out.2.1)
       have hx0 := HSE.out.1 w6 (H5.out.1.trans (hB6.mono H5.out.1.size))
       have hx1 := HSE.out.2 w6 (H5.out.1.trans (hB6.mono H5.out.1.size))
       have H6 := Lib.hid (And.intro (H5.out.1.trans (hB6.mono H5.out.1.size)) (And.intro ((hB6.block _ hs5).trans H5.out.2.1) (And.intro ((H5.out.2.2.1.below hB6).mono hB6.size) (And.intro ((H5.out.2.2.2.below hB6).mono hB6.size) hD3))))
       clear hB6 hc5' hD3)
    | (go_at_call 14; refine (HC.out.s2 w4 H4.out.1).mono ?_; rintro e w5 ⟨D2, q2, rfl, hD2, hB5⟩
       have hs5 : w.heap.size < w5.heap.size := by have := hB5.size; omega
       have hc5' := fun i => cell_of_row w5 w.heap.size i _ _ _ ((hB5.block _ hs4).trans H4.out.2.1)
       have H5 := Lib.hid (And.intro (H4.out.1.trans (hB5.mono H4.out.1.size)) (And.intro ((hB5.block _ hs4).trans H4.out.2.1) (And.intro ((H4.out.2.2.below hB5).mono hB5.size) hD2)))
       clear hB5 hc4' hD2)
    | (go_at_call 14; refine (HC.out.s1 w3 H3.out.1).mono ?_; rintro e w4 ⟨D1, q1, rfl, hD1, hB4⟩
       have hs4 : w.heap.size < w4.heap.size := by have := hB4.size; omega
       have hc4' := fun i => cell_of_row w4 w.heap.size i _ _ _ ((hB4.block _ hs3).trans H3.out.2)
       have H4 := Lib.hid (And.intro (H3.out.1.trans (hB4.mono H3.out.1.size)) (And.intro ((hB4.block _ hs3).trans H3.out.2) hD1))
       clear hB4 hc3' hD1))
  have hU : Bnd 0 30 (T.map (·.2)) := by
    rw [Bnd.iff_mem]
    intro x hx
    simp only [List.mem_map] at hx
    obtain ⟨e, he, rfl⟩ := hx
    obtain ⟨a, _, ha1, _, ha3, _⟩ := HT.out.2.1 e he
    rw [ha3]
    exact HN.out.2.2.2.2.2.1 a ha1
  have HU := Lib.hid hU
  obtain ⟨w8, hw8⟩ : ∃ w8, (w6.alloc (.cells #[.int .i64 s, .int .i64 n] 76)).alloc (.cells (ints (List.replicate g.start.length 0)).toArray 3) = w8 := ⟨_, rfl⟩
  have hb8 : Below w6.heap.size w6 w8 := by rw [← hw8]; exact ((Below.refl _ _).alloc (Nat.le_refl _) _).alloc (by simp) _
  have hs8 : w8.heap[w6.heap.size]? = some (.cells #[.int .i64 s, .int .i64 n] 76 (0, 0)) := by rw [← hw8]; exact alloc2_at0 _ _ _
  have hg8 : w8.heap[w6.heap.size + 1]? = some (.cells (ints (List.replicate g.start.length 0)).toArray 3 (0, 0)) := by rw [← hw8]; exact alloc2_at1 _ _ _
  have H8 := Lib.hid (And.intro hb8 (And.intro hs8 hg8))
  rw [hw8]
  clear hw8 hb8 hs8 hg8 hc6' hx0 hx1 hmk hU he0 he1
  go_loopg [13, 107] T.length (fun gg s13 s107 wx => ∃ (i : Nat), i + gg = T.length ∧ s107 = .int .i64 i ∧ s13 = .int .i64 (((T.map (·.2)).take i).sum) ∧ Hid (KL w6 g.start.length Y s n T i wx))
  case atStart => exact ⟨0, by omega, rfl, rfl, H8.out.1, H8.out.2.1, H8.out.2.2⟩
  case round =>
    obtain ⟨i, hig, rfl, rfl, hI⟩ := hrel
    cases gk with
    | zero =>
      obtain rfl : i = T.length := by omega
      have hbg := hI.out.bg
      rw [List.take_length, HT.out.1.1] at hbg
      have hSn : ((T.map (·.2)).take T.length).sum = n := by
        rw [show T.length = (T.map (·.2)).length by simp, List.take_length]
        exact HT.out.1.2
      rw [hSn]
      have hl1 : L.length = d + 1 := HN.out.1
      have hl2 : A.length = d + 1 := HN.out.2.1
      have hl3 : G.length = d + 1 := HN.out.2.2.1
      obtain ⟨b1, o1, hb1, hb1l, hq1⟩ := H6.out.2.2.1 (by omega)
      obtain ⟨b2, o2, hb2, hb2l, hq2⟩ := H6.out.2.2.2.1 (by omega)
      subst hb1 hb2
      have hcl : ∀ j, j < d + 1 → ∀ W, Below w6.heap.size w6 W → W.cell? ⟨b1, o1 + j, none⟩ = some (.int .i64 (L[j]?.getD 0)) := fun j hj W hW => (hW.cell (p := ⟨b1, o1 + j, none⟩) hb1l).trans (hq1 j (by omega))
      have hca : ∀ j, j < d + 1 → ∀ W, Below w6.heap.size w6 W → W.cell? ⟨b2, o2 + j, none⟩ = some (.int .i64 (A[j]?.getD 0)) := fun j hj W hW => (hW.cell (p := ⟨b2, o2 + j, none⟩) hb2l).trans (hq2 j (by omega))
      have hls := HN.out.2.2.2.2.2.2.1
      have hdi : wr.cell? ⟨b1, o1 + (g.start.length - 1), none⟩ = some (.int .i64 (L[d]?.getD 0)) := by rw [HDL.out]; exact hcl d (by omega) wr hI.out.bel
      have hsuL := fun W hz => refSum_any (some ⟨b1, o1, none⟩) q1 L W.heap.size W hz (by omega) (fun k hk => by have := HN.out.2.2.2.1 k hk; omega)
      have hsuA := fun W hz => refSum_any (some ⟨b2, o2, none⟩) q2 A W.heap.size W hz (by omega) (fun k hk => by have := HN.out.2.2.2.2.1 k hk; omega)
      rw [hl1, ← hls] at hsuL
      rw [hl2, ← hls] at hsuA
      have hsb := sum_nonneg HN.out.2.2.2.1
      have hsb2 := sum_le HN.out.2.2.2.1
      have hDb := HN.out.2.2.2.1 d (by omega)
      have hSA := HF.out.2.2.2.2.2
      have ha0 : ∀ W, Below w6.heap.size w6 W → W.cell? ⟨b2, o2, none⟩ = some (.int .i64 s) := fun W hW => by
        have := hca 0 (by omega) W hW
        rw [HF.out.1] at this
        exact this
      generalize L[d]?.getD 0 = D at hdi hDb hSA
      generalize L.sum = SL at hsuL hsb hsb2 hSA
      generalize A.sum = SA at hsuA hSA
      have hx1 : IntKind.i64.wrap (SL + s) = SL + s := IntWalk.i64_in _ (by omega)
      have hx2 : IntKind.i64.wrap (SL + s - n) = SL + s - n := IntWalk.i64_in _ (by omega)
      have hx3 : IntKind.i64.wrap (SL + s - n - D) = SA := by rw [IntWalk.i64_in _ (by omega)]; omega
      have HX := Lib.hid (And.intro hcl (And.intro hca (And.intro ha0 (And.intro hsuL hsuA))))
      have HBG := Lib.hid hbg
      have HLS := Lib.hid (And.intro hls (And.intro hl1 (And.intro hl2 hl3)))
      have hlz0 : ¬ g.start.length = 0 := by omega
      clear hcl hca ha0 hsuL hsuA hbg hls hl1 hl2 hl3 hq1 hq2 hSn hsb hsb2 hDb hSA
      go_wp2
      refine R2.wp_walk (C := Below wr.heap.size wr) (S := fun _ => Grows) 238 (by kernel_rfl) (by kernel_rfl) rfl (fun _ => Grows.refl) (Below.refl _ _).drew ?_
      simp only []
      repeat (first
        | (refine R2.WalkR.un (fun _ => rfl) ?_
           simp only [Act.put, List.setIfInBounds_toArray, List.set_cons_succ, List.set_cons_zero])
        | (refine' R2.WalkR.det (fun _ => rfl) rfl (fun ρ W hW hH hU => ?_) ?_
           rotate_left
           · clear hH hU
             have hB := hI.out.bel.trans (hW.mono hI.out.bel.size)
             have hcs := fun i => cell_of_row W w6.heap.size i _ _ _ ((hW.block _ (lt_of_heap hI.out.bs)).trans hI.out.bs)
             have h0 := HX.out.2.2.1 W hB
             have HIL := Lib.hid (And.intro ((H6.out.2.2.1.below hB).mono hB.size) ((H6.out.2.2.2.1.below hB).mono hB.size))
             clear hB
             have HW := Lib.hid hW
             clear hW
             go_simp
             first
               | with_reducible exact ⟨rfl, Grows.refl _, HW.out⟩
               | ((with_reducible show Calls _ _ #[Value.slice (some ⟨b1, _, _⟩) _ _] _ _); go_at_call 35; refine (HX.out.2.2.2.1 W HIL.out.1).mono ?_; rintro e W1 ⟨rfl, rfl⟩; exact ⟨_, rfl, rfl, Grows.refl _, HW.out⟩)
               | ((with_reducible show Calls _ _ #[Value.slice (some ⟨b2, _, _⟩) _ _] _ _); go_at_call 35; refine (HX.out.2.2.2.2 W HIL.out.2).mono ?_; rintro e W1 ⟨rfl, rfl⟩; exact ⟨_, rfl, rfl, Grows.refl _, HW.out⟩)
           simp only [Act.put, List.setIfInBounds_toArray, List.set_cons_succ, List.set_cons_zero]))
      refine R2.WalkR.nil (fun ρ w10 hW hH hF => ?_)
      clear hH hF
      have hb10 : Below w6.heap.size w6 w10 := hI.out.bel.trans (hW.mono hI.out.bel.size)
      have H10 := Lib.hid (And.intro hb10 ((hW.block _ (lt_of_heap HBG.out)).trans HBG.out))
      clear hW hb10 hx1 hx2 hx3 hdi
      go_wp2
      obtain ⟨wo, rfl⟩ : ∃ wo : World, wo = wr := ⟨_, rfl⟩
      go_loopg [19, 20] d (fun gg s19 s20 wx => gg ≤ d ∧ s20 = .int .i64 (gg : Nat) ∧ s19 = .int .i64 ((A.drop (gg + 1)).sum) ∧ Hid (Below w10.heap.size w10 wx))
      case atStart => exact ⟨Nat.le_refl _, by rw [show ((g.start.length : Int) - 1) = d by have := HLS.out.1; omega], by rw [List.drop_of_length_le (by have := HLS.out.2.2.1; omega)]; rfl, Below.refl _ _⟩
      case round =>
        obtain ⟨hgd, rfl, rfl, hJ⟩ := hrel
        cases gk with
        | zero =>
          go_wp2
          go_ret
          exact ⟨rfl, H6.out.1.trans ((H10.out.1.trans (hJ.out.mono H10.out.1.size)).mono H6.out.1.size)⟩
        | succ gg =>
          have hbel := H10.out.1.trans (hJ.out.mono H10.out.1.size)
          have hA1 : ∀ W, Below wr.heap.size wr W → W.cell? ⟨b2, o2 + (gg + 1), none⟩ = some (.int .i64 (A[gg + 1]?.getD 0)) := fun W hW => HX.out.2.1 (gg + 1) (by omega) W (hbel.trans (hW.mono hbel.size))
          have hL1 : ∀ W, Below wr.heap.size wr W → W.cell? ⟨b1, o1 + gg, none⟩ = some (.int .i64 (L[gg]?.getD 0)) := fun W hW => HX.out.1 gg (by omega) W (hbel.trans (hW.mono hbel.size))
          have hG1 : ∀ W, Below wr.heap.size wr W → W.cell? ⟨w6.heap.size + 1, gg + 1, none⟩ = some (.int .i64 (G[gg + 1]?.getD 0)) := fun W hW => by
            have hb : W.heap[w6.heap.size + 1]? = some (.cells (ints G).toArray 3 (0, 0)) := ((hJ.out.trans (hW.mono hJ.out.size)).block _ (lt_of_heap H10.out.2)).trans H10.out.2
            exact (cell_of_row W _ _ _ _ _ hb).trans (ints_at _ _ (by have := HLS.out.2.2.2; omega))
          obtain ⟨hai, hai0⟩ := HF.out.2.1 (gg + 1) (by omega) (by omega)
          rw [Nat.add_sub_cancel] at hai
          have hold := HF.out.2.2.1 (gg + 1) (by omega)
          have hds := drop_sum_succ (c := A) (i := gg + 1) (by have := HLS.out.2.2.1; omega)
          have hab := HN.out.2.2.2.2.1 (gg + 1) (by have := HLS.out.2.2.1; omega)
          have hO0 := sum_nonneg (HN.out.2.2.2.2.1.dropB (gg + 1 + 1))
          have hO1 := sum_le (HN.out.2.2.2.2.1.dropB (gg + 1 + 1))
          have hO2 : ((A.drop (gg + 1 + 1)).length : Int) ≤ 7 := by have := HLS.out.2.2.1; simp; omega
          generalize (A.drop (gg + 1 + 1)).sum = O at hold hds hO0 hO1
          have hO3 : O ≤ 210 := by omega
          generalize A[gg + 1]?.getD 0 = x at hA1 hai hai0 hds hab
          generalize L[gg]?.getD 0 = l at hL1 hai
          generalize G[gg + 1]?.getD 0 = c at hG1 hai hold
          have qa : IntKind.i64.wrap (l - c) = x := by rw [IntWalk.i64_in _ (by omega)]; omega
          have qb : decide (x < 0) = false := by rw [decide_eq_false_iff_not]; omega
          have qh : IntKind.i64.wrap (gg : Int) = gg := IntWalk.i64_in _ (by omega)
          have qf : IntKind.i64.wrap (((gg + 1 : Nat) : Int) - 1) = gg := by
            rw [show ((gg + 1 : Nat) : Int) - 1 = gg by omega]
            exact qh
          have hi1 : ((gg : Int) + 1) < g.start.length := by have := HLS.out.1; omega
          have hi2 : (gg : Int) < g.start.length := by omega
          have hi3 : gg + 1 < g.start.length := by omega
          have hi4 : gg < g.start.length := by omega
          have hi5 : (0 : Int) ≤ (gg : Int) + 1 := by omega
          have hi6 : ((gg : Int) + 1).toNat = gg + 1 := by omega
          have HA1 := Lib.hid (And.intro hA1 (And.intro hL1 hG1))
          have HDS := Lib.hid hds
          have HBL := Lib.hid hbel
          have hold' : 0 < c → O ≤ 0 := fun h => by have := hold h; omega
          clear hA1 hL1 hG1 hai hold hds hO1 hO2 hbel
          by_cases hp : 0 < c
          case pos =>
            have hO := hold' hp
            have qc : decide (0 < c) = true := by rw [decide_eq_true_iff]; exact hp
            have qd : decide (0 < O) = false := by rw [decide_eq_false_iff_not]; omega
            clear hold' hp
            go_wp2
            refine R2.wp_walk (C := Below wr.heap.size wr) (S := fun _ => Grows) 238 (by kernel_rfl) (by kernel_rfl) rfl (fun _ => Grows.refl) (Below.refl _ _).drew ?_
            simp only []
            repeat (first
              | (refine R2.WalkR.un (fun _ => rfl) ?_
                 simp only [Act.put, List.setIfInBounds_toArray, List.set_cons_succ, List.set_cons_zero])
              | (refine' R2.WalkR.det (fun _ => rfl) rfl (fun ρ W hW hH hU => ?_) ?_
                 rotate_left
                 · clear hH hU
                   have h1 := HA1.out.1 W hW
                   have h2 := HA1.out.2.1 W hW
                   have h3 := HA1.out.2.2 W hW
                   have HW := Lib.hid hW
                   clear hW
                   go_simp
                   first
                     | with_reducible exact ⟨rfl, Grows.refl _, HW.out⟩
                 simp only [Act.put, List.setIfInBounds_toArray, List.set_cons_succ, List.set_cons_zero]))
            refine R2.WalkR.nil (fun ρ w11 hW hH hF => ?_)
            clear hH hF
            have h1 := HA1.out.1 w11 hW
            have HW := Lib.hid hW
            clear hW
            go_wp2
            go_roundg gg
            case measure => omega
            case rel => exact ⟨by omega, by go_num, by rw [HDS.out]; congr 1; omega, hJ.out.trans (HW.out.mono hJ.out.size)⟩
          case neg =>
            have qc : decide (0 < c) = false := by rw [decide_eq_false_iff_not]; exact hp
            clear hold' hp
            go_wp2
            refine R2.wp_walk (C := Below wr.heap.size wr) (S := fun _ => Grows) 238 (by kernel_rfl) (by kernel_rfl) rfl (fun _ => Grows.refl) (Below.refl _ _).drew ?_
            simp only []
            repeat (first
              | (refine R2.WalkR.un (fun _ => rfl) ?_
                 simp only [Act.put, List.setIfInBounds_toArray, List.set_cons_succ, List.set_cons_zero])
              | (refine' R2.WalkR.det (fun _ => rfl) rfl (fun ρ W hW hH hU => ?_) ?_
                 rotate_left
                 · clear hH hU
                   have h1 := HA1.out.1 W hW
                   have h2 := HA1.out.2.1 W hW
                   have h3 := HA1.out.2.2 W hW
                   have HW := Lib.hid hW
                   clear hW
                   go_simp
                   first
                     | with_reducible exact ⟨rfl, Grows.refl _, HW.out⟩
                 simp only [Act.put, List.setIfInBounds_toArray, List.set_cons_succ, List.set_cons_zero]))
            refine R2.WalkR.nil (fun ρ w11 hW hH hF => ?_)
            clear hH hF
            have h1 := HA1.out.1 w11 hW
            have HW := Lib.hid hW
            clear hW
            go_wp2
            go_roundg gg
            case measure => omega
            case rel => exact ⟨by omega, by go_num, by rw [HDS.out]; congr 1; omega, hJ.out.trans (HW.out.mono hJ.out.size)⟩
    | succ gg =>
      have hti : i < T.length := by omega
      have htz : (i : Int) < T.length := by omega
      obtain ⟨b3, o3, hb3, hb3l, hq3⟩ := H6.out.2.2.2.2 (by rw [pairs_len]; omega)
      subst hb3
      have hpa := pairs_at T i hti
      obtain ⟨a, -, ha1, ha2, ha3, ha4⟩ := HT.out.2.1 T[i] (List.getElem_mem hti)
      have har : r ≤ a := Nat.le_of_not_lt fun h => by
        have := HF.out.2.2.2.1 a h
        omega
      have had : a ≤ d := by have := HN.out.2.2.1; omega
      have hbG := HN.out.2.2.2.2.2.1 a ha1
      have hTi1 : T.take (i + 1) = T.take i ++ [T[i]] := List.take_succ_eq_append_getElem hti
      have hput := putL_snoc Y (List.replicate g.start.length 0) (T.take i) T[i]
      rw [← hTi1] at hput
      have hsum := sum_take_succ (T.map (·.2)) i (by simpa using hti)
      have hsb := sum_take_bnd HU.out i (by simp; omega)
      have hni : (T.map (·.2))[i]?.getD 0 = T[i].2 := by simp [hti]
      rw [hni] at hsum
      have hTg : T[i]?.getD (0, 0) = T[i] := by simp [hti]
      rw [hTg] at hpa
      have hprev : ∀ j, j + 1 = i → (T[j]?.getD (0, 0)).1 < T[i].1 ∧ (pairs T)[j * 2]? = some (.int .i64 (T[j]?.getD (0, 0)).1) := fun j hj => by
        have hjl : j < T.length := by omega
        refine ⟨?_, (pairs_at T j hjl).1⟩
        have := List.pairwise_iff_getElem.1 HT.out.2.2.1 j i hjl hti (by omega)
        simpa [hjl] using this
      generalize T[i] = t at ha2 ha3 hput hsum hpa hprev
      obtain ⟨sh, nm⟩ := t
      simp only at ha2 ha3 hput hsum hpa hprev
      rw [show (Y - sh).toNat = a by omega] at hput
      have hsh : Y - sh = (a : Int) := by omega
      have hnm : 1 ≤ nm := by omega
      have hnm30 : nm ≤ 30 := by omega
      have hrip : g.hab.ripe ≤ a := by have := HD.out.2; omega
      have hdie : (a : Int) ≤ g.hab.dies := by have := HD.out.1; omega
      have haz : (a : Int) < g.start.length := by have := HN.out.2.2.2.2.2.2.1; omega
      have hh0 : ∀ W, Below w6.heap.size w6 W → W.cell? ⟨b3, o3 + i * 2, none⟩ = some (.int .i64 sh) := fun W hW => (hW.cell (p := ⟨b3, o3 + i * 2, none⟩) hb3l).trans (hq3 _ _ hpa.1)
      have hh1 : ∀ W, Below w6.heap.size w6 W → W.cell? ⟨b3, o3 + i * 2 + 1, none⟩ = some (.int .i64 nm) := fun W hW => (hW.cell (p := ⟨b3, o3 + i * 2 + 1, none⟩) hb3l).trans (hq3 _ _ hpa.2)
      have hc0 := hh0 wr hI.out.bel
      have hc1' := hh1 wr hI.out.bel
      have hq3' : ∀ j u, (pairs T)[j]? = some u → ∀ W, Below w6.heap.size w6 W → W.cell? ⟨b3, o3 + j, none⟩ = some u := fun j u hu W hW => (hW.cell (p := ⟨b3, o3 + j, none⟩) hb3l).trans (hq3 j u hu)
      have HP := Lib.hid (And.intro hprev hq3')
      generalize ((T.map (·.2)).take i).sum = S at hsum hsb
      have hS0 : 0 ≤ S := by omega
      have hS1 : S ≤ 210 := by omega
      have HSM := Lib.hid (And.intro hsum hput)
      have HA4 := Lib.hid (And.intro ha1 (And.intro ha2 (And.intro ha3 ha4)))
      clear hq3 hpa hprev hq3' hsum hput hTi1 hni hTg hh0 hh1 hsb ha1 ha2 ha3 ha4 hbG
      have hgr : ∀ W, Below wr.heap.size wr W → W.heap[w.heap.size]? = some (.cells (gcs g A1 c1 (some ⟨bs, os, none⟩) c2) 29 (0, 0)) := fun W hW => (hW.block _ (Nat.lt_of_lt_of_le hs6 hI.out.bel.size)).trans ((hI.out.bel.block _ hs6).trans H6.out.2.1)
      have HGR := Lib.hid hgr
      clear hgr
      go_wp2
      obtain ⟨w9, hw9⟩ : ∃ w9, wr.alloc (.cells #[.int .i64 sh, .int .i64 nm] 78) = w9 := ⟨_, rfl⟩
      have hb9 : Below wr.heap.size wr w9 := by rw [← hw9]; exact (Below.refl _ _).alloc (Nat.le_refl _) _
      have ht9 : w9.heap[wr.heap.size]? = some (.cells #[.int .i64 sh, .int .i64 nm] 78 (0, 0)) := by rw [← hw9]; exact alloc_at0 _ _
      have H9 := Lib.hid (And.intro hb9 ht9)
      rw [hw9]
      clear hw9 hb9 ht9 hc0 hc1'
      have done : ∀ W, Below w9.heap.size w9 W → W.heap[w6.heap.size + 1]? = some (.cells (ints (putL Y (List.replicate g.start.length 0) (T.take i))).toArray 3 (0, 0)) ∧ W.heap[w6.heap.size]? = some (.cells #[.int .i64 s, .int .i64 n] 76 (0, 0)) ∧ Below w6.heap.size w6 W ∧ W.heap[wr.heap.size]? = some (.cells #[.int .i64 sh, .int .i64 nm] 78 (0, 0)) ∧ Below wr.heap.size wr W := fun W hW => by
        have h1 := H9.out.1.trans (hW.mono H9.out.1.size)
        exact ⟨(h1.block _ (lt_of_heap hI.out.bg)).trans hI.out.bg, (h1.block _ (lt_of_heap hI.out.bs)).trans hI.out.bs, hI.out.bel.trans (h1.mono hI.out.bel.size), (hW.block _ (lt_of_heap H9.out.2)).trans H9.out.2, h1⟩
      have HDN := Lib.hid done
      clear done
      have qa : decide (nm < 1) = false := by rw [decide_eq_false_iff_not]; omega
      have qb : decide ((a : Int) < g.hab.ripe) = false := by rw [decide_eq_false_iff_not]; omega
      have qc : decide (g.hab.dies < (a : Int)) = false := by rw [decide_eq_false_iff_not]; omega
      have fin : ∀ W10, Below w9.heap.size w9 W10 → Below wr.heap.size wr W10 := fun W hW => (HDN.out W hW).2.2.2.2
      rcases i with _ | j
      case zero =>
        have qd : decide ((0 : Int) < ((0 : Nat) : Int)) = false := by decide
        refine R2.wp_walk (C := Below w9.heap.size w9) (S := fun _ => Grows) 238 (by kernel_rfl) (by kernel_rfl) rfl (fun _ => Grows.refl) (Below.refl _ _).drew ?_
        simp only []
        repeat (first
          | (refine R2.WalkR.un (fun _ => rfl) ?_
             simp only [Act.put, List.setIfInBounds_toArray, List.set_cons_succ, List.set_cons_zero])
          | (refine' R2.WalkR.det (fun _ => rfl) rfl (fun ρ W hW hH hU => ?_) ?_
             rotate_left
             · clear hH hU
               have hct := fun i => cell_of_row W wr.heap.size i _ _ _ (HDN.out W hW).2.2.2.1
               have hcg := fun i => cell_of_row W w.heap.size i _ _ _ (HGR.out W (HDN.out W hW).2.2.2.2)
               have HW := Lib.hid hW
               clear hW
               go_simp
               first
                 | with_reducible exact ⟨rfl, Grows.refl _, HW.out⟩
             simp only [Act.put, List.setIfInBounds_toArray, List.set_cons_succ, List.set_cons_zero]))
        refine R2.WalkR.nil (fun ρ W10 hW hH hF => ?_)
        clear hH hF
        have hE := HDN.out W10 hW
        have hct := fun i => cell_of_row W10 wr.heap.size i _ _ _ hE.2.2.2.1
        have hga : W10.cell? ⟨w6.heap.size + 1, a, none⟩ = _ := (cell_of_row W10 (w6.heap.size + 1) a _ _ _ hE.1).trans (ints_at _ a (by rw [putL_len]; simp; omega))
        have hfa : W10.frozen? ⟨w6.heap.size + 1, a, none⟩ = false := frozen_of_row W10 _ a _ _ hE.1
        have hwr := lt_of_heap hI.out.bg
        have hwr1 : wr.heap.size ≠ w6.heap.size + 1 := by omega
        have hwr2 : w6.heap.size + 1 ≠ wr.heap.size := by omega
        have HE := Lib.hid hE
        clear hE hW
        go_wp2
        go_roundg gg
        case measure => omega
        case rel => exact ⟨1, by omega, by go_num, by rw [HSM.out.1], KL.put HE.out.1 HE.out.2.1 HE.out.2.2.1 HSM.out.2⟩
      case succ =>
        obtain ⟨hp1, hp2⟩ := HP.out.1 j rfl
        have hp3 := HP.out.2 _ _ hp2
        generalize (T[j]?.getD (0, 0)).1 = sh' at hp1 hp3
        have qd : decide ((0 : Int) < ((j + 1 : Nat) : Int)) = true := by rw [decide_eq_true_iff]; omega
        have qe : decide (sh ≤ sh') = false := by rw [decide_eq_false_iff_not]; omega
        have qf : IntKind.i64.wrap (((j + 1 : Nat) : Int) - 1) = j := by
          rw [show ((j + 1 : Nat) : Int) - 1 = j by omega]
          exact IntWalk.i64_in _ (by omega)
        have qg : (j : Int) < T.length := by omega
        have qh : IntKind.i64.wrap (j : Int) = j := IntWalk.i64_in _ (by omega)
        have qi : j < T.length := by omega
        have HP3 := Lib.hid hp3
        clear hp1 hp2 hp3
        refine R2.wp_walk (C := Below w9.heap.size w9) (S := fun _ => Grows) 238 (by kernel_rfl) (by kernel_rfl) rfl (fun _ => Grows.refl) (Below.refl _ _).drew ?_
        simp only []
        repeat (first
          | (refine R2.WalkR.un (fun _ => rfl) ?_
             simp only [Act.put, List.setIfInBounds_toArray, List.set_cons_succ, List.set_cons_zero])
          | (refine' R2.WalkR.det (fun _ => rfl) rfl (fun ρ W hW hH hU => ?_) ?_
             rotate_left
             · clear hH hU
               have hct := fun i => cell_of_row W wr.heap.size i _ _ _ (HDN.out W hW).2.2.2.1
               have hcg := fun i => cell_of_row W w.heap.size i _ _ _ (HGR.out W (HDN.out W hW).2.2.2.2)
               have hpc := HP3.out W (HDN.out W hW).2.2.1
               have HW := Lib.hid hW
               clear hW
               go_simp
               first
                 | with_reducible exact ⟨rfl, Grows.refl _, HW.out⟩
             simp only [Act.put, List.setIfInBounds_toArray, List.set_cons_succ, List.set_cons_zero]))
        refine R2.WalkR.nil (fun ρ W10 hW hH hF => ?_)
        clear hH hF
        have hE := HDN.out W10 hW
        have hct := fun i => cell_of_row W10 wr.heap.size i _ _ _ hE.2.2.2.1
        have hga : W10.cell? ⟨w6.heap.size + 1, a, none⟩ = _ := (cell_of_row W10 (w6.heap.size + 1) a _ _ _ hE.1).trans (ints_at _ a (by rw [putL_len]; simp; omega))
        have hfa : W10.frozen? ⟨w6.heap.size + 1, a, none⟩ = false := frozen_of_row W10 _ a _ _ hE.1
        have hwr := lt_of_heap hI.out.bg
        have hwr1 : wr.heap.size ≠ w6.heap.size + 1 := by omega
        have hwr2 : w6.heap.size + 1 ≠ wr.heap.size := by omega
        have HE := Lib.hid hE
        clear hE hW
        go_wp2
        go_roundg gg
        case measure => omega
        case rel => exact ⟨j + 2, by omega, by go_num, by rw [HSM.out.1], KL.put HE.out.1 HE.out.2.1 HE.out.2.2.1 HSM.out.2⟩

theorem clumpKept_law (g : Gr) (y : Int) (A1 : Option Addr) (c1 : Nat) (A2 : Option Addr) (c2 : Nat) (w : World) (hG : GrAt w w.heap.size g A1 c1 A2 c2) :
    Calls Try.prog 9 #[grv g A1 c1 A2 c2, .int .i64 y] w fun e w' => e = .returned (.bool true) ∧ Below w.heap.size w w' := by
  by_cases h : great g = true ∨ okGrove g = false ∨ y ≤ g.first ∨ g.first + g.seas.length < y
  · exact clumpKept_idle g y A1 c1 A2 c2 w hG h
  · simp only [not_or, Bool.not_eq_true, Bool.not_eq_false] at h
    obtain ⟨hgr, hok, hy1, hy2⟩ := h
    obtain ⟨k, hk⟩ : ∃ k : Nat, y = g.first + ((k : Int) + 1) := ⟨(y - g.first - 1).toNat, by omega⟩
    have hkl : k < g.seas.length := by omega
    subst hk
    obtain ⟨d, r, R⟩ := okGrove_runs hok
    obtain ⟨⟨v1, e1⟩, ⟨v2, e2⟩, v3⟩ := kept_vals hok hkl
    have yr := R.yr k hkl
    have bL := R.bnd k (by omega)
    have hls := R.pre.ls
    have hll : (runL g.start (g.seas.take k)).length = d + 1 := by rw [runL_len, hls]
    have hd6 := R.pre.d6
    have hrd := R.pre.rd
    have hr1 := R.pre.r1
    have K := keptF (r := r) (l := runL g.start (g.seas.take k)) (s := (g.seas[k]?.getD (0, 0)).1) (n := (g.seas[k]?.getD (0, 0)).2) (M := 30) (by omega) (by omega) hr1 bL yr.1.1 yr.1.2 yr.2.1.1 yr.2.2
    have hs1 := fun W (hW : Below w.heap.size w W) => stand_any g (g.first + k) A1 c1 A2 c2 w.heap.size W hW.size (hG.below hW)
    have hs2 := fun W (hW : Below w.heap.size w W) => stand_any g (g.first + ((k : Int) + 1)) A1 c1 A2 c2 w.heap.size W hW.size (hG.below hW)
    have htk := fun W (hW : Below w.heap.size w W) => taken_any g (g.first + ((k : Int) + 1)) A1 c1 A2 c2 w.heap.size W hW.size (hG.below hW)
    rw [v1, e1] at hs1
    rw [v2, e2] at hs2
    rw [v3, e2] at htk
    have e0 : errG g = 0 := by simp [errG, hok]
    have hck := fun W (hW : Below w.heap.size w W) => refCheck_any g A1 c1 A2 c2 w.heap.size W hW.size (hG.below hW)
    rw [e0] at hck
    have hgt := fun W => refGreat_any g A1 c1 A2 c2 W
    rw [hgr] at hgt
    refine clumpKept_main g k _ rfl hkl (runL g.start (g.seas.take k)) (yearL (runL g.start (g.seas.take k)) (g.seas[k]?.getD (0, 0)).1 (g.seas[k]?.getD (0, 0)).2) (goneL (runL g.start (g.seas.take k)) (g.seas[k]?.getD (0, 0)).1 (g.seas[k]?.getD (0, 0)).2) (g.seas[k]?.getD (0, 0)).1 (g.seas[k]?.getD (0, 0)).2 d r R.pre.hd R.pre.hr hls hd6 hrd hr1 R.pre.f0 R.pre.f1 R.pre.l60 A1 c1 A2 c2 w
      ⟨hG, fun W => alive_any W, hgt, hck, fun W hW => (hs1 W hW).mono fun e w' h => LenPost.of h (by rw [hll, hls]), fun W hW => (hs2 W hW).mono fun e w' h => LenPost.of h (by rw [yearL_len, hll, hls]), htk, rfl⟩
      hll (by rw [yearL_len, hll]) (by rw [goneL_len, hll]) bL (yearL_bnd bL (by omega) yr.1.1 yr.1.2 yr.2.1.1 yr.2.1.2) (goneL_bnd (by omega) bL yr.1.1 yr.1.2 yr.2.1.1 yr.2.1.2) yr.1 yr.2.1
      K.a0 (fun i h0 h1 => K.ai i h0 (by omega)) (fun i h0 h1 => K.old i (by omega) h1) K.rip K.cut ?_
    have := K.sum
    rw [hll] at this
    simpa using this

end Go.Proofs.Ytanjolmelbipoaa
