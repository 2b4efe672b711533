/-
  Texts laid together: FvS, FvU, FvT.
-/
import Derived.Test.YtjjipkgconmfcaaQM93
import Derived.Test.YtjjipkgconmfcaaB918
import Derived.Test.YtjjipkgconmfcaaB915
import Derived.Test.YtjjipkgconmfcaaB921
import Derived.Test.YtjjipkgconmfcaaB97
set_option linter.all false
namespace Go.Proofs.Ytjjipkgconmfcaa
open Go.RowKit Go.Maps
open R6 (done done_ne done_me upd_ne upd_me)

attribute [local go_sem] gives

/-- A box of a blank. -/
structure MoS (w0 : World) (t : Nat) (x : List Value) (W : World) : Prop where
  bel : Below w0.heap.size w0 W
  m : W.heap[t]? = some (.cells x.toArray 34 (0, 0))
theorem MoS.put {w0 W W' : World} {t : Nat} {x y : List Value} (h : MoS w0 t x W) (h0 : w0.heap.size ≤ t) (hb : Below t W W') (hM : W'.heap[t]? = some (.cells y.toArray 34 (0, 0))) : MoS w0 t y W' := ⟨h.bel.trans (hb.mono h0), hM⟩
theorem MoS.low {w0 W W' : World} {t c : Nat} {x : List Value} (h : MoS w0 t x W) (hb : Below c W W') (ht : t < c) (h0 : w0.heap.size ≤ c) : MoS w0 t x W' := ⟨h.bel.trans (hb.mono h0), (hb.block _ ht).trans h.m⟩

set_option maxRecDepth 100000 in
set_option maxHeartbeats 16000000 in
theorem fluteMore_some (b : Bk) (hlb : b.zs.length ≤ 1000000) (A1 : Option Addr) (cap1 : Nat) (os : List (Int × Int)) (hlo : os.length ≤ 1000000) (A : Option Addr) (cap : Nat) (us : List Int) (B : Nat) (w : World) (hB : B ≤ w.heap.size) (hz : BkAt w B b) (ho : Vals w B A1 (pairs os)) (hby : ByAt w B A us) :
    Calls Try.prog 12 #[.agg (bkc b).toArray, .slice A1 os.length cap1, .slice A us.length cap] w fun e w' => e = .returned (.bool true) ∧ Below w.heap.size w w' := by
  obtain ⟨w1, hw1⟩ : ∃ w1, w.alloc (.cells (bkc b).toArray 34) = w1 := ⟨_, rfl⟩
  have hb1 : Below w.heap.size w w1 := by rw [← hw1]; exact grow1 _ _
  have m0 : w1.heap[w.heap.size]? = some (.cells (bkc b).toArray 34 (0, 0)) := by rw [← hw1]; exact alloc_at0 _ _
  have hz1 := hz.below (hb1.mono hB)
  have ho1 := ho.below (hb1.mono hB)
  have hby1 := hby.below (hb1.mono hB)
  have hB1 := Nat.le_trans hB hb1.size
  have HAL := Lib.hid (fun W => alive_any W)
  have hrd := fun W (hW : Below w1.heap.size w1 W) => drilling_any b hlb A1 cap1 os hlo B W (Nat.le_trans hB1 hW.size) (hz1.below (hW.mono hB1)) (ho1.below (hW.mono hB1))
  have hdr := fun W (hW : Below w1.heap.size w1 W) => drill_any b hlb A1 cap1 os hlo B W (Nat.le_trans hB1 hW.size) (hz1.below (hW.mono hB1)) (ho1.below (hW.mono hB1))
  have HAT := Lib.hid (fun (i : Int) (h0 : 0 ≤ i) W (hW : Below w1.heap.size w1 W) => at9_any A cap us i h0 B W (hby1.below (hW.mono hB1)).va hby.ln)
  have HAB := Lib.hid (fun i => atL_bnd hby (i := i))
  have hcf := fun (W : World) (hW : Below w1.heap.size w1 W) i => cell_of_row W w.heap.size i _ _ _ ((hW.block _ (lt_of_heap m0)).trans m0)
  have H1 := Lib.hid hb1
  have HZ1 := Lib.hid (And.intro hz1 (And.intro (show Vals w1 B A1 (os.flatMap sp2) from ho1) hB1))
  have HLT := Lib.hid (lt_of_heap m0)
  unfold DriPost at hdr
  clear hz ho hb1 m0 hz1 ho1 hby1 hby
  unfold bkc at hw1 hcf hrd hdr ⊢
  have HCF := Lib.hid hcf
  clear hcf
  have hrk : drlF b os = true → okBk b = true ∧ okNos os = true := fun h => by
    simp only [drlF, Bool.and_eq_true] at h; exact h.2
  generalize drlF b os = v1 at hrd hrk
  have HRD := Lib.hid hrd
  clear hrd
  cases v1
  · clear hrk hdr
    go_enter Try.func12, Try.ntmps12
    go_wp2_with (first
      | (go_at_call 13; refine (HAL.out _).mono ?_; rintro e w2 ⟨rfl, hB2⟩; have hc2 := HCF.out w2 hB2; have H2 := Lib.hid hB2; clear hB2)
      | (go_at_call 36; (with_reducible refine (HRD.out w2 H2.out).mono ?_); rintro e w3 ⟨rfl, hB3⟩; have H3 := Lib.hid (H2.out.trans (hB3.mono H2.out.size)); clear hB3))
    go_ret
    exact ⟨rfl, H1.out.trans (H3.out.mono H1.out.size)⟩
  obtain ⟨hok, hno⟩ := hrk rfl
  clear hrk
  have hcs := dri_cases hok hno
  have hmo := fun he => dri_more hok hno us he
  have hmb := mor_ok hok us
  have hmn := wid_oks hno us
  have hob : (50 ≤ b.len ∧ b.len ≤ 20000) ∧ (1 ≤ b.gap ∧ b.gap ≤ 20000) ∧ (0 ≤ b.near ∧ b.near ≤ 20000) := by
    have h := okBk_bnd hok
    exact ⟨h.1, h.2.2.1, h.2.2.2.1⟩
  have hos : os.length ≤ 9 ∧ ∀ o ∈ os, okNo1 o = true := by
    simp only [okNos, Bool.and_eq_true, decide_eq_true_eq, List.all_eq_true] at hno
    exact ⟨hno.1.2, hno.2⟩
  generalize driL b os = L at hdr hmo
  generalize driE b os = de at hdr hmo hcs
  rcases hcs with rfl | rfl
  rotate_left
  · have HDR := Lib.hid hdr
    clear hdr hmo hmb hmn hob hos hok hno
    go_enter Try.func12, Try.ntmps12
    go_wp2_with (first
      | (go_at_call 13; refine (HAL.out _).mono ?_; rintro e w2 ⟨rfl, hB2⟩; have hc2 := HCF.out w2 hB2; have H2 := Lib.hid hB2; clear hB2)
      | (go_at_call 36; (with_reducible refine (HRD.out w2 H2.out).mono ?_); rintro e w3 ⟨rfl, hB3⟩; have hc3 := HCF.out w3 (H2.out.trans (hB3.mono H2.out.size)); have H3 := Lib.hid (H2.out.trans (hB3.mono H2.out.size)); clear hB3 hc2)
      | (go_at_call 23; (with_reducible refine (HDR.out w3 H3.out).mono ?_); rintro e w4 ⟨v, rfl, hU, hB4⟩; obtain ⟨A5, c5, rfl⟩ := own_shape hU; have H4 := Lib.hid (H3.out.trans (hB4.mono H3.out.size)); clear hU hB4))
    go_ret
    exact ⟨rfl, H1.out.trans (H4.out.mono H1.out.size)⟩
  obtain ⟨hm1, hm2, hm3, hm4⟩ := hmo rfl
  have HDR := Lib.hid hdr
  have HMO := Lib.hid (And.intro hm1 (And.intro hm2 (And.intro hm3 (And.intro hm4 (And.intro hmb hmn)))))
  have HOS := Lib.hid hos
  have hol9 : os.length ≤ 9 := hos.1
  have holz : (os.length : Int) ≤ 9 := by omega
  have hLl := hm3
  have hLz : (L.length : Int) ≤ 9 := by omega
  have HLL := Lib.hid hLl
  clear hdr hmo hm1 hm2 hm3 hm4 hmb hmn hos hok hno hLl
  obtain ⟨r0, hr0⟩ : ∃ r, remL (atL us 0) (20000 - b.len) = r := ⟨_, rfl⟩
  obtain ⟨r1, hr1⟩ : ∃ r, modL (atL us 1) b.gap = r := ⟨_, rfl⟩
  obtain ⟨r2, hr2⟩ : ∃ r, remL (atL us 2) b.near = r := ⟨_, rfl⟩
  have F0 := rem_facts2 (a := atL us 0) (m := 20000 - b.len) (HAB.out 0) (by omega)
  have F1 := mod_facts (a := atL us 1) (m := b.gap) (HAB.out 1) (by omega)
  have F2 := rem_facts2 (a := atL us 2) (m := b.near) (HAB.out 2) (by omega)
  rw [hr0] at F0
  rw [hr1] at F1
  rw [hr2] at F2
  have x0 : IntKind.i64.wrap (b.len + r0) = b.len + r0 := IntWalk.i64_in _ (by omega)
  have x1 : IntKind.i64.wrap (b.gap - r1) = b.gap - r1 := IntWalk.i64_in _ (by omega)
  have x2 : IntKind.i64.wrap (b.near - r2) = b.near - r2 := IntWalk.i64_in _ (by omega)
  have F0 := Lib.hid (And.intro F0 x0)
  have F1 := Lib.hid (And.intro F1 x1)
  have F2 := Lib.hid (And.intro F2 x2)
  have HRR := Lib.hid (And.intro hr0 (And.intro hr1 hr2))
  clear hr0 hr1 hr2 x0 x1 x2 hob
  go_enter Try.func12, Try.ntmps12
  go_wp2_with (first
    | (go_at_call 13; refine (HAL.out _).mono ?_; rintro e w2 ⟨rfl, hB2⟩; have hc2 := HCF.out w2 hB2; have H2 := Lib.hid hB2; clear hB2)
    | (go_at_call 36; (with_reducible refine (HRD.out w2 H2.out).mono ?_); rintro e w3 ⟨rfl, hB3⟩; have hc3 := HCF.out w3 (H2.out.trans (hB3.mono H2.out.size)); have H3 := Lib.hid (H2.out.trans (hB3.mono H2.out.size)); clear hB3 hc2)
    | (go_at_call 23; (with_reducible refine (HDR.out w3 H3.out).mono ?_); rintro e w4 ⟨v, rfl, hU, hB4⟩; obtain ⟨A5, c5, rfl⟩ := own_shape hU; have hc4 := HCF.out w4 (H3.out.trans (hB4.mono H3.out.size)); have H4 := Lib.hid (And.intro (H3.out.trans (hB4.mono H3.out.size)) hU); clear hU hB4 hc3))
  -- GEN
  obtain ⟨t, ht⟩ : ∃ t, t = w4.heap.size := ⟨_, rfl⟩
  obtain ⟨w7, hw7⟩ : ∃ w7, w4.alloc (.cells #[.int .i64 b.len, .int .i64 b.e0, .int .i64 b.e1, .int .i64 b.f0, .int .i64 b.f1, .int .i64 b.s0, .int .i64 b.s1, .int .i64 b.gap, .int .i64 b.near, .slice b.A b.zs.length b.cap] 34) = w7 := ⟨_, rfl⟩
  have m7 : w7.heap[t]? = some (.cells #[.int .i64 b.len, .int .i64 b.e0, .int .i64 b.e1, .int .i64 b.f0, .int .i64 b.f1, .int .i64 b.s0, .int .i64 b.s1, .int .i64 b.gap, .int .i64 b.near, .slice b.A b.zs.length b.cap] 34 (0, 0)) := by rw [← hw7, ht]; exact alloc_at0 _ _
  have g7 : Grows w4 w7 := by rw [← hw7]; exact grow1 _ _
  rw [hw7, ← ht]
  have H7 := Lib.hid (MoS.mk (w0 := w4) (t := t) (x := [.int .i64 b.len, .int .i64 b.e0, .int .i64 b.e1, .int .i64 b.f0, .int .i64 b.f1, .int .i64 b.s0, .int .i64 b.s1, .int .i64 b.gap, .int .i64 b.near, .slice b.A b.zs.length b.cap]) g7 m7)
  have hte : w4.heap.size ≤ t := by omega
  have HTE := Lib.hid hte
  have hlt4 : w.heap.size < w4.heap.size := Nat.lt_of_lt_of_le HLT.out H4.out.1.size
  have hts : w.heap.size ≠ t := by omega
  have HTS := Lib.hid (And.intro hts hlt4)
  have hs7 : w7.heap.size = t + 1 := by rw [← hw7, ht]; simp
  have HS7 := Lib.hid hs7
  clear m7 g7 hw7 hte hlt4 hts ht hs7 hc4
  refine R6.wp_walk (C := PutC w7 t 34 (oneB 12 [.int .i64 b.len, .int .i64 b.e0, .int .i64 b.e1, .int .i64 b.f0, .int .i64 b.f1, .int .i64 b.s0, .int .i64 b.s1, .int .i64 b.gap, .int .i64 b.near, .slice b.A b.zs.length b.cap] [.int .i64 (b.len + r0), .int .i64 b.e0, .int .i64 b.e1, .int .i64 b.f0, .int .i64 b.f1, .int .i64 b.s0, .int .i64 b.s1, .int .i64 (b.gap), .int .i64 (b.near), .slice b.A b.zs.length b.cap])) 139 (by kernel_rfl) (by kernel_rfl) rfl (PutC.start (F := oneB 12 [.int .i64 b.len, .int .i64 b.e0, .int .i64 b.e1, .int .i64 b.f0, .int .i64 b.f1, .int .i64 b.s0, .int .i64 b.s1, .int .i64 b.gap, .int .i64 b.near, .slice b.A b.zs.length b.cap] [.int .i64 (b.len + r0), .int .i64 b.e0, .int .i64 b.e1, .int .i64 b.f0, .int .i64 b.f1, .int .i64 b.s0, .int .i64 b.s1, .int .i64 (b.gap), .int .i64 (b.near), .slice b.A b.zs.length b.cap]) (by rw [oneB_off rfl]; exact H7.out.m)) ?_
  simp only []
  iterate 12
    (refine' R6.WalkR.det (fun _ => rfl) (fun D ρ W hK hC => ?_) ?_
     rotate_left
     · have hW := H4.out.1.trans ((H7.out.bel.trans (hC.bel.mono HTE.out)).mono H4.out.1.size)
       have f0 := HCF.out W hW
       try (have hq : D 12 = false := hK.post 12 (needs_edge (by decide +kernel)); have ho := hC.own; rw [oneB_off hq] at ho; have f1 := fun i => cell_of_row W t i _ _ _ ho; clear hq ho)
       obtain ⟨⟨k1, k2, k3, k4, k5, k6, k7, k8⟩, kz⟩ := F0.out
       have HC := Lib.hid (And.intro hC hW)
       clear hC hK hW
       go_simp
       first
         | with_reducible exact ⟨rfl, HC.out.1.move (oneB_move rfl)⟩
         | (go_at_call 40; (with_reducible refine (HAT.out 0 (by omega) W HC.out.2).mono ?_); rintro e W1 ⟨rfl, rfl⟩; exact ⟨_, rfl, rfl, HC.out.1.move (oneB_move rfl)⟩)
     simp only [Act.put, List.setIfInBounds_toArray, List.set_cons_succ, List.set_cons_zero])
  refine' R6.WalkR.det (c := undef) (fun _ => rfl) (fun D ρ W hK hC => ?_) ?_
  · have hq : D 12 = false := hK.me
    have ho := hC.own
    rw [oneB_off hq] at ho
    refine gives_store_one 3 (.tmp 50) (.tmp 49) (o := 0) rfl rfl rfl ho (Nat.le_of_ble_eq_true rfl) infoI9 ?_
    intro W' hP hM
    exact ⟨rfl, hC.put hP hM (by rw [oneB_me]; rfl)⟩
  simp only [Act.put, List.setIfInBounds_toArray, List.set_cons_succ, List.set_cons_zero]
  refine R6.WalkR.nil (fun D ρ W hD hC => ?_)
  obtain ⟨w8, hwn⟩ : ∃ wn, W = wn := ⟨_, rfl⟩
  rw [hwn] at hC ⊢
  have ho := hC.own
  rw [oneB_on (hD 12 (by decide))] at ho
  have H8 := Lib.hid (And.intro (H7.out.put HTE.out hC.bel ho) (Nat.le_trans (by first | exact Nat.le_of_eq HS7.out.symm) hC.bel.size))
  clear hC hD hwn ho
  clear D ρ W
  go_wp2
  refine R6.wp_walk (C := PutC w8 t 34 (oneB 10 [.int .i64 (b.len + r0), .int .i64 b.e0, .int .i64 b.e1, .int .i64 b.f0, .int .i64 b.f1, .int .i64 b.s0, .int .i64 b.s1, .int .i64 (b.gap), .int .i64 (b.near), .slice b.A b.zs.length b.cap] [.int .i64 (b.len + r0), .int .i64 b.e0, .int .i64 b.e1, .int .i64 b.f0, .int .i64 b.f1, .int .i64 b.s0, .int .i64 b.s1, .int .i64 (b.gap - r1), .int .i64 (b.near), .slice b.A b.zs.length b.cap])) 139 (by kernel_rfl) (by kernel_rfl) rfl (PutC.start (F := oneB 10 [.int .i64 (b.len + r0), .int .i64 b.e0, .int .i64 b.e1, .int .i64 b.f0, .int .i64 b.f1, .int .i64 b.s0, .int .i64 b.s1, .int .i64 (b.gap), .int .i64 (b.near), .slice b.A b.zs.length b.cap] [.int .i64 (b.len + r0), .int .i64 b.e0, .int .i64 b.e1, .int .i64 b.f0, .int .i64 b.f1, .int .i64 b.s0, .int .i64 b.s1, .int .i64 (b.gap - r1), .int .i64 (b.near), .slice b.A b.zs.length b.cap]) (by rw [oneB_off rfl]; exact H8.out.1.m)) ?_
  simp only []
  iterate 10
    (refine' R6.WalkR.det (fun _ => rfl) (fun D ρ W hK hC => ?_) ?_
     rotate_left
     · have hW := H4.out.1.trans ((H8.out.1.bel.trans (hC.bel.mono HTE.out)).mono H4.out.1.size)
       have f0 := HCF.out W hW
       try (have hq : D 10 = false := hK.post 10 (needs_edge (by decide +kernel)); have ho := hC.own; rw [oneB_off hq] at ho; have f1 := fun i => cell_of_row W t i _ _ _ ho; clear hq ho)
       obtain ⟨⟨k1, k2, k3, k4, k5, k6⟩, kz⟩ := F1.out
       have HC := Lib.hid (And.intro hC hW)
       clear hC hK hW
       go_simp
       first
         | with_reducible exact ⟨rfl, HC.out.1.move (oneB_move rfl)⟩
         | (go_at_call 40; (with_reducible refine (HAT.out 1 (by omega) W HC.out.2).mono ?_); rintro e W1 ⟨rfl, rfl⟩; exact ⟨_, rfl, rfl, HC.out.1.move (oneB_move rfl)⟩)
     simp only [Act.put, List.setIfInBounds_toArray, List.set_cons_succ, List.set_cons_zero])
  refine' R6.WalkR.det (c := undef) (fun _ => rfl) (fun D ρ W hK hC => ?_) ?_
  · have hq : D 10 = false := hK.me
    have ho := hC.own
    rw [oneB_off hq] at ho
    refine gives_store_one 3 (.tmp 60) (.tmp 59) (o := 7) rfl rfl rfl ho (Nat.le_of_ble_eq_true rfl) infoI9 ?_
    intro W' hP hM
    exact ⟨rfl, hC.put hP hM (by rw [oneB_me]; rfl)⟩
  simp only [Act.put, List.setIfInBounds_toArray, List.set_cons_succ, List.set_cons_zero]
  refine R6.WalkR.nil (fun D ρ W hD hC => ?_)
  obtain ⟨w9, hwn⟩ : ∃ wn, W = wn := ⟨_, rfl⟩
  rw [hwn] at hC ⊢
  have ho := hC.own
  rw [oneB_on (hD 10 (by decide))] at ho
  have H9 := Lib.hid (And.intro (H8.out.1.put HTE.out hC.bel ho) (Nat.le_trans (by first | exact H8.out.2) hC.bel.size))
  clear hC hD hwn ho
  clear D ρ W
  go_wp2
  refine R6.wp_walk (C := PutC w9 t 34 (oneB 11 [.int .i64 (b.len + r0), .int .i64 b.e0, .int .i64 b.e1, .int .i64 b.f0, .int .i64 b.f1, .int .i64 b.s0, .int .i64 b.s1, .int .i64 (b.gap - r1), .int .i64 (b.near), .slice b.A b.zs.length b.cap] [.int .i64 (b.len + r0), .int .i64 b.e0, .int .i64 b.e1, .int .i64 b.f0, .int .i64 b.f1, .int .i64 b.s0, .int .i64 b.s1, .int .i64 (b.gap - r1), .int .i64 (b.near - r2), .slice b.A b.zs.length b.cap])) 139 (by kernel_rfl) (by kernel_rfl) rfl (PutC.start (F := oneB 11 [.int .i64 (b.len + r0), .int .i64 b.e0, .int .i64 b.e1, .int .i64 b.f0, .int .i64 b.f1, .int .i64 b.s0, .int .i64 b.s1, .int .i64 (b.gap - r1), .int .i64 (b.near), .slice b.A b.zs.length b.cap] [.int .i64 (b.len + r0), .int .i64 b.e0, .int .i64 b.e1, .int .i64 b.f0, .int .i64 b.f1, .int .i64 b.s0, .int .i64 b.s1, .int .i64 (b.gap - r1), .int .i64 (b.near - r2), .slice b.A b.zs.length b.cap]) (by rw [oneB_off rfl]; exact H9.out.1.m)) ?_
  simp only []
  iterate 11
    (refine' R6.WalkR.det (fun _ => rfl) (fun D ρ W hK hC => ?_) ?_
     rotate_left
     · have hW := H4.out.1.trans ((H9.out.1.bel.trans (hC.bel.mono HTE.out)).mono H4.out.1.size)
       have f0 := HCF.out W hW
       try (have hq : D 11 = false := hK.post 11 (needs_edge (by decide +kernel)); have ho := hC.own; rw [oneB_off hq] at ho; have f1 := fun i => cell_of_row W t i _ _ _ ho; clear hq ho)
       obtain ⟨⟨k1, k2, k3, k4, k5, k6, k7, k8⟩, kz⟩ := F2.out
       have HC := Lib.hid (And.intro hC hW)
       clear hC hK hW
       go_simp
       first
         | with_reducible exact ⟨rfl, HC.out.1.move (oneB_move rfl)⟩
         | (go_at_call 40; (with_reducible refine (HAT.out 2 (by omega) W HC.out.2).mono ?_); rintro e W1 ⟨rfl, rfl⟩; exact ⟨_, rfl, rfl, HC.out.1.move (oneB_move rfl)⟩)
     simp only [Act.put, List.setIfInBounds_toArray, List.set_cons_succ, List.set_cons_zero])
  refine' R6.WalkR.det (c := undef) (fun _ => rfl) (fun D ρ W hK hC => ?_) ?_
  · have hq : D 11 = false := hK.me
    have ho := hC.own
    rw [oneB_off hq] at ho
    refine gives_store_one 3 (.tmp 71) (.tmp 70) (o := 8) rfl rfl rfl ho (Nat.le_of_ble_eq_true rfl) infoI9 ?_
    intro W' hP hM
    exact ⟨rfl, hC.put hP hM (by rw [oneB_me]; rfl)⟩
  simp only [Act.put, List.setIfInBounds_toArray, List.set_cons_succ, List.set_cons_zero]
  refine R6.WalkR.nil (fun D ρ W hD hC => ?_)
  obtain ⟨w10, hwn⟩ : ∃ wn, W = wn := ⟨_, rfl⟩
  rw [hwn] at hC ⊢
  have ho := hC.own
  rw [oneB_on (hD 11 (by decide))] at ho
  have H10 := Lib.hid (And.intro (H9.out.1.put HTE.out hC.bel ho) (Nat.le_trans (by first | exact H9.out.2) hC.bel.size))
  clear hC hD hwn ho
  clear D ρ W
  go_wp2
  go_loopg [11, 74] os.length (fun gg s11 s74 wx => ∃ k : Nat, k + gg = os.length ∧ (∃ v, v = s11 ∧ Hid (wx.ownsRow w10.heap.size 25 2 v k (pairs ((os.take k).mapIdx (widN us))))) ∧ s74 = .int .i64 k ∧ Hid (MoS w4 t [.int .i64 (b.len + r0), .int .i64 b.e0, .int .i64 b.e1, .int .i64 b.f0, .int .i64 b.f1, .int .i64 b.s0, .int .i64 b.s1, .int .i64 (b.gap - r1), .int .i64 (b.near - r2), .slice b.A b.zs.length b.cap] wx) ∧ Hid (w10.heap.size ≤ wx.heap.size))
  case atStart => exact ⟨0, by omega, ⟨_, rfl, by simpa [Hid, pairs] using World.ownsRow_nil w10 w10.heap.size 25 2⟩, rfl, H10.out.1, Nat.le_refl _⟩
  case round =>
    obtain ⟨k, hkg, ⟨v, rfl, HV⟩, rfl, HBr, HLr⟩ := hrel
    cases gk with
    | zero =>
      obtain rfl : k = os.length := by omega
      have hdm := fun W (hz' : BkAt W W.heap.size (morB b us)) A' c' (ho' : Vals W W.heap.size A' (pairs (os.mapIdx (widN us)))) => drill_any (morB b us) hlb A' c' (os.mapIdx (widN us)) (by rw [List.length_mapIdx]; exact hlo) W.heap.size W (Nat.le_refl _) hz' ho'
      obtain ⟨hm1, hm2, hm3, hm4, -, -⟩ := HMO.out
      unfold DriPost at hdm
      simp only [hm1] at hdm
      generalize driL (morB b us) (os.mapIdx (widN us)) = M at hdm hm2 hm4
      have hbk : BkAt wr wr.heap.size (morB b us) := Ints.mono (Ints.below HZ1.out.1 ((H4.out.1.trans (HBr.out.bel.mono H4.out.1.size)).mono HZ1.out.2.2)) (Nat.le_trans (Nat.le_trans HZ1.out.2.2 H4.out.1.size) HBr.out.bel.size)
      have hvv := HV.out
      rw [List.take_length] at hvv
      obtain ⟨A6, c6, rfl⟩ := own_shape hvv
      have hdx := hdm wr hbk A6 c6 (Vals.own hvv)
      unfold bkc morB at hdx
      simp only [List.length_mapIdx, HRR.out.1, HRR.out.2.1, HRR.out.2.2] at hdx
      have HDX := Lib.hid hdx
      have HML := Lib.hid (And.intro hm2 hm4)
      have hli : Ints w4 w4.heap.size A5 L := OwnP.ints H4.out.2
      have HLI := Lib.hid hli
      have hmc := fun i => cell_of_row wr t i _ _ _ HBr.out.m
      have hne : ((L.length : Int) != (L.length : Int)) = false := by simp
      clear hdm hm1 hm2 hm3 hm4 hbk hvv hdx hli HV
      go_wp2_with (go_at_call 23
                   (with_reducible refine HDX.out.mono ?_)
                   rintro e w11 ⟨v, rfl, hU, hB11⟩
                   obtain ⟨A7, c7, hv7⟩ := own_shape hU
                   rw [HML.out.1] at hv7
                   subst hv7
                   have hmi : Ints w11 w11.heap.size A7 M := OwnP.ints (c := c7) (by rw [HML.out.1]; exact hU)
                   have H11 := Lib.hid (And.intro (HBr.out.bel.trans (hB11.mono HBr.out.bel.size)) hmi)
                   clear hU hB11 hmi hmc)
      go_loopg [125] L.length (fun gg s125 wx => ∃ k : Nat, k + gg = L.length ∧ s125 = .int .i64 k ∧ Hid (Below w11.heap.size w11 wx))
      case atStart => exact ⟨0, by omega, rfl, Below.refl _ _⟩
      case round =>
        obtain ⟨k, hkg, rfl, HBs⟩ := hrel
        cases gk with
        | zero =>
          obtain rfl : k = L.length := by omega
          go_wp2
          go_ret
          exact ⟨rfl, H1.out.trans ((H4.out.1.trans ((H11.out.1.trans (HBs.out.mono H11.out.1.size)).mono H4.out.1.size)).mono H1.out.size)⟩
        | succ gg =>
          have hk : k < L.length := by omega
          have hkz : (k : Int) < L.length := by omega
          have hkm : k < M.length := by have := HML.out.1; omega
          obtain ⟨S7, o7, rfl, hS7, hc7⟩ := H11.out.2 (by omega)
          obtain ⟨S5, o5, rfl, hS5, hc5⟩ := HLI.out (by omega)
          have hle := HML.out.2 k
          have h7 := fun (W : World) (hW : Below w11.heap.size w11 W) => (hW.cell (p := ⟨S7, o7 + k, none⟩) hS7).trans (hc7 k hkm)
          have h5 := fun (W : World) (hW : Below w11.heap.size w11 W) => ((H11.out.1.trans (hW.mono H11.out.1.size)).cell (p := ⟨S5, o5 + k, none⟩) hS5).trans (hc5 k hk)
          generalize M[k]?.getD 0 = mk at hle h7
          generalize L[k]?.getD 0 = lk at hle h5
          have H75 := Lib.hid (And.intro h7 h5)
          have hdl : decide (mk < lk) = false := decide_eq_false (by omega)
          clear h7 h5 hle hc7 hc5 hS7 hS5 hkm
          go_wp2
          refine R6.wp_walk (C := fun _ _ W => Below w11.heap.size w11 W) 139 (by kernel_rfl) (by kernel_rfl) rfl HBs.out.drew ?_
          simp only []
          repeat
            (refine' R6.WalkR.det (fun _ => rfl) (fun D ρ W hK hC => ?_) ?_
             rotate_left
             · have f7 := H75.out.1 W hC
               have f5 := H75.out.2 W hC
               have HC := Lib.hid hC
               clear hC hK
               go_simp
               with_reducible exact ⟨rfl, HC.out⟩
             simp only [Act.put, List.setIfInBounds_toArray, List.set_cons_succ, List.set_cons_zero])
          refine R6.WalkR.nil (fun D ρ W hD hC => ?_)
          have H9 := Lib.hid hC
          clear hC hD
          go_wp2
          go_roundg gg
          case measure => omega
          case rel => exact ⟨k + 1, by omega, by go_num, H9.out⟩
    | succ gg =>
      have hk : k < os.length := by omega
      have hkz : (k : Int) < os.length := by omega
      obtain ⟨c', off, hA1, hcB, hcy⟩ := vals_elem (f := sp2) (n := 2) (fun _ => rfl) HZ1.out.2.1 (by decide) hk
      have hyo := HOS.out.2 _ (List.getElem_mem hk)
      have hnx := wide_next (g := widN us) hk
      have hBw : Below w1.heap.size w1 wr := H4.out.1.trans (HBr.out.bel.mono H4.out.1.size)
      have hyc := fun j u hv => (hBw.cell (p := ⟨c', off + k * 2 + j, none⟩) (Nat.lt_of_lt_of_le hcB HZ1.out.2.2)).trans (hcy j u hv)
      clear hcy
      generalize os[k] = y at hyc hyo hnx
      obtain ⟨y0, y1⟩ := y
      have hyb : 1 ≤ y0 ∧ y0 ≤ y1 ∧ y1 ≤ 10000000 := okS_iff.1 hyo
      obtain ⟨s1, hs1⟩ : ∃ s, modL (atL us ((k : Int) + 3)) y0 = s := ⟨_, rfl⟩
      obtain ⟨s2, hs2⟩ : ∃ s, remL (atL us ((k : Int) + 4)) (10000000 - y1) = s := ⟨_, rfl⟩
      have hwn : widN us k (y0, y1) = (y0 - s1, y1 + s2) := by simp only [widN, hs1, hs2]
      rw [hwn] at hnx
      have FA := mod_facts (a := atL us ((k : Int) + 3)) (m := y0) (HAB.out _) (by omega)
      have FB := rem_facts2 (a := atL us ((k : Int) + 4)) (m := 10000000 - y1) (HAB.out _) (by omega)
      rw [hs1] at FA
      rw [hs2] at FB
      have xa : IntKind.i64.wrap (y0 - s1) = y0 - s1 := IntWalk.i64_in _ (by omega)
      have xb : IntKind.i64.wrap (y1 + s2) = y1 + s2 := IntWalk.i64_in _ (by omega)
      have xc : IntKind.i64.wrap ((k : Int) + 3) = (k : Int) + 3 := IntWalk.i64_in _ (by omega)
      have xd : IntKind.i64.wrap ((k : Int) + 4) = (k : Int) + 4 := IntWalk.i64_in _ (by omega)
      have FA := Lib.hid (And.intro FA (And.intro xa xc))
      have FB := Lib.hid (And.intro FB (And.intro xb xd))
      obtain ⟨Lk, hLk⟩ : ∃ l, (os.take k).mapIdx (widN us) = l := ⟨_, rfl⟩
      have hlk : Lk.length = k := by rw [← hLk]; simp; omega
      rw [hLk] at hnx HV
      have hown := HV.out
      rw [← hlk] at hown
      have HY := Lib.hid hyc
      have HNX := Lib.hid hnx
      have HBW := Lib.hid hBw
      have HOW := Lib.hid (And.intro hown hlk)
      have HLO := Lib.hid (show w1.heap.size ≤ w10.heap.size from Nat.le_trans H4.out.1.size H10.out.1.bel.size)
      subst hA1
      clear hyo hBw hyc hs1 hs2 hwn hnx xa xb xc xd hLk hlk hown hyb hcB HV
      go_wp2_with (show wpList _ _ _ (Oper.mk (some 78) _ _ _ _ _ :: _) _ _
                   refine wpList_load_at 25 (.tmp 77) rfl rfl (by simp [Act.eval]) [.int .i64 y0, .int .i64 y1] HY.out rowSpan ?_)
      obtain ⟨w5, hw5⟩ : ∃ w5, wr.alloc (.cells #[.int .i64 y0, .int .i64 y1] 25) = w5 := ⟨_, rfl⟩
      have g5 : Grows wr w5 := by rw [← hw5]; exact grow1 _ _
      have m5 : w5.heap[wr.heap.size]? = some (.cells #[.int .i64 y0, .int .i64 y1] 25 (0, 0)) := by rw [← hw5]; exact alloc_at0 _ _
      rw [hw5]
      have H5 := Lib.hid (And.intro g5 (And.intro m5 (And.intro (own_grows HOW.out.1 g5) (HBW.out.trans (g5.mono HBW.out.size)))))
      clear g5 m5 hw5
      obtain ⟨i0, hi, he⟩ := Option.map_eq_some_iff.1 infoSpan
      simp only [Prod.mk.injEq] at he
      have HI := Lib.hid (And.intro hi he)
      clear hi he
      refine R6.wp_walk (C := ApC w10.heap.size w5 wr.heap.size (.cells #[.int .i64 y0, .int .i64 y1] 25 (0, 0)) v Lk (y0 - s1, y1 + s2) 26 105 27 106) 139 (by kernel_rfl) (by kernel_rfl) rfl (ApC.start (Below.refl _ _) (Nat.le_trans HLr.out H5.out.1.size) H5.out.2.1 H5.out.2.2.1 (fun k => by simp)) ?_
      simp only []
      iterate 26
        (refine' R6.WalkR.det (fun _ => rfl) (fun D ρ W hK hC => ?_) ?_
         rotate_left
         · have hW := H5.out.2.2.2.trans (hC.bel.mono HLO.out)
           have f1 := fun i => cell_of_row W wr.heap.size i _ _ _ hC.box
           obtain ⟨⟨k1, k2, k3, k4, k5, k6⟩, kx, ky⟩ := FA.out
           obtain ⟨⟨l1, l2, l3, l4, l5, l6, l7, l8⟩, lx, ly⟩ := FB.out
           have HC := Lib.hid (And.intro hC hW)
           try (have h27 : D 27 = false := hK.post 27 (needs_edge (by decide +kernel)); have H27 := Lib.hid h27; clear h27)
           clear hC hK hW
           go_simp
           first
             | with_reducible exact ⟨rfl, HC.out.1.move rfl rfl⟩
             | (go_at_call 40; (with_reducible refine (HAT.out ((k : Int) + 3) (by omega) W HC.out.2).mono ?_); rintro e W1 ⟨rfl, rfl⟩; exact ⟨_, rfl, rfl, HC.out.1.move rfl rfl⟩)
             | (go_at_call 40; (with_reducible refine (HAT.out ((k : Int) + 4) (by omega) W HC.out.2).mono ?_); rintro e W1 ⟨rfl, rfl⟩; exact ⟨_, rfl, rfl, HC.out.1.move rfl rfl⟩)
             | (go_at_call 17; (with_reducible refine (span_any _ _ W).mono ?_); rintro e W1 ⟨rfl, hB1⟩; exact ⟨_, rfl, rfl, (HC.out.1.next hB1 H27.out).move rfl rfl⟩)
         simp only [Act.put, List.setIfInBounds_toArray, List.set_cons_succ, List.set_cons_zero])
      refine' R6.WalkR.nd (fun _ => rfl) rfl (fun D ρ W hK hC => ?_) ?_
      · have h27 : D 27 = false := hK.post 27 (needs_edge (by decide +kernel))
        have HC := Lib.hid (hC.built rfl h27)
        clear hC hK h27
        go_simp
        exact HC.out
      simp only [Act.put, List.setIfInBounds_toArray, List.set_cons_succ, List.set_cons_zero]
      refine' R6.WalkR.nd (fun _ => rfl) rfl (fun D ρ W hK hC => ?_) ?_
      · obtain ⟨g3, hv3, hg3⟩ := hC.two (hK.pre 26 (needs_edge (by decide +kernel))) hK.me
        have hl9 : Lk.length ≤ 9 := by have := HOW.out.2; omega
        refine gives_app (.tmp 79) (.tmp 105) 41 rfl w10.heap.size 25 i0 _ 2 16 (v := v) (n := Lk.length) (xs := pairs Lk) Try.underlying41 HI.out.1 HI.out.2.1 HI.out.2.2.1 HI.out.2.2.2 rfl (by decide) rfl (hC.own hK.me) hv3
          (vals_in (L := [.int .i64 (y0 - s1), .int .i64 (y1 + s2)]) hg3 (lt_of_heap hg3) at0) rfl (by intro u hu; simp only [List.mem_cons, List.not_mem_nil, or_false] at hu; rcases hu with rfl | rfl <;> rfl) (by simp only [maxLen]; omega) (by omega) hC.lb (fun v' w' ho' hgr => ?_)
        exact hC.apped hK.me (own_lt HOW.out.1 (Nat.le_refl _)) ho' hgr
      simp only [Act.put, List.setIfInBounds_toArray, List.set_cons_succ, List.set_cons_zero]
      refine' R6.WalkR.fn 106 (fun v => v) (fun _ => rfl) (by decide +kernel) (fun D ρ W hK hC => ?_) ?_
      · have HC := Lib.hid hC
        clear hC hK
        go_simp
        first
          | exact HC.out.move rfl rfl
          | exact ⟨rfl, HC.out.move rfl rfl⟩
      simp only [Act.put, List.setIfInBounds_toArray, List.set_cons_succ, List.set_cons_zero]
      refine R6.WalkR.nil (fun D ρ W hD hC => ?_)
      have hfi := hC.fin (hD 27 (by decide))
      have hlb := hC.lb
      have hms := (HBr.out.low (H5.out.1.mono HLr.out) (Nat.lt_of_lt_of_le (lt_of_heap H10.out.1.m) (Nat.le_refl _)) H10.out.1.bel.size).low hC.bel (lt_of_heap H10.out.1.m) H10.out.1.bel.size
      have H9 := Lib.hid (And.intro hfi (And.intro hlb hms))
      clear hC hD hfi hlb hms
      go_wp2
      go_roundg gg
      case measure => omega
      case rel => exact ⟨k + 1, by omega, ⟨_, rfl, by have h := H9.out.1; rw [HOW.out.2, ← HNX.out] at h; exact h⟩, by go_num, H9.out.2.2, H9.out.2.1⟩

end Go.Proofs.Ytjjipkgconmfcaa

namespace Go.Proofs.Ytjjipkgconmfcaa
open Go.RowKit Go.Maps

attribute [local go_sem] gives

set_option maxRecDepth 100000 in
set_option maxHeartbeats 4000000 in
theorem fluteMore_law (b : Bk) (A1 : Option Addr) (cap1 : Nat) (os : List (Int × Int)) (hlm : os.length ≤ maxLen) (A : Option Addr) (cap : Nat) (us : List Int) (B : Nat) (w : World) (hB : B ≤ w.heap.size) (hz : BkAt w B b) (ho : Vals w B A1 (pairs os)) (hby : ByAt w B A us) :
    Calls Try.prog 12 #[.agg (bkc b).toArray, .slice A1 os.length cap1, .slice A us.length cap] w fun e w' => e = .returned (.bool true) ∧ Below w.heap.size w w' := by
  cases hgt : greatF fu0 b os.length
  · have hs : b.zs.length ≤ 20 ∧ os.length ≤ 15 := by
      simp only [greatF, Bool.or_eq_false_iff, decide_eq_false_iff_not] at hgt
      omega
    exact fluteMore_some b (by omega) A1 cap1 os (by omega) A cap us B w hB hz ho hby
  clear hz hB hby ho
  obtain ⟨w1, hw1⟩ : ∃ w1, w.alloc (.cells (bkc b).toArray 34) = w1 := ⟨_, rfl⟩
  have hb1 : Below w.heap.size w w1 := by rw [← hw1]; exact grow1 _ _
  have m0 : w1.heap[w.heap.size]? = some (.cells (bkc b).toArray 34 (0, 0)) := by rw [← hw1]; exact alloc_at0 _ _
  have HAL := Lib.hid (fun W => alive_any W)
  have HRD := Lib.hid (fun W => drilling_big b A1 cap1 os hgt W hlm)
  have hcf := fun (W : World) (hW : Below w1.heap.size w1 W) i => cell_of_row W w.heap.size i _ _ _ ((hW.block _ (lt_of_heap m0)).trans m0)
  have H1 := Lib.hid hb1
  clear hb1 m0 hgt
  unfold bkc at hw1 hcf HRD ⊢
  have HCF := Lib.hid hcf
  clear hcf
  go_enter Try.func12, Try.ntmps12
  go_wp2_with (first
    | (go_at_call 13; refine (HAL.out _).mono ?_; rintro e w2 ⟨rfl, hB2⟩; have hc2 := HCF.out w2 hB2; have H2 := Lib.hid hB2; clear hB2)
    | (go_at_call 36; (with_reducible refine (HRD.out w2).mono ?_); rintro e w3 ⟨rfl, hB3⟩; have H3 := Lib.hid (H2.out.trans (hB3.mono H2.out.size)); clear hB3))
  go_ret
  exact ⟨rfl, H1.out.trans (H3.out.mono H1.out.size)⟩

end Go.Proofs.Ytjjipkgconmfcaa

namespace Go.Proofs.Ytjjipkgconmfcaa
open Go.ChangeShapes Go.WideShapes Go.ChangeAt Go.RowKit Go.Deep

section
variable {H : Type} {enc : TypeId × Value → H} {w : World} {base : Nat} {spare : Nat → Bool} {held : Bool}
set_option maxRecDepth 100000 in
theorem open_blank {r : Reach} {b0 : Nat} {v : Value} {d : DataW H} {p : List MemPlace} (hv : Value.okWide Try.prog w r b0 34 v) (h : DataW.Trod enc Try.prog w base spare held 34 v d p) :
    ∃ f : Bk, v = .agg (bkc f).toArray ∧ f.zs.length ≤ maxLen ∧ BkAt w w.heap.size f := by
  obtain ⟨cs, rfl, hsz⟩ := okWide_struct Try.underlying34 hv
  obtain ⟨l⟩ := cs
  match l, hsz.trans cellsBlank with
  | [c0, c1, c2, c3, c4, c5, c6, c7, c8, c9], _ =>
    obtain ⟨fuel, h⟩ := h
    obtain ⟨xs, n, _, _, _, hlen, hg⟩ := DataW.trod_struct Try.underlying34 h
    have hln : xs.length = 7 := hlen
    have at_ : ∀ i, i < xs.length → ∃ y, xs[i]? = some y := fun i hi => ⟨_, List.getElem?_eq_getElem hi⟩
    obtain ⟨y0, hy0⟩ := at_ 0 (by omega)
    have g0 : DataW.trod enc Try.prog w base spare held n 3 ((List.drop 0 [c0, c1, c2, c3, c4, c5, c6, c7, c8, c9]).take (Try.prog.cellsOf 3)) = some y0 := (hg 0 _ rfl).trans hy0
    obtain ⟨y1, hy1⟩ := at_ 1 (by omega)
    have g1 : DataW.trod enc Try.prog w base spare held n 25 ((List.drop 1 [c0, c1, c2, c3, c4, c5, c6, c7, c8, c9]).take (Try.prog.cellsOf 25)) = some y1 := (hg 1 _ rfl).trans hy1
    obtain ⟨y2, hy2⟩ := at_ 2 (by omega)
    have g2 : DataW.trod enc Try.prog w base spare held n 25 ((List.drop 3 [c0, c1, c2, c3, c4, c5, c6, c7, c8, c9]).take (Try.prog.cellsOf 25)) = some y2 := (hg 2 _ rfl).trans hy2
    obtain ⟨y3, hy3⟩ := at_ 3 (by omega)
    have g3 : DataW.trod enc Try.prog w base spare held n 25 ((List.drop 5 [c0, c1, c2, c3, c4, c5, c6, c7, c8, c9]).take (Try.prog.cellsOf 25)) = some y3 := (hg 3 _ rfl).trans hy3
    obtain ⟨y4, hy4⟩ := at_ 4 (by omega)
    have g4 : DataW.trod enc Try.prog w base spare held n 3 ((List.drop 7 [c0, c1, c2, c3, c4, c5, c6, c7, c8, c9]).take (Try.prog.cellsOf 3)) = some y4 := (hg 4 _ rfl).trans hy4
    obtain ⟨y5, hy5⟩ := at_ 5 (by omega)
    have g5 : DataW.trod enc Try.prog w base spare held n 3 ((List.drop 8 [c0, c1, c2, c3, c4, c5, c6, c7, c8, c9]).take (Try.prog.cellsOf 3)) = some y5 := (hg 5 _ rfl).trans hy5
    obtain ⟨y6, hy6⟩ := at_ 6 (by omega)
    have g6 : DataW.trod enc Try.prog w base spare held n 32 ((List.drop 9 [c0, c1, c2, c3, c4, c5, c6, c7, c8, c9]).take (Try.prog.cellsOf 32)) = some y6 := (hg 6 _ rfl).trans hy6
    simp only [cellsI, cellsSp, cellsSl, cellsHoles, List.drop_zero, List.drop_succ_cons, List.take_succ_cons, List.take_zero] at g0 g1 g2 g3 g4 g5 g6
    obtain ⟨a, rfl⟩ := open_int_raw g0
    obtain ⟨e0, e1, rfl, rfl⟩ := open_span_raw g1
    obtain ⟨f0, f1, rfl, rfl⟩ := open_span_raw g2
    obtain ⟨s0, s1, rfl, rfl⟩ := open_span_raw g3
    obtain ⟨g, rfl⟩ := open_int_raw g4
    obtain ⟨n, rfl⟩ := open_int_raw g5
    obtain ⟨A, zs, cp, e, _, hm, hI⟩ := open_ints_raw g6
    subst e
    exact ⟨⟨a, e0, e1, f0, f1, s0, s1, g, n, A, cp, zs⟩, rfl, hm, hI⟩

end

end Go.Proofs.Ytjjipkgconmfcaa
