/-
  The law CureDry.
-/
import Derived.Test.YtfampdiompjmeaaCfC
import Derived.Test.YtfampdiompjmeaaCdJ
namespace Go.Proofs.Ytfampdiompjmeaa
open Go.RowKit Go.Shelf
open R6 (done done_ne done_me upd_ne upd_me)

attribute [local go_sem] gives

theorem leftZ_mono {a b x : Int} (h : a ≤ b) (_ : 0 ≤ x) (x1 : x ≤ 1000) : leftZ a x ≤ leftZ b x := by
  have e : b * x = a * x + (b - a) * x := by rw [← Int.add_mul]; congr 1; omega
  have h1 : (b - a) * x ≤ (b - a) * 1000 := Int.mul_le_mul_of_nonneg_left x1 (by omega)
  unfold leftZ
  omega
theorem leftZ_anti {a x y : Int} (a0 : 0 ≤ a) (h : x ≤ y) : leftZ a y ≤ leftZ a x := by
  have h1 : a * x ≤ a * y := Int.mul_le_mul_of_nonneg_left h a0
  unfold leftZ
  omega
/-- How wet the wettest poles are after some days. -/
def hiK (d : Dr) (hi : Int) : Nat → Int
  | 0 => hi
  | k + 1 => leftZ (hiK d hi k) d.ll
theorem hiK_next (d : Dr) (hi : Int) : ∀ k, hiK d (leftZ hi d.ll) k = hiK d hi (k + 1)
  | 0 => rfl
  | k + 1 => by
    show leftZ (hiK d (leftZ hi d.ll) k) d.ll = leftZ (hiK d hi (k + 1)) d.ll
    rw [hiK_next d hi k]
theorem hiK_bnd {d : Dr} (hd : DrOk d) : ∀ k, 0 ≤ hiK d d.wh k ∧ hiK d d.wh k ≤ 1000
  | 0 => ⟨hd.v0, hd.v1⟩
  | k + 1 => by
    have ih := hiK_bnd hd k
    have := leftZ_bnd ih.1 hd.l0 hd.l1
    show 0 ≤ leftZ _ _ ∧ leftZ _ _ ≤ 1000
    omega
theorem wetR_first (d : Dr) : ∀ (r : Nat) (lo hi : Int) (k : Nat),
    (idxL (fun p => decide (p.2 ≤ d.most)) (wetR d lo hi r) k < 0 → ∀ j, j < r → d.most < hiK d hi j) ∧
    (0 ≤ idxL (fun p => decide (p.2 ≤ d.most)) (wetR d lo hi r) k → ∃ j, j < r ∧ idxL (fun p => decide (p.2 ≤ d.most)) (wetR d lo hi r) k = ((k + j : Nat) : Int) ∧ hiK d hi j ≤ d.most ∧ ∀ m, m < j → d.most < hiK d hi m)
  | 0, lo, hi, k => ⟨fun _ j hj => by omega, fun h => by simp [wetR, idxL] at h⟩
  | r + 1, lo, hi, k => by
    rw [wetR_idx]
    by_cases hle : hi ≤ d.most
    · rw [if_pos hle]
      exact ⟨fun h => by omega, fun _ => ⟨0, by omega, by simp, hle, fun m hm => by omega⟩⟩
    · rw [if_neg hle]
      have ih := wetR_first d r (leftZ lo d.lh) (leftZ hi d.ll) (k + 1)
      refine ⟨fun h j hj => ?_, fun h => ?_⟩
      · cases j with
        | zero => show d.most < hi; omega
        | succ j => rw [← hiK_next]; exact ih.1 h j (by omega)
      · obtain ⟨j, a, b, c, e⟩ := ih.2 h
        refine ⟨j + 1, by omega, by rw [b]; omega, by rw [← hiK_next]; exact c, fun m hm => ?_⟩
        cases m with
        | zero => show d.most < hi; omega
        | succ m => rw [← hiK_next]; exact e m (by omega)

/-- The drying lies in its box. -/
theorem boxD (w : World) (cs : Array Value) (ty : TypeId) : ResC w.heap.size w w.heap.size cs ty (fun _ _ => True) 99 999 (fun _ => false) (fun _ => undef) (w.alloc (.cells cs ty)) := ⟨grow1 _ _, by simp, alloc_at0 _ _, fun _ => trivial⟩
theorem ResC.any {B : Nat} {w0 W W' : World} {x : Nat} {cs : Array Value} {ty : TypeId} {D D' : Nat → Bool} {σ σ' : Nat → Value} (h : ResC B w0 x cs ty (fun _ _ => True) 99 999 D σ W) (hg : Grows W W') : ResC B w0 x cs ty (fun _ _ => True) 99 999 D' σ' W' :=
  ⟨h.bel.trans (hg.mono h.lb), Nat.le_trans h.lb hg.size, (hg.block _ (lt_of_heap h.box)).trans h.box, fun _ => trivial⟩
theorem ResC.same {B : Nat} {w0 W : World} {x : Nat} {cs : Array Value} {ty : TypeId} {D D' : Nat → Bool} {σ σ' : Nat → Value} (h : ResC B w0 x cs ty (fun _ _ => True) 99 999 D σ W) : ResC B w0 x cs ty (fun _ _ => True) 99 999 D' σ' W :=
  ⟨h.bel, h.lb, h.box, fun _ => trivial⟩

set_option maxRecDepth 100000 in
set_option maxHeartbeats 8000000 in
theorem cureDry_no (d : Dr) (s : Int) (Y : Option Addr) (k2 : Nat) (ys : List Int) (w : World) (hno : okDr d = false) :
    Calls Try.prog 13 #[.agg (dcells d), .int .u16 s, .slice Y ys.length k2] w fun e w' => e = .returned (.bool true) ∧ Below w.heap.size w w' := by
  have hrd := fun W => refDrying_any d W
  rw [hno] at hrd
  have h0 := boxD w (dcells d) 41
  have HRD := Lib.hid hrd
  have H0 := Lib.hid h0
  clear hrd hno h0
  unfold dcells at H0 HRD ⊢
  go_enter Try.func13, Try.ntmps13
  go_wp2_with (first
    | (go_at_call 14; refine (alive_any _).mono ?_; rintro e w2 ⟨rfl, hB2⟩
       have h2 := H0.out.any (D' := fun _ => false) (σ' := fun _ => undef) hB2
       have hc2 := fun i => cell_of_row w2 w.heap.size i _ _ _ h2.box
       have H2 := Lib.hid h2; clear hB2 h2)
    | (go_at_call 43; refine (HRD.out w2).mono ?_; rintro e w3 ⟨rfl, hB3⟩; have H3 := Lib.hid (H2.out.bel.trans (hB3.mono H2.out.lb)); clear hB3))
  go_ret
  exact ⟨rfl, H3.out⟩

set_option maxRecDepth 100000 in
set_option maxHeartbeats 8000000 in
theorem cureDry_some (d : Dr) (s : Int) (Y : Option Addr) (k2 : Nat) (ys : List Int) (w : World) (hY : ByAt w w.heap.size Y ys) (hok : okDr d = true) (s0 : 0 ≤ s) (s1 : s < 65536) (n : Nat) (hn : n ≤ 365) (hV : dryV d = (n : Int)) (hE : dryE d = 0) (hall : ∀ j, j < n → d.most < hiK d d.wh j) (hfin : hiK d d.wh n ≤ d.most) :
    Calls Try.prog 13 #[.agg (dcells d), .int .u16 s, .slice Y ys.length k2] w fun e w' => e = .returned (.bool true) ∧ Below w.heap.size w w' := by
  have hd := drOk_of hok
  have hrd := fun W => refDrying_any d W
  rw [hok] at hrd
  have hdr := fun W => dry_any d W
  rw [hV, hE] at hdr
  have hor : d.wl ≤ d.wh ∧ 0 ≤ d.wl ∧ d.wh ≤ 1000 ∧ d.ll ≤ d.lh ∧ 0 ≤ d.ll ∧ d.lh ≤ 1000 := by
    simp only [okDr, Bool.and_eq_true, okS_iff] at hok
    omega
  obtain ⟨o1, o2, o3, o4, o5, o6⟩ := hor
  have hpw := pickL_bnd (n := s) o1
  have hpi := fun W => pick_any d.wl d.wh s o2 o1 (by omega) s0 (by omega) W
  have hpj := fun (i : Int) W => pick_any d.ll d.lh (atL ys i) o5 o4 (by omega) (atL_bnd hY).1 (atL_bnd hY).2 W
  have hpl := fun (i : Int) => pickL_bnd (n := atL ys i) o4
  have hat := fun (i : Int) (hi : 0 ≤ i) W (hW : Below w.heap.size w W) => at_any Y k2 ys i hi w.heap.size W (hY.below hW).va hY.ln
  have hbn := hiK_bnd hd
  have hx1 : IntKind.u32.wrap s = s := IntWalk.u32_in _ (by omega)
  have h0 := boxD w (dcells d) 41
  obtain ⟨u, hu⟩ : ∃ u, u = pickL d.wl d.wh s := ⟨_, rfl⟩
  rw [← hu] at hpi hpw
  have hst : hiK d d.wh 0 = d.wh := rfl
  have hsu : ∀ k, hiK d d.wh (k + 1) = leftZ (hiK d d.wh k) d.ll := fun k => rfl
  generalize hiK d d.wh = Z at *
  have HF := Lib.hid (And.intro hrd (And.intro hdr (And.intro hpi (And.intro hpj (And.intro hpl hat)))))
  have HZ := Lib.hid (And.intro hbn (And.intro hst (And.intro hsu hall)))
  have HFI := Lib.hid hfin
  clear hfin
  have H0 := Lib.hid h0
  have HPW := Lib.hid hpw
  clear hrd hdr hpi hpj hpl hat hbn hst hsu hall h0 hok hV hE hu hY hd hpw
  unfold dcells at H0 HF ⊢
  go_enter Try.func13, Try.ntmps13
  go_wp2_with (first
    | (go_at_call 14; refine (alive_any _).mono ?_; rintro e w2 ⟨rfl, hB2⟩
       have h2 := H0.out.any (D' := fun _ => false) (σ' := fun _ => undef) hB2
       have hc2 := fun i => cell_of_row w2 w.heap.size i _ _ _ h2.box
       have H2 := Lib.hid h2; clear hB2 h2)
    | (go_at_call 43; refine (HF.out.1 w2).mono ?_; rintro e w3 ⟨rfl, hB3⟩
       have h3 := H2.out.any (D' := fun _ => false) (σ' := fun _ => undef) hB3
       have hc3 := fun i => cell_of_row w3 w.heap.size i _ _ _ h3.box
       have H3 := Lib.hid h3; clear hB3 h3 hc2)
    | (go_at_call 20; refine (HF.out.2.1 w3).mono ?_; rintro e w4 ⟨rfl, hB4⟩
       have h4 := H3.out.any (D' := fun _ => false) (σ' := fun _ => undef) hB4
       have H4 := Lib.hid h4; clear hB4 h4 hc3))
  refine R6.wp_walk (C := ResC w.heap.size w w.heap.size #[.int .i64 d.wl, .int .i64 d.wh, .int .i64 d.ll, .int .i64 d.lh, .int .i64 d.most] 41 (fun _ _ => True) 99 999) 107 (by kernel_rfl) (by kernel_rfl) rfl
    (ResC.start H4.out.bel H4.out.lb H4.out.box rfl) ?_
  simp only []
  repeat (first
    | (refine' R6.WalkR.det (fun _ => rfl) (fun D ρ W hK hC => ?_) ?_
       rotate_left
       · have hcb := fun i => cell_of_row W w.heap.size i _ _ _ hC.box
         have HC := Lib.hid hC
         clear hC hK
         go_simp
         first
           | with_reducible exact ⟨rfl, HC.out.same⟩
           | (go_at_call 37; refine (HF.out.2.2.1 W).mono ?_; rintro e W1 ⟨rfl, hB1⟩; exact ⟨_, rfl, rfl, HC.out.any hB1⟩)
       simp only [Act.put, List.setIfInBounds_toArray, List.set_cons_succ, List.set_cons_zero]))
  refine R6.WalkR.nil (fun D ρ W5 hD' hC => ?_)
  have h5 : ResC w.heap.size w w.heap.size #[.int .i64 d.wl, .int .i64 d.wh, .int .i64 d.ll, .int .i64 d.lh, .int .i64 d.most] 41 (fun _ _ => True) 99 999 (fun _ => false) (fun _ => undef) W5 := hC.same
  have H5 := Lib.hid h5
  clear hC hD' h5
  go_wp2
  go_loopg [11, 12, 60] n (fun gg s11 s12 s60 wx => ∃ (k : Nat) (now hi : Int), k + gg = n ∧ s11 = .int .i64 now ∧ s12 = .int .i64 hi ∧ s60 = .int .i64 k ∧ (0 ≤ now ∧ now ≤ hi) ∧ Hid (hi = Z k) ∧ Hid (ResC w.heap.size w w.heap.size #[.int .i64 d.wl, .int .i64 d.wh, .int .i64 d.ll, .int .i64 d.lh, .int .i64 d.most] 41 (fun _ _ => True) 99 999 (fun _ => false) (fun _ => undef) wx))
  case atStart => exact ⟨0, u, d.wh, by omega, rfl, rfl, rfl, ⟨by have := HPW.out; omega, HPW.out.2⟩, HZ.out.2.1.symm, H5.out⟩
  case round =>
    obtain ⟨k, now, hi, hkg, rfl, rfl, rfl, ⟨hn0, hn1⟩, hZk, hBx⟩ := hrel
    have hb := HZ.out.1 k
    rw [← hZk.out] at hb
    obtain ⟨hb0, hb1⟩ := hb
    cases gk with
    | zero =>
      have hkn : ¬ (k : Int) < n := by omega
      have hke : k = n := by omega
      have hcb := fun i => cell_of_row wr w.heap.size i _ _ _ hBx.out.box
      have hfe := HFI.out
      rw [← hke, ← hZk.out] at hfe
      have hnm : now ≤ d.most := by omega
      have HKE := Lib.hid hke
      clear hke
      go_wp2
      go_ret
      exact ⟨rfl, hBx.out.bel⟩
    | succ gg =>
      have hkz : (k : Int) < n := by omega
      have hk0 : (0 : Int) ≤ k := by omega
      have hcb := fun i => cell_of_row wr w.heap.size i _ _ _ hBx.out.box
      have hno := HZ.out.2.2.2 k (by omega)
      rw [← hZk.out] at hno
      have hle : ¬ hi ≤ d.most := by omega
      obtain ⟨x, hx⟩ : ∃ x, x = pickL d.ll d.lh (atL ys k) := ⟨_, rfl⟩
      have hxb := HF.out.2.2.2.2.1 (k : Int)
      have hpx := HF.out.2.2.2.1 (k : Int)
      have hax := HF.out.2.2.2.2.2 (k : Int) hk0
      rw [← hx] at hxb hpx
      obtain ⟨x0, x1⟩ := hxb
      have q0 : 0 ≤ now * x := Int.mul_nonneg hn0 (by omega)
      have q1 : now * x ≤ now * 1000 := Int.mul_le_mul_of_nonneg_left (by omega) hn0
      have q2 : (now * x).tdiv 1000 = now * x / 1000 := Int.tdiv_eq_ediv_of_nonneg q0
      have r0 : 0 ≤ hi * d.ll := Int.mul_nonneg hb0 o5
      have r1 : hi * d.ll ≤ hi * 1000 := Int.mul_le_mul_of_nonneg_left (by omega) hb0
      have r2 : (hi * d.ll).tdiv 1000 = hi * d.ll / 1000 := Int.tdiv_eq_ediv_of_nonneg r0
      have m1 := leftZ_anti hn0 x0
      have m2 := leftZ_mono hn1 o5 (by omega : d.ll ≤ 1000)
      have m3 := leftZ_bnd hn0 (by omega : 0 ≤ x) (by omega : x ≤ 1000)
      have m4 := HZ.out.2.2.1 k
      rw [← hZk.out] at m4
      have w1 : IntKind.i64.wrap (now * x) = now * x := IntWalk.i64_in _ (by omega)
      have w2 : IntKind.i64.wrap (now - now * x / 1000) = now - now * x / 1000 := IntWalk.i64_in _ (by omega)
      have w3 : IntKind.i64.wrap (now * x / 1000) = now * x / 1000 := IntWalk.i64_in _ (by omega)
      unfold leftZ at m1 m2 m3 m4
      have hgt : ¬ now - now * x / 1000 > hi - hi * d.ll / 1000 := by omega
      have HPX := Lib.hid (And.intro hpx (And.intro hax (And.intro m4 m3)))
      have HM := Lib.hid (show now - now * x / 1000 ≤ hi - hi * d.ll / 1000 by omega)
      clear hpx hax m1 m2 m3 m4 hx hno
      go_wp2
      clear hcb
      refine R6.wp_walk (C := ResC w.heap.size w w.heap.size #[.int .i64 d.wl, .int .i64 d.wh, .int .i64 d.ll, .int .i64 d.lh, .int .i64 d.most] 41 (fun _ _ => True) 99 999) 107 (by kernel_rfl) (by kernel_rfl) rfl
        (ResC.start hBx.out.bel hBx.out.lb hBx.out.box rfl) ?_
      simp only []
      repeat (first
        | (refine' R6.WalkR.det (fun _ => rfl) (fun D ρ W hK hC => ?_) ?_
           rotate_left
           · have hcb := fun i => cell_of_row W w.heap.size i _ _ _ hC.box
             have HC := Lib.hid hC
             clear hC hK
             go_simp
             first
               | with_reducible exact ⟨rfl, HC.out.same⟩
               | (go_at_call 42; refine (HPX.out.2.1 W HC.out.bel).mono ?_; rintro e W1 ⟨rfl, rfl⟩; exact ⟨_, rfl, rfl, HC.out.same⟩)
               | (go_at_call 37; refine (HPX.out.1 W).mono ?_; rintro e W1 ⟨rfl, hB1⟩; exact ⟨_, rfl, rfl, HC.out.any hB1⟩)
           simp only [Act.put, List.setIfInBounds_toArray, List.set_cons_succ, List.set_cons_zero]))
      refine R6.WalkR.nil (fun D ρ W6 hD' hC => ?_)
      have h6 : ResC w.heap.size w w.heap.size #[.int .i64 d.wl, .int .i64 d.wh, .int .i64 d.ll, .int .i64 d.lh, .int .i64 d.most] 41 (fun _ _ => True) 99 999 (fun _ => false) (fun _ => undef) W6 := hC.same
      have hc6 := fun i => cell_of_row W6 w.heap.size i _ _ _ h6.box
      have H6 := Lib.hid h6
      clear hC hD' h6
      go_wp2
      go_roundg gg
      case measure => omega
      case rel => exact ⟨k + 1, now - now * x / 1000, hi - hi * d.ll / 1000, by omega, rfl, rfl, by go_num, ⟨HPX.out.2.2.2.1, HM.out⟩, HPX.out.2.2.1.symm, H6.out⟩

set_option maxRecDepth 100000 in
set_option maxHeartbeats 8000000 in
theorem cureDry_none (d : Dr) (s : Int) (Y : Option Addr) (k2 : Nat) (ys : List Int) (w : World) (hY : ByAt w w.heap.size Y ys) (hok : okDr d = true) (s0 : 0 ≤ s) (s1 : s < 65536) (hV : dryV d = 0) (hE : dryE d = 6) (hall : ∀ j, j < 366 → d.most < hiK d d.wh j) :
    Calls Try.prog 13 #[.agg (dcells d), .int .u16 s, .slice Y ys.length k2] w fun e w' => e = .returned (.bool true) ∧ Below w.heap.size w w' := by
  have hd := drOk_of hok
  have hrd := fun W => refDrying_any d W
  rw [hok] at hrd
  have hdr := fun W => dry_any d W
  rw [hV, hE] at hdr
  have hor : d.wl ≤ d.wh ∧ 0 ≤ d.wl ∧ d.wh ≤ 1000 ∧ d.ll ≤ d.lh ∧ 0 ≤ d.ll ∧ d.lh ≤ 1000 := by
    simp only [okDr, Bool.and_eq_true, okS_iff] at hok
    omega
  obtain ⟨o1, o2, o3, o4, o5, o6⟩ := hor
  have hpw := pickL_bnd (n := s) o1
  have hpi := fun W => pick_any d.wl d.wh s o2 o1 (by omega) s0 (by omega) W
  have hpj := fun (i : Int) W => pick_any d.ll d.lh (atL ys i) o5 o4 (by omega) (atL_bnd hY).1 (atL_bnd hY).2 W
  have hpl := fun (i : Int) => pickL_bnd (n := atL ys i) o4
  have hat := fun (i : Int) (hi : 0 ≤ i) W (hW : Below w.heap.size w W) => at_any Y k2 ys i hi w.heap.size W (hY.below hW).va hY.ln
  have hbn := hiK_bnd hd
  have hx1 : IntKind.u32.wrap s = s := IntWalk.u32_in _ (by omega)
  have h0 := boxD w (dcells d) 41
  obtain ⟨u, hu⟩ : ∃ u, u = pickL d.wl d.wh s := ⟨_, rfl⟩
  rw [← hu] at hpi hpw
  have hst : hiK d d.wh 0 = d.wh := rfl
  have hsu : ∀ k, hiK d d.wh (k + 1) = leftZ (hiK d d.wh k) d.ll := fun k => rfl
  generalize hiK d d.wh = Z at *
  have HF := Lib.hid (And.intro hrd (And.intro hdr (And.intro hpi (And.intro hpj (And.intro hpl hat)))))
  have HZ := Lib.hid (And.intro hbn (And.intro hst (And.intro hsu hall)))
  skip
  have H0 := Lib.hid h0
  have HPW := Lib.hid hpw
  clear hrd hdr hpi hpj hpl hat hbn hst hsu hall h0 hok hV hE hu hY hd hpw
  unfold dcells at H0 HF ⊢
  go_enter Try.func13, Try.ntmps13
  go_wp2_with (first
    | (go_at_call 14; refine (alive_any _).mono ?_; rintro e w2 ⟨rfl, hB2⟩
       have h2 := H0.out.any (D' := fun _ => false) (σ' := fun _ => undef) hB2
       have hc2 := fun i => cell_of_row w2 w.heap.size i _ _ _ h2.box
       have H2 := Lib.hid h2; clear hB2 h2)
    | (go_at_call 43; refine (HF.out.1 w2).mono ?_; rintro e w3 ⟨rfl, hB3⟩
       have h3 := H2.out.any (D' := fun _ => false) (σ' := fun _ => undef) hB3
       have hc3 := fun i => cell_of_row w3 w.heap.size i _ _ _ h3.box
       have H3 := Lib.hid h3; clear hB3 h3 hc2)
    | (go_at_call 20; refine (HF.out.2.1 w3).mono ?_; rintro e w4 ⟨rfl, hB4⟩
       have h4 := H3.out.any (D' := fun _ => false) (σ' := fun _ => undef) hB4
       have H4 := Lib.hid h4; clear hB4 h4 hc3))
  refine R6.wp_walk (C := ResC w.heap.size w w.heap.size #[.int .i64 d.wl, .int .i64 d.wh, .int .i64 d.ll, .int .i64 d.lh, .int .i64 d.most] 41 (fun _ _ => True) 99 999) 107 (by kernel_rfl) (by kernel_rfl) rfl
    (ResC.start H4.out.bel H4.out.lb H4.out.box rfl) ?_
  simp only []
  repeat (first
    | (refine' R6.WalkR.det (fun _ => rfl) (fun D ρ W hK hC => ?_) ?_
       rotate_left
       · have hcb := fun i => cell_of_row W w.heap.size i _ _ _ hC.box
         have HC := Lib.hid hC
         clear hC hK
         go_simp
         first
           | with_reducible exact ⟨rfl, HC.out.same⟩
           | (go_at_call 37; refine (HF.out.2.2.1 W).mono ?_; rintro e W1 ⟨rfl, hB1⟩; exact ⟨_, rfl, rfl, HC.out.any hB1⟩)
       simp only [Act.put, List.setIfInBounds_toArray, List.set_cons_succ, List.set_cons_zero]))
  refine R6.WalkR.nil (fun D ρ W5 hD' hC => ?_)
  have h5 : ResC w.heap.size w w.heap.size #[.int .i64 d.wl, .int .i64 d.wh, .int .i64 d.ll, .int .i64 d.lh, .int .i64 d.most] 41 (fun _ _ => True) 99 999 (fun _ => false) (fun _ => undef) W5 := hC.same
  have H5 := Lib.hid h5
  clear hC hD' h5
  go_wp2
  go_loopg [11, 12, 60] 366 (fun gg s11 s12 s60 wx => ∃ (k : Nat) (now hi : Int), k + gg = 366 ∧ s11 = .int .i64 now ∧ s12 = .int .i64 hi ∧ s60 = .int .i64 k ∧ (0 ≤ now ∧ now ≤ hi) ∧ Hid (hi = Z k) ∧ Hid (ResC w.heap.size w w.heap.size #[.int .i64 d.wl, .int .i64 d.wh, .int .i64 d.ll, .int .i64 d.lh, .int .i64 d.most] 41 (fun _ _ => True) 99 999 (fun _ => false) (fun _ => undef) wx))
  case atStart => exact ⟨0, u, d.wh, by omega, rfl, rfl, rfl, ⟨by have := HPW.out; omega, HPW.out.2⟩, HZ.out.2.1.symm, H5.out⟩
  case round =>
    obtain ⟨k, now, hi, hkg, rfl, rfl, rfl, ⟨hn0, hn1⟩, hZk, hBx⟩ := hrel
    have hb := HZ.out.1 k
    rw [← hZk.out] at hb
    obtain ⟨hb0, hb1⟩ := hb
    cases gk with
    | zero =>
      have hkn : ¬ (k : Int) < 366 := by omega
      have hke : k = 366 := by omega
      have hcb := fun i => cell_of_row wr w.heap.size i _ _ _ hBx.out.box
      clear hke
      go_wp2
      go_ret
      exact ⟨rfl, hBx.out.bel⟩
    | succ gg =>
      have hkz : (k : Int) < 366 := by omega
      have hk0 : (0 : Int) ≤ k := by omega
      have hcb := fun i => cell_of_row wr w.heap.size i _ _ _ hBx.out.box
      have hno := HZ.out.2.2.2 k (by omega)
      rw [← hZk.out] at hno
      have hle : ¬ hi ≤ d.most := by omega
      obtain ⟨x, hx⟩ : ∃ x, x = pickL d.ll d.lh (atL ys k) := ⟨_, rfl⟩
      have hxb := HF.out.2.2.2.2.1 (k : Int)
      have hpx := HF.out.2.2.2.1 (k : Int)
      have hax := HF.out.2.2.2.2.2 (k : Int) hk0
      rw [← hx] at hxb hpx
      obtain ⟨x0, x1⟩ := hxb
      have q0 : 0 ≤ now * x := Int.mul_nonneg hn0 (by omega)
      have q1 : now * x ≤ now * 1000 := Int.mul_le_mul_of_nonneg_left (by omega) hn0
      have q2 : (now * x).tdiv 1000 = now * x / 1000 := Int.tdiv_eq_ediv_of_nonneg q0
      have r0 : 0 ≤ hi * d.ll := Int.mul_nonneg hb0 o5
      have r1 : hi * d.ll ≤ hi * 1000 := Int.mul_le_mul_of_nonneg_left (by omega) hb0
      have r2 : (hi * d.ll).tdiv 1000 = hi * d.ll / 1000 := Int.tdiv_eq_ediv_of_nonneg r0
      have m1 := leftZ_anti hn0 x0
      have m2 := leftZ_mono hn1 o5 (by omega : d.ll ≤ 1000)
      have m3 := leftZ_bnd hn0 (by omega : 0 ≤ x) (by omega : x ≤ 1000)
      have m4 := HZ.out.2.2.1 k
      rw [← hZk.out] at m4
      have w1 : IntKind.i64.wrap (now * x) = now * x := IntWalk.i64_in _ (by omega)
      have w2 : IntKind.i64.wrap (now - now * x / 1000) = now - now * x / 1000 := IntWalk.i64_in _ (by omega)
      have w3 : IntKind.i64.wrap (now * x / 1000) = now * x / 1000 := IntWalk.i64_in _ (by omega)
      unfold leftZ at m1 m2 m3 m4
      have hgt : ¬ now - now * x / 1000 > hi - hi * d.ll / 1000 := by omega
      have HPX := Lib.hid (And.intro hpx (And.intro hax (And.intro m4 m3)))
      have HM := Lib.hid (show now - now * x / 1000 ≤ hi - hi * d.ll / 1000 by omega)
      clear hpx hax m1 m2 m3 m4 hx hno
      go_wp2
      clear hcb
      refine R6.wp_walk (C := ResC w.heap.size w w.heap.size #[.int .i64 d.wl, .int .i64 d.wh, .int .i64 d.ll, .int .i64 d.lh, .int .i64 d.most] 41 (fun _ _ => True) 99 999) 107 (by kernel_rfl) (by kernel_rfl) rfl
        (ResC.start hBx.out.bel hBx.out.lb hBx.out.box rfl) ?_
      simp only []
      repeat (first
        | (refine' R6.WalkR.det (fun _ => rfl) (fun D ρ W hK hC => ?_) ?_
           rotate_left
           · have hcb := fun i => cell_of_row W w.heap.size i _ _ _ hC.box
             have HC := Lib.hid hC
             clear hC hK
             go_simp
             first
               | with_reducible exact ⟨rfl, HC.out.same⟩
               | (go_at_call 42; refine (HPX.out.2.1 W HC.out.bel).mono ?_; rintro e W1 ⟨rfl, rfl⟩; exact ⟨_, rfl, rfl, HC.out.same⟩)
               | (go_at_call 37; refine (HPX.out.1 W).mono ?_; rintro e W1 ⟨rfl, hB1⟩; exact ⟨_, rfl, rfl, HC.out.any hB1⟩)
           simp only [Act.put, List.setIfInBounds_toArray, List.set_cons_succ, List.set_cons_zero]))
      refine R6.WalkR.nil (fun D ρ W6 hD' hC => ?_)
      have h6 : ResC w.heap.size w w.heap.size #[.int .i64 d.wl, .int .i64 d.wh, .int .i64 d.ll, .int .i64 d.lh, .int .i64 d.most] 41 (fun _ _ => True) 99 999 (fun _ => false) (fun _ => undef) W6 := hC.same
      have hc6 := fun i => cell_of_row W6 w.heap.size i _ _ _ h6.box
      have H6 := Lib.hid h6
      clear hC hD' h6
      go_wp2
      go_roundg gg
      case measure => omega
      case rel => exact ⟨k + 1, now - now * x / 1000, hi - hi * d.ll / 1000, by omega, rfl, rfl, by go_num, ⟨HPX.out.2.2.2.1, HM.out⟩, HPX.out.2.2.1.symm, H6.out⟩

theorem cureDry_law (d : Dr) (s : Int) (Y : Option Addr) (k2 : Nat) (ys : List Int) (w : World) (hY : ByAt w w.heap.size Y ys) (s0 : 0 ≤ s) (s1 : s < 65536) :
    Calls Try.prog 13 #[.agg (dcells d), .int .u16 s, .slice Y ys.length k2] w fun e w' => e = .returned (.bool true) ∧ Below w.heap.size w w' := by
  cases hok : okDr d with
  | false => exact cureDry_no d s Y k2 ys w hok
  | true =>
    have hf := wetR_first d 366 d.wl d.wh 0
    rw [← dryI_start] at hf
    by_cases hi : dryI d < 0
    · exact cureDry_none d s Y k2 ys w hY hok s0 s1 (by simp [dryV, hok, hi]) (by simp [dryE, hok, hi]) (hf.1 hi)
    · obtain ⟨n, a, b, c, e⟩ := hf.2 (by omega)
      have b' : dryI d = (n : Int) := by rw [b]; simp
      exact cureDry_some d s Y k2 ys w hY hok s0 s1 n (by omega) (by simp only [dryV, hok, if_true, if_neg hi]; exact b') (by simp [dryE, hok, hi]) e c

end Go.Proofs.Ytfampdiompjmeaa
