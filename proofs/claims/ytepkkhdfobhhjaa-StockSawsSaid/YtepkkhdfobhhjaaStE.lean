/-
  Which trunks are valid (the program's).
-/
import Derived.Test.YtepkkhdfobhhjaaStD
namespace Go.Proofs.Ytepkkhdfobhhjaa
open Go.RowKit
open R6 (done done_ne done_me upd_ne upd_me)

attribute [local go_sem] gives

set_option maxRecDepth 100000 in
set_option maxHeartbeats 4000000 in
theorem increasing_any (A : Option Addr) (cap : Nat) (zs : List Int) (B : Nat) (w : World) (hB : B ≤ w.heap.size) (hz : Ints w B A zs) (hl : zs.length ≤ 1000000) :
    Calls Try.prog 75 #[.slice A zs.length cap] w fun e w' => e = .returned (.bool (incF none zs)) ∧ Below w.heap.size w w' := by
  have HZ := Lib.hid hz
  clear hz
  go_enter Try.func75, Try.ntmps75
  go_wp2
  go_loopg [6] zs.length (fun gg s6 wx => ∃ k : Nat, k + gg = zs.length ∧ s6 = .int .i64 k ∧ Hid (incF (prevZ zs k) (zs.drop k) = incF none zs) ∧ Hid (Below w.heap.size w wx))
  case atStart => exact ⟨0, by omega, rfl, rfl, Below.refl _ _⟩
  case round =>
    obtain ⟨k, hkg, rfl, hI, hBr⟩ := hrel
    cases gk with
    | zero =>
      obtain rfl : k = zs.length := by omega
      go_wp2
      go_ret
      exact ⟨by rw [← hI.out, incF_end]; rfl, hBr.out⟩
    | succ gg =>
      have hk : k < zs.length := by omega
      have hkz : (k : Int) < zs.length := by omega
      obtain ⟨c, off, hA, hcB, hc⟩ := HZ.out (by omega)
      subst hA
      have hws := hBr.out.size
      have hcc : ∀ i, i < zs.length → ∀ W, Below w.heap.size w W → W.cell? ⟨c, off + i, none⟩ = some (.int .i64 (zs[i]?.getD 0)) := fun i hi W hW => (hW.cell (p := ⟨c, off + i, none⟩) (by simp; omega)).trans (hc i hi)
      have HC0 := Lib.hid hcc
      have HLT := Lib.hid (show wr.heap.size ≤ wr.drew.heap.size by simp)
      clear hc hcc
      cases k with
      | zero =>
        go_wp2
        refine R6.wp_walk (C := fun _ _ W => Below wr.heap.size wr W) 24 (by kernel_rfl) (by kernel_rfl) rfl (Below.refl _ _).drew ?_
        simp only []
        repeat (first
          | (refine' R6.WalkR.det (fun _ => rfl) (fun D ρ W hK hC => ?_) ?_
             rotate_left
             · have HC := Lib.hid hC
               clear hC hK
               go_simp
               with_reducible exact ⟨rfl, HC.out⟩
             simp only [Act.put, List.setIfInBounds_toArray, List.set_cons_succ, List.set_cons_zero])
          | (refine R6.WalkR.un (fun _ => rfl) (fun D ρ W hK hC => hC) ?_
             simp only [Act.put, List.setIfInBounds_toArray, List.set_cons_succ, List.set_cons_zero]))
        refine R6.WalkR.nil (fun D ρ W hD hC => ?_)
        have HB := Lib.hid (hBr.out.trans (hC.mono hws))
        clear hC hD
        go_wp2
        go_roundg gg
        case measure => omega
        case rel => exact ⟨1, by omega, by go_num, by rw [incF_zero (by omega)]; exact hI.out, HB.out⟩
      | succ j =>
        have hst := incF_step (zs := zs) (k := j) (by omega)
        rw [hI.out] at hst
        have hj1 : (0 : Int) ≤ (j : Int) + 1 := by omega
        have hj2 : (j : Int) + 1 < zs.length := by omega
        have hj3 : ((j : Int) + 1).toNat = j + 1 := by omega
        have hj4 : (j : Int) < zs.length := by omega
        have hj5 : decide ((0 : Int) < (j : Int) + 1) = true := decide_eq_true (by omega)
        have hj6 : IntKind.i64.wrap (j : Int) = j := by rw [IntKind.wrap_i64]; omega
        have h1 := HC0.out j (by omega)
        have h2 := HC0.out (j + 1) (by omega)
        generalize zs[j]?.getD 0 = x at h1 hst
        generalize zs[j + 1]?.getD 0 = y at h2 hst
        have H1 := Lib.hid (And.intro h1 h2)
        have HST := Lib.hid hst
        clear h1 h2 hst
        by_cases hxy : x < y
        · have hn : decide (y ≤ x) = false := decide_eq_false (by omega)
          go_wp2
          refine R6.wp_walk (C := fun _ _ W => Below wr.heap.size wr W) 24 (by kernel_rfl) (by kernel_rfl) rfl (Below.refl _ _).drew ?_
          simp only []
          repeat (first
            | (refine' R6.WalkR.det (fun _ => rfl) (fun D ρ W hK hC => ?_) ?_
               rotate_left
               · have f1 := H1.out.1 W (hBr.out.trans (hC.mono hws))
                 have f2 := H1.out.2 W (hBr.out.trans (hC.mono hws))
                 have HC := Lib.hid hC
                 clear hC hK
                 go_simp
                 with_reducible exact ⟨rfl, HC.out⟩
               simp only [Act.put, List.setIfInBounds_toArray, List.set_cons_succ, List.set_cons_zero]))
          refine R6.WalkR.nil (fun D ρ W hD hC => ?_)
          have HB := Lib.hid (hBr.out.trans (hC.mono hws))
          clear hC hD
          go_wp2
          go_roundg gg
          case measure => omega
          case rel => exact ⟨j + 1 + 1, by omega, by go_num, by rw [HST.out, decide_eq_true hxy]; rfl, HB.out⟩
        · have hn : decide (y ≤ x) = true := decide_eq_true (by omega)
          go_wp2
          refine R6.wp_walk (C := fun _ _ W => Below wr.heap.size wr W) 24 (by kernel_rfl) (by kernel_rfl) rfl (Below.refl _ _).drew ?_
          simp only []
          repeat (first
            | (refine' R6.WalkR.det (fun _ => rfl) (fun D ρ W hK hC => ?_) ?_
               rotate_left
               · have f1 := H1.out.1 W (hBr.out.trans (hC.mono hws))
                 have f2 := H1.out.2 W (hBr.out.trans (hC.mono hws))
                 have HC := Lib.hid hC
                 clear hC hK
                 go_simp
                 with_reducible exact ⟨rfl, HC.out⟩
               simp only [Act.put, List.setIfInBounds_toArray, List.set_cons_succ, List.set_cons_zero]))
          refine R6.WalkR.nil (fun D ρ W hD hC => ?_)
          have HB := Lib.hid (hBr.out.trans (hC.mono hws))
          clear hC hD
          go_wp2
          go_ret
          exact ⟨by rw [HST.out, decide_eq_false (p := x < y) (by omega)]; rfl, HB.out⟩

theorem bends_any (x : Tk) (hn : 100 ≤ x.n) (hn2 : x.n ≤ 20000) (b : Nat) (B : Nat) (w : World) (hB : B ≤ w.heap.size) (hz : Ints w B x.A x.zs) (hl : x.zs.length ≤ 1000000) (hb : w.heap[b]? = some (.cells (tkc x).toArray 59 (0, 0))) :
    Calls Try.prog 61 #[.slice x.A x.zs.length x.c, .int .i64 4, .func (.func 72) #[] #[.pointer (some ⟨b, 0, none⟩)]] w fun e w' => e = .returned (.bool (decide (x.zs.length ≤ 4) && x.zs.all (bendB x.n))) ∧ Below w.heap.size w w' :=
  stAllBd_any b (bendB x.n) 4 (by omega) x.A x.c x.zs B w hB hz hl fun y W _ hW => bend1_any x hn hn2 y b W ((hW.block _ (lt_of_heap hb)).trans hb)

theorem okPc_bnd {n g : Int} (h : okPc n g = true) : 100 ≤ n ∧ n ≤ 20000 ∧ 0 ≤ g ∧ g ≤ 3 := by
  simp only [okPc, allB, List.all_cons, List.all_nil, Bool.and_true, Bool.and_eq_true, inR_iff] at h
  omega

set_option maxRecDepth 100000 in
set_option maxHeartbeats 4000000 in
theorem validTrunk_any (x : Tk) (B : Nat) (w : World) (hB : B ≤ w.heap.size) (hz : Ints w B x.A x.zs) (hl : x.zs.length ≤ 1000000) :
    Calls Try.prog 52 #[.agg (tkc x).toArray] w fun e w' => e = .returned (.bool (okTk (tkE x))) ∧ Below w.heap.size w w' := by
  obtain ⟨w1, hw1⟩ : ∃ w1, w.alloc (.cells (tkc x).toArray 59) = w1 := ⟨_, rfl⟩
  have hb1 : Below w.heap.size w w1 := by rw [← hw1]; exact grow1 _ _
  have m1 : w1.heap[w.heap.size]? = some (.cells (tkc x).toArray 59 (0, 0)) := by rw [← hw1]; exact alloc_at0 _ _
  have hp := fun W => validPiece_any x.n x.g W
  have hd := fun (h1 : 100 ≤ x.n) (h2 : x.n ≤ 20000) W (hW : Below w.heap.size w W) (hm : W.heap[w.heap.size]? = some (.cells (tkc x).toArray 59 (0, 0))) => bends_any x h1 h2 w.heap.size B W (Nat.le_trans hB hW.size) (hz.below (hW.mono hB)) hl hm
  have hi := fun W (hW : Below w.heap.size w W) => increasing_any x.A x.c x.zs B W (Nat.le_trans hB hW.size) (hz.below (hW.mono hB)) hl
  have hbn : okPc x.n x.g = true → 100 ≤ x.n ∧ x.n ≤ 20000 := fun h => ⟨(okPc_bnd h).1, (okPc_bnd h).2.1⟩
  have he : okTk (tkE x) = (okPc x.n x.g && (decide (x.zs.length ≤ 4) && x.zs.all (bendB x.n)) && incF none x.zs) := rfl
  rw [he]
  have HP := Lib.hid hp
  have HI := Lib.hid hi
  have H1 := Lib.hid (And.intro hb1 m1)
  clear hp hi hb1 m1 he hz
  have hcf := fun (W : World) (hW : Below w1.heap.size w1 W) i => cell_of_row W w.heap.size i _ _ _ ((hW.block _ (lt_of_heap H1.out.2)).trans H1.out.2)
  generalize incF none x.zs = v3 at HI ⊢
  generalize (decide (x.zs.length ≤ 4) && x.zs.all (bendB x.n)) = v2 at hd ⊢
  generalize okPc x.n x.g = v1 at HP hbn ⊢
  have HD := Lib.hid hd
  unfold tkc at hw1 hcf ⊢
  have HCF := Lib.hid hcf
  have hc1 := HCF.out w1 (Below.refl _ _)
  clear hd hcf
  cases v1 <;> cases v2 <;> cases v3
  all_goals
    go_enter Try.func52, Try.ntmps52
    go_wp2_with (first
      | (go_at_call 75
         refine (HI.out _ (H1.out.1.trans (H3.out.mono H1.out.1.size))).mono ?_
         rintro e w4 ⟨rfl, hB4⟩
         have H4 := Lib.hid (H3.out.trans (hB4.mono H3.out.size))
         clear hB4)
      | (go_at_call 61
         refine (HD.out (hbn (by first | trivial | rfl)).1 (hbn (by first | trivial | rfl)).2 _ (H1.out.1.trans (H2.out.mono H1.out.1.size)) ((H2.out.block _ (lt_of_heap H1.out.2)).trans H1.out.2)).mono ?_
         rintro e w3 ⟨rfl, hB3⟩
         have H3 := Lib.hid (H2.out.trans (hB3.mono H2.out.size))
         have hc3 := HCF.out w3 H3.out
         clear hB3 hc2)
      | (go_at_call 74
         refine (HP.out _).mono ?_
         rintro e w2 ⟨rfl, hB2⟩
         have H2 := Lib.hid hB2
         have hc2 := HCF.out w2 H2.out
         clear hB2 hc1))
    go_ret
    first
      | exact ⟨rfl, H1.out.1.trans (H4.out.mono H1.out.1.size)⟩
      | exact ⟨rfl, H1.out.1.trans (H3.out.mono H1.out.1.size)⟩
      | exact ⟨rfl, H1.out.1.trans (H2.out.mono H1.out.1.size)⟩

theorem validTrunks_any (A : Option Addr) (cap : Nat) (l : List Tk) (B : Nat) (w : World) (hB : B ≤ w.heap.size) (hz : TksAt w B l A) (hl : smallT l) :
    Calls Try.prog 37 #[.slice A l.length cap] w fun e w' => e = .returned (.bool (okTks (l.map tkE))) ∧ Below w.heap.size w w' := by
  have H := stAllTk_any (fun x => okTk (tkE x)) 6 (by omega) A cap l B w hB hz.v (by have := hl.1; omega)
    fun y W hy hW => validTrunk_any y B W (Nat.le_trans hB hW.size) ((hz.r y hy).below (hW.mono hB)) (by have := hl.2 y hy; omega)
  have e : okTks (l.map tkE) = (decide (l.length ≤ 6) && l.all fun x => okTk (tkE x)) := by simp [okTks, List.all_map, Function.comp_def]
  rw [e]
  generalize (decide (l.length ≤ 6) && l.all fun x => okTk (tkE x)) = v at H ⊢
  have HH := Lib.hid H
  clear H hz e
  go_enter Try.func37, Try.ntmps37
  go_wp2_with (go_at_call 51; refine HH.out.mono ?_; rintro e w' ⟨rfl, hB1⟩; have HB1 := Lib.hid hB1; clear hB1)
  go_ret
  exact ⟨rfl, HB1.out⟩

end Go.Proofs.Ytepkkhdfobhhjaa
