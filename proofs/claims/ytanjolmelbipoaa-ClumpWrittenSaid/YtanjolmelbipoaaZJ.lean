/-
  The search of the reference for the best plan.
-/
import Derived.Test.YtanjolmelbipoaaZG
import Derived.Test.YtanjolmelbipoaaZF
namespace Go.Proofs.Ytanjolmelbipoaa
open Go.RowKit

attribute [local go_sem] gives

def plO : Pl → List Int
  | none => []
  | some x => x.1
def totO : Pl → Int
  | none => 0
  | some x => x.2

theorem plO_none : plO none = [] := rfl
theorem plO_some (x : List Int × Int) : plO (some x) = x.1 := rfl
theorem totO_none : totO none = 0 := rfl
theorem totO_some (x : List Int × Int) : totO (some x) = x.2 := rfl

/-- What best hands back: as a value in a world. -/
def BsF (o : Pl) : Fact := fun v W => ∃ A c, v = .tuple #[.slice A (plO o).length c, .int .i64 (totO o), .bool o.isSome] ∧ (plO o).length ≤ c ∧ Ints W W.heap.size A (plO o)
theorem BsF.keep {o : Pl} {v : Value} {W W' : World} (h : BsF o v W) (hg : Grows W W') : BsF o v W' := by
  obtain ⟨A, c, hv, hc, hi⟩ := h
  exact ⟨A, c, hv, hc, (hi.below hg).mono hg.size⟩
def BestPost (w : World) (o : Pl) (e : Ending) (w' : World) : Prop := ∃ v, e = .returned v ∧ BsF o v w' ∧ Below w.heap.size w w'

/-- A list of numbers, as a slice. -/
def RsF (p : List Int) : Fact := fun v W => ∃ A c, v = .slice A p.length c ∧ p.length ≤ c ∧ Ints W W.heap.size A p
theorem RsF.keep {p : List Int} {v : Value} {W W' : World} (h : RsF p v W) (hg : Grows W W') : RsF p v W' := by
  obtain ⟨A, c, h1, h2, h3⟩ := h
  exact ⟨A, c, h1, h2, (h3.below hg).mono hg.size⟩

theorem own_one {w : World} {e : TypeId} {x : Int} {base : Nat} {g : Nat} (h0 : w.heap[g]? = some (.cells #[.int .i64 x] e (0, 0))) (hb : base ≤ g) : w.ownsRow base e 1 (.slice (some ⟨g, 0, none⟩) 1 1) 1 (ints [x]) :=
  ⟨by simp [ints], .inr ⟨g, 1, #[.int .i64 x], rfl, hb, h0, Nat.le_refl _, by unfold maxLen; omega, by simp, by simp [ints]⟩⟩

set_option maxRecDepth 100000 in
set_option maxHeartbeats 8000000 in
theorem refBest_any {h : Hab} {d r b : Nat} (H : HabOk h d r b) : ∀ (ps : List (Int × Int)) (P1 : Option Addr) (k1 : Nat) (A : Option Addr) (cap : Nat) (l : List Int) (M : Int) (w : World), ps.length ≤ 4 → ps.length ≤ k1 → (∀ p ∈ ps, 0 ≤ p.1 ∧ p.1 ≤ p.2 ∧ p.2 ≤ 1500) →
    M * 11 ^ ps.length ≤ 439230 → 30 ≤ M → l.length = d + 1 → l.length ≤ cap → Bnd 0 M l → Ints w w.heap.size A l → Vals w w.heap.size P1 (pairs ps) →
    Calls Try.prog 52 #[hv h, .slice A l.length cap, .slice P1 ps.length k1] w (BestPost w (bestL h r b ps l))
  | [], P1, k1, A, cap, l, M, w, _, _, _, _, _, _, _, _, _, _ => by
    unfold hv
    go_enter Try.func52, Try.ntmps52
    go_wp2
    go_ret3
    exact ⟨_, rfl, ⟨none, 0, rfl, Nat.le_refl _, fun h0 => by simp [plO, bestL] at h0⟩, (Below.refl _ _).alloc (Nat.le_refl _) _⟩
  | (x1, x2) :: ps, P1, k1, A, cap, l, M, w, h4, hk1, hrn, hM, m0, hl, hcap, hb, hI, hV => by
    have hd6 := H.d6
    have hbd := H.bd
    have hl0 := H.l0
    have hlh := H.lh
    have hh1 := H.h1
    simp only [List.length_cons] at h4 hk1 hM
    obtain ⟨rn0, rn1, rn2⟩ := hrn (x1, x2) (.head _)
    simp only at rn0 rn1 rn2
    have hpow : (1 : Int) ≤ 11 ^ ps.length := by
      match ps.length, (show ps.length ≤ 3 by omega) with
      | 0, _ => decide
      | 1, _ => decide
      | 2, _ => decide
      | 3, _ => decide
    have hM11 : 11 * M * 11 ^ ps.length ≤ 439230 := by rw [Int.pow_succ] at hM; rw [show 11 * M * 11 ^ ps.length = M * (11 ^ ps.length * 11) by rw [Int.mul_comm 11 M, Int.mul_assoc, Int.mul_comm 11]]; exact hM
    have hMM : 11 * M ≤ 439230 := by
      have := Int.mul_le_mul_of_nonneg_left hpow (show (0 : Int) ≤ 11 * M by omega)
      omega
    have hs := shotsL_bnd (b := b) hb (by omega) hl0 (rate := h.lo) (by omega) rn0 (rain := x1) (by omega) (by omega)
    have hb11 : Bnd 0 (11 * M) l := fun k hk => by have := hb k hk; omega
    have hsh := fun W hz => refShots_any h b H.hb A cap l W.heap.size W (Nat.le_refl _) hz (by omega) hcap (by omega) (fun k hk => by have := hb k hk; omega) h.lo x1 hl0 (by omega) rn0 (by omega)
    have hyr := fun (n : Int) (n0 : 0 ≤ n) (n1 : n ≤ 30) W hz => refYear_round H (A := A) (cap := cap) hl hb11 (show M ≤ 39930 by omega) m0 hs.1 hs.2 n0 n1 W hz
    have hyb := fun (n : Int) (n0 : 0 ≤ n) (n1 : n ≤ 30) => yearL_bnd (n := n) hb11 (by omega) hs.1 hs.2 n0 (show n ≤ 11 * M by omega)
    have hyl := fun n : Int => yearL_len l (shotsL b l h.lo x1) n
    have hgood := fun n : Int => bestL_good h r b ps (yearL l (shotsL b l h.lo x1) n)
    have hrec := fun (n : Int) (n0 : 0 ≤ n) (n1 : n ≤ 30) (P1' : Option Addr) (k1' : Nat) (A' : Option Addr) (cap' : Nat) (W : World) => refBest_any H ps P1' k1' A' cap' (yearL l (shotsL b l h.lo x1) n) (11 * M) W (by omega)
    have hT : bestL h r b ((x1, x2) :: ps) l = tryL (okY r h.keep l (shotsL b l h.lo x1)) (fun n => bestL h r b ps (yearL l (shotsL b l h.lo x1) n)) 31 0 none := rfl
    rw [hT]
    generalize hT2 : tryL (okY r h.keep l (shotsL b l h.lo x1)) (fun n => bestL h r b ps (yearL l (shotsL b l h.lo x1) n)) 31 0 none = T
    have HT := Lib.hid hT2
    clear hT2
    obtain ⟨b1, off1, hA1, hlt1, hc1⟩ := hV (by simp [pairs])
    subst hA1
    have hx0 : w.cell? ⟨b1, off1, none⟩ = some (.int .i64 x1) := hc1 0 _ rfl
    have hVt : Vals w w.heap.size (some ⟨b1, off1 + 2, none⟩) (pairs ps) := fun _ => ⟨b1, off1 + 2, rfl, hlt1, fun j v hj => by
      have := hc1 (j + 2) v (by simpa [pairs] using hj)
      rwa [show off1 + (j + 2) = off1 + 2 + j by omega] at this⟩
    have hlz : (0 : Int) < (ps.length : Int) + 1 := by omega
    obtain ⟨w1, hw1⟩ : ∃ w1, w.alloc (.cells (hcells h).toArray 25) = w1 := ⟨_, rfl⟩
    have hs1 : w1.heap.size = w.heap.size + 1 := by rw [← hw1]; simp
    have hb1' : Below w.heap.size w w1 := by rw [← hw1]; exact (Below.refl _ _).alloc (Nat.le_refl _) _
    have hh1' : w1.heap[w.heap.size]? = some (.cells (hcells h).toArray 25 (0, 0)) := by rw [← hw1]; exact alloc_at0 w _
    have H1 := Lib.hid (And.intro hb1' (And.intro hh1' hs1))
    have HI := Lib.hid (And.intro hI hVt)
    have HX := Lib.hid (And.intro hx0 hlt1)
    have HSH := Lib.hid hsh
    have HYR := Lib.hid (And.intro hyr (And.intro hyb (And.intro hyl hgood)))
    have HREC := Lib.hid hrec
    have HC := Lib.hid (And.intro hl (And.intro hcap (And.intro hM11 (And.intro m0 (And.intro hk1 (fun p hp => hrn p (.tail _ hp)))))))
    have HS := Lib.hid hs
    simp only [hcells] at hw1
    clear hb1' hh1' hI hVt hx0 hsh hyr hyb hyl hgood hrec hb hb11 hrn hV hc1 hl hcap hM hM11 m0 rn1 rn2 hk1 hT hs hlt1
    have hk1z : (1 : Int) ≤ (ps.length : Int) + 1 := by omega
    unfold hv
    simp only [List.length_cons]
    go_enter Try.func52, Try.ntmps52
    go_wp2
    clear hs1
    refine R2.wp_walk (C := Below w1.heap.size w1) (S := fun _ => Grows) 86 (by kernel_rfl) (by kernel_rfl) rfl (fun _ => Grows.refl) (Below.refl _ _).drew ?_
    simp only []
    repeat
      (refine' R2.WalkR.det (fun _ => rfl) rfl (fun ρ W hW hH hU => ?_) ?_
       rotate_left
       · clear hH hU
         have hbw := H1.out.1.trans (hW.mono H1.out.1.size)
         have hx := (hbw.cell (p := ⟨b1, off1, none⟩) HX.out.2).trans HX.out.1
         have hhW := (hW.block _ (lt_of_heap H1.out.2.1)).trans H1.out.2.1
         have hlo := (cell_of_row W w.heap.size 0 _ _ _ hhW).trans (show _ = some (Value.int .i64 h.lo) from rfl)
         have HhW := Lib.hid (And.intro hhW ((HI.out.1.below hbw).mono hbw.size))
         have HW := Lib.hid hW
         clear hW hhW hbw
         first
           | exact gives_load_blk 25 (.tmp 3) rfl rfl HhW.out.1 (hcells h) at0 rowHab ⟨rfl, Grows.refl _, HW.out⟩
           | (go_simp
              first
                | with_reducible exact ⟨rfl, Grows.refl _, HW.out⟩
                | (go_at_call 31; refine (HSH.out W HhW.out.2).mono ?_; rintro e W1 ⟨rfl, hB1⟩; exact ⟨_, rfl, rfl, hB1, HW.out.trans (hB1.mono HW.out.size)⟩))
       simp only [Act.put, List.setIfInBounds_toArray, List.set_cons_succ, List.set_cons_zero])
    refine R2.WalkR.nil (fun ρ w2 hW hH hF => ?_)
    clear hH hF
    have hb2 := H1.out.1.trans (hW.mono H1.out.1.size)
    have hh2 := (hW.block _ (lt_of_heap H1.out.2.1)).trans H1.out.2.1
    have H2 := Lib.hid (And.intro hb2 hh2)
    clear hW hb2 hh2
    go_wp2
    go_loopg [9, 10, 11, 13] 31 (fun g s9 s10 s11 s13 wx => ∃ (i : Nat) (bo : Pl) (D : Option Addr) (c : Nat), i + g = 31 ∧ s13 = .int .i64 i ∧ s9 = .slice D (plO bo).length c ∧ s10 = .int .i64 (totO bo) ∧ s11 = .bool bo.isSome ∧
      Hid (Good (ps.length + 1) bo ∧ T = tryL (okY r h.keep l (shotsL b l h.lo x1)) (fun n => bestL h r b ps (yearL l (shotsL b l h.lo x1) n)) g i bo ∧ (plO bo).length ≤ c ∧ Ints wx wx.heap.size D (plO bo) ∧ Below w.heap.size w wx ∧ wx.heap[w.heap.size]? = some (.cells (hcells h).toArray 25 (0, 0))))
    case atStart => exact ⟨0, none, none, 0, rfl, rfl, rfl, rfl, rfl, Good.none, HT.out.symm, Nat.le_refl _, fun h0 => by simp [plO] at h0, H2.out.1, H2.out.2⟩
    case round =>
      obtain ⟨i, bo, D, c, hig, rfl, rfl, rfl, rfl, hI⟩ := hrel
      cases gk with
      | zero =>
        obtain rfl : i = 31 := by omega
        have htb := hI.out.2.1
        simp only [tryL] at htb
        have TB := Lib.hid htb
        clear htb
        go_wp2
        go_ret3
        rw [TB.out]
        exact ⟨_, rfl, ⟨D, c, rfl, hI.out.2.2.1, hI.out.2.2.2.1⟩, hI.out.2.2.2.2.1⟩
      | succ g =>
        have hi31 : i < 31 := by omega
        have hiz : (i : Int) ≤ 30 := by omega
        have hy := HYR.out.1 (i : Int) (by omega) (by omega)
        generalize hok : yearOk r l (shotsL b l h.lo x1) (i : Int) = ok at hy
        cases ok with
        | false =>
          have hno : okY r h.keep l (shotsL b l h.lo x1) (i : Int) = false := by unfold okY; rw [hok]; rfl
          have htb := hI.out.2.1
          rw [tryL_no hno] at htb
          have TB := Lib.hid htb
          have HY := Lib.hid (fun W hz => (hy W hz).1 rfl)
          clear htb hno hok hy
          go_wp2_with (first
            | (show wpList _ _ _ (Oper.mk (some 38) _ _ _ _ _ :: _) _ _
               refine wpList_load_blk 25 (.tmp 3) rfl rfl rfl hI.out.2.2.2.2.2 (hcells h) at0 rowHab ?_)
            | (go_at_call 34; refine (HY.out wr ((HI.out.1.below hI.out.2.2.2.2.1).mono hI.out.2.2.2.2.1.size)).mono ?_; rintro e W1 ⟨rfl, hB1⟩
               have LA := Lib.hid hB1
               clear hB1))
          refine R2.wp_walk (C := Below W1.heap.size W1) (S := fun _ => Grows) 86 (by kernel_rfl) (by kernel_rfl) rfl (fun _ => Grows.refl) (Below.refl _ _).drew ?_
          simp only []
          repeat (first
            | (refine R2.WalkR.un (fun _ => rfl) ?_
               simp only [Act.put, List.setIfInBounds_toArray, List.set_cons_succ, List.set_cons_zero])
            | (refine' R2.WalkR.det (fun _ => rfl) rfl (fun ρ W hW hH hU => ?_) ?_
               rotate_left
               · clear hH hU
                 have HW := Lib.hid hW
                 clear hW
                 go_simp
                 with_reducible exact ⟨rfl, Grows.refl _, HW.out⟩
               simp only [Act.put, List.setIfInBounds_toArray, List.set_cons_succ, List.set_cons_zero]))
          refine R2.WalkR.nil (fun ρ w3 hW hH hF => ?_)
          clear hH hF
          have hI3 : Ints w3 w3.heap.size D (plO bo) := by
            have hg := LA.out.trans (hW.mono LA.out.size)
            exact (hI.out.2.2.2.1.below hg).mono hg.size
          have H3 := Lib.hid (And.intro hI3 (hI.out.2.2.2.2.1.trans ((LA.out.trans (hW.mono LA.out.size)).mono hI.out.2.2.2.2.1.size)))
          clear hI3 hW
          go_wp2
          go_ret3
          rw [TB.out]
          exact ⟨_, rfl, ⟨D, c, rfl, hI.out.2.2.1, H3.out.1⟩, H3.out.2⟩
        | true =>
          have hsm := HYR.out.2.1 (i : Int) (by omega) (by omega)
          have hll := HYR.out.2.2.1 (i : Int)
          have hgd := HYR.out.2.2.2 (i : Int)
          have hrc := HREC.out (i : Int) (by omega) (by omega)
          have hky : okY r h.keep l (shotsL b l h.lo x1) (i : Int) = decide (h.keep ≤ (yearL l (shotsL b l h.lo x1) (i : Int)).sum) := by unfold okY; rw [hok, Bool.true_and]
          have htb := hI.out.2.1
          have hyes := fun e => htb.trans (tryL_yes (k := g) (best := bo) (f := fun n => bestL h r b ps (yearL l (shotsL b l h.lo x1) n)) e)
          have hnot := fun e => htb.trans (tryL_no (k := g + 1) (best := bo) (f := fun n => bestL h r b ps (yearL l (shotsL b l h.lo x1) n)) e)
          have HY := Lib.hid (fun W hz => (hy W hz).2 rfl)
          generalize goneL l (shotsL b l h.lo x1) (i : Int) = gn at HY
          rw [hky] at hyes hnot
          clear htb hok hy hky
          generalize yearL l (shotsL b l h.lo x1) (i : Int) = l' at HY hsm hll hgd hrc hyes hnot
          generalize bestL h r b ps l' = ro at hgd hrc hyes hnot
          have HL := Lib.hid (And.intro hsm (And.intro hll (And.intro hgd (And.intro hrc (And.intro hyes hnot)))))
          have hsum : ∀ (E : Option Addr) (q : Nat) (W : World), Ints W W.heap.size E l' → _ := fun E q W hz => refSum_any E q l' W.heap.size W hz (by rw [hll, HC.out.1]; omega) (fun k hk => by have := hsm k hk; omega)
          have HSU := Lib.hid hsum
          clear hsm hll hgd hrc hyes hnot hsum
          go_wp2_with (first
            | (show wpList _ _ _ (Oper.mk (some 38) _ _ _ _ _ :: _) _ _
               refine wpList_load_blk 25 (.tmp 3) rfl rfl rfl hI.out.2.2.2.2.2 (hcells h) at0 rowHab ?_)
            | (go_at_call 34; refine (HY.out wr ((HI.out.1.below hI.out.2.2.2.2.1).mono hI.out.2.2.2.2.1.size)).mono ?_; rintro e W1 ⟨_, rfl, ⟨E, q, E', q', rfl, hq, hE, -⟩, hB1⟩
               have LA := Lib.hid (And.intro hB1 (And.intro hq hE))
               clear hB1 hq hE))
          have hhA : W1.heap[w.heap.size]? = some (.cells (hcells h).toArray 25 (0, 0)) := (LA.out.1.block _ (lt_of_heap hI.out.2.2.2.2.2)).trans hI.out.2.2.2.2.2
          have HHA := Lib.hid hhA
          clear hhA
          generalize hsz : l'.sum = sz at HSU HL
          clear hsz
          by_cases hlt : sz < h.keep
          all_goals
            refine R2.wp_walk (C := Below W1.heap.size W1) (S := fun _ => Grows) 86 (by kernel_rfl) (by kernel_rfl) rfl (fun _ => Grows.refl) (Below.refl _ _).drew ?_
            simp only []
            repeat
              (refine' R2.WalkR.det (fun _ => rfl) rfl (fun ρ W hW hH hU => ?_) ?_
               rotate_left
               · clear hH hU
                 have hhW := (hW.block _ (lt_of_heap HHA.out)).trans HHA.out
                 have hke := (cell_of_row W w.heap.size 5 _ _ _ hhW).trans (show _ = some (Value.int .i64 h.keep) from rfl)
                 have HE := Lib.hid ((LA.out.2.2.below hW).mono hW.size)
                 have HW := Lib.hid hW
                 clear hW hhW
                 go_simp
                 first
                   | with_reducible exact ⟨rfl, Grows.refl _, HW.out⟩
                   | (go_at_call 35; refine (HSU.out E q W HE.out).mono ?_; rintro e W2 ⟨rfl, rfl⟩; exact ⟨_, rfl, rfl, Grows.refl _, HW.out⟩)
               simp only [Act.put, List.setIfInBounds_toArray, List.set_cons_succ, List.set_cons_zero])
            refine R2.WalkR.nil (fun ρ w3 hW hH hF => ?_)
            clear hH hF
            have hg3 := LA.out.1.trans (hW.mono LA.out.1.size)
            have H3 := Lib.hid (And.intro hg3 (And.intro ((hW.block _ (lt_of_heap HHA.out)).trans HHA.out) ((LA.out.2.2.below hW).mono hW.size)))
            clear hg3 hW
          · go_wp2
            go_ret3
            rw [HL.out.2.2.2.2.2 (by simpa using hlt)]
            have hbw := hI.out.2.2.2.2.1
            exact ⟨_, rfl, ⟨D, c, rfl, hI.out.2.2.1, (hI.out.2.2.2.1.below H3.out.1).mono H3.out.1.size⟩, hbw.trans (H3.out.1.mono hbw.size)⟩
          · go_wp2
            have hk1w : ps.length + 1 ≤ k1 := HC.out.2.2.2.2.1
            refine R2.wp_walk (C := Below w3.heap.size w3) (S := fun _ => Grows) 86 (by kernel_rfl) (by kernel_rfl) rfl (fun _ => Grows.refl) (Below.refl _ _).drew ?_
            simp only []
            repeat
              (refine' R2.WalkR.det (fun _ => rfl) rfl (fun ρ W hW hH hU => ?_) ?_
               rotate_left
               · clear hH hU
                 have HhW := Lib.hid ((hW.block _ (lt_of_heap H3.out.2.1)).trans H3.out.2.1)
                 have HW := Lib.hid hW
                 clear hW
                 first
                   | exact gives_load_blk 25 (.tmp 3) rfl rfl HhW.out (hcells h) at0 rowHab ⟨rfl, Grows.refl _, HW.out⟩
                   | (go_simp
                      with_reducible exact ⟨rfl, Grows.refl _, HW.out⟩)
               simp only [Act.put, List.setIfInBounds_toArray, List.set_cons_succ, List.set_cons_zero])
            refine' R2.WalkR.nd (BsF ro) (fun _ => rfl) rfl rfl (fun o' v W W' _ _ hv hs _ => hv.keep hs) (fun ρ W hW hH hU => ?_) ?_
            · clear hH hU
              have HW := Lib.hid hW
              clear hW
              go_simp
              have hgw := HI.out.2.below (hI.out.2.2.2.2.1.trans ((H3.out.1.trans (HW.out.mono H3.out.1.size)).mono hI.out.2.2.2.2.1.size))
              have hvals : Vals W W.heap.size (if k1 = 1 then some ⟨b1, off1, none⟩ else some ⟨b1, off1 + 2, none⟩) (pairs ps) := by
                split
                · intro h0
                  rw [pairs_len] at h0
                  omega
                · exact hgw.mono (Nat.le_trans hI.out.2.2.2.2.1.size (Nat.le_trans H3.out.1.size HW.out.size))
              refine (HL.out.2.2.2.1 _ (k1 - 1) E q W (by omega) HC.out.2.2.2.2.2 HC.out.2.2.1 (by have := HC.out.2.2.2.1; omega) (HL.out.2.1.trans HC.out.1) LA.out.2.1 HL.out.1 ((H3.out.2.2.below HW.out).mono HW.out.size) hvals).mono ?_
              rintro e W2 ⟨v, rfl, hv, hB2⟩
              exact ⟨v, rfl, hv, hB2, HW.out.trans (hB2.mono HW.out.size)⟩
            simp only [Act.put, List.setIfInBounds_toArray, List.set_cons_succ, List.set_cons_zero]
            refine' R2.WalkR.nd (BsF ro) (fun _ => rfl) rfl rfl (fun o' v W W' _ _ hv hs _ => hv.keep hs) (fun ρ W hW hH hU => ?_) ?_
            · have hv := hH _ (.head _) (by first | decide +kernel | (dsimp only; decide +kernel))
              clear hH hU
              have HW := Lib.hid (And.intro hv hW)
              clear hW hv
              go_simp
              exact ⟨HW.out.1, Grows.refl _, HW.out.2⟩
            simp only [Act.put, List.setIfInBounds_toArray, List.set_cons_succ, List.set_cons_zero]
            refine' R2.WalkR.nd (RsF (plO ro)) (fun _ => rfl) rfl rfl (fun o' v W W' _ _ hv hs _ => hv.keep hs) (fun ρ W hW hH hU => ?_) ?_
            · obtain ⟨X, x, hv, hx, hi⟩ := hH _ (.head _) (by first | decide +kernel | (dsimp only; decide +kernel))
              have hv' : ρ 55 = .tuple #[.slice X (plO ro).length x, .int .i64 (totO ro), .bool ro.isSome] := hv
              clear hH hU hv
              have HW := Lib.hid (And.intro hx (And.intro hi hW))
              clear hi hW hx
              go_simp
              exact ⟨⟨X, x, rfl, HW.out.1, HW.out.2.1⟩, Grows.refl _, HW.out.2.2⟩
            simp only [Act.put, List.setIfInBounds_toArray, List.set_cons_succ, List.set_cons_zero]
            refine' R2.WalkR.det (fun _ => rfl) rfl (fun ρ W hW hH hU => ?_) ?_
            rotate_left
            · obtain ⟨X, x, hv, -⟩ := hH _ (.tail _ (.head _)) (by first | decide +kernel | (dsimp only; decide +kernel))
              have hv' : ρ 55 = .tuple #[.slice X (plO ro).length x, .int .i64 (totO ro), .bool ro.isSome] := hv
              clear hH hU hv
              have HW := Lib.hid hW
              clear hW
              go_simp
              exact ⟨rfl, Grows.refl _, HW.out⟩
            simp only [Act.put, List.setIfInBounds_toArray, List.set_cons_succ, List.set_cons_zero]
            refine' R2.WalkR.det (fun _ => rfl) rfl (fun ρ W hW hH hU => ?_) ?_
            rotate_left
            · obtain ⟨X, x, hv, -⟩ := hH _ (.tail _ (.head _)) (by first | decide +kernel | (dsimp only; decide +kernel))
              have hv' : ρ 55 = .tuple #[.slice X (plO ro).length x, .int .i64 (totO ro), .bool ro.isSome] := hv
              clear hH hU hv
              have HW := Lib.hid hW
              clear hW
              go_simp
              exact ⟨rfl, Grows.refl _, HW.out⟩
            simp only [Act.put, List.setIfInBounds_toArray, List.set_cons_succ, List.set_cons_zero]
            refine' R2.WalkR.nd (RsF (plO ro)) (fun _ => rfl) rfl rfl (fun o' v W W' _ _ hv hs _ => hv.keep hs) (fun ρ W hW hH hU => ?_) ?_
            · have hv := hH _ (.head _) (by first | decide +kernel | (dsimp only; decide +kernel))
              clear hH hU
              have HW := Lib.hid (And.intro hv hW)
              clear hW hv
              go_simp
              exact ⟨HW.out.1, Grows.refl _, HW.out.2⟩
            simp only [Act.put, List.setIfInBounds_toArray, List.set_cons_succ, List.set_cons_zero]
            refine' R2.WalkR.det (fun _ => rfl) rfl (fun ρ W hW hH hU => ?_) ?_
            rotate_left
            · clear hH hU
              have HW := Lib.hid hW
              clear hW
              go_simp
              exact ⟨rfl, Grows.refl _, HW.out⟩
            simp only [Act.put, List.setIfInBounds_toArray, List.set_cons_succ, List.set_cons_zero]
            refine' R2.WalkR.det (fun _ => rfl) rfl (fun ρ W hW hH hU => ?_) ?_
            rotate_left
            · clear hH hU
              have HW := Lib.hid hW
              clear hW
              go_simp
              exact ⟨rfl, Grows.refl _, HW.out⟩
            simp only [Act.put, List.setIfInBounds_toArray, List.set_cons_succ, List.set_cons_zero]
            refine R2.WalkR.nil (fun ρ w4 hW hH hF => ?_)
            obtain ⟨X, x, hv, hx, hX⟩ := hH _ (.head _)
            have hv' : ρ 17 = .slice X (plO ro).length x := hv
            rw [hv']
            have hg4 := H3.out.1.trans (hW.mono H3.out.1.size)
            have H4 := Lib.hid (And.intro hg4 (And.intro ((hW.block _ (lt_of_heap H3.out.2.1)).trans H3.out.2.1) (And.intro hx hX)))
            have hyz := HL.out.2.2.2.2.1 (by simpa using hlt)
            have HYZ := Lib.hid hyz
            clear hH hF hv hv' hW hx hX hg4 hyz
            generalize (if k1 = 1 then (some ⟨b1, off1, none⟩ : Option Addr) else some ⟨b1, off1 + 2, none⟩) = V0
            have hgr := HL.out.2.2.1
            have hgb := hI.out.1
            obtain ⟨i0, hi0, hz0, hz1, hz2⟩ := info_parts Try.info3
            have HI0 := Lib.hid (And.intro hi0 (And.intro hz0 (And.intro hz1 hz2)))
            clear hi0 hz0 hz1 hz2
            have hgu := hgb.upd (n := (i : Int)) (by omega) hiz hgr
            cases ro with
            | none =>
              simp only [plO_none, totO_none, Option.isSome_none, List.length_nil]
              go_wp2
              go_roundg g
              case measure => omega
              case rel =>
                have hg5 := hI.out.2.2.2.2.1.trans (H4.out.1.mono hI.out.2.2.2.2.1.size)
                exact ⟨i + 1, bo, D, c, by omega, by go_num, rfl, rfl, rfl, hI.out.1, by rw [HYZ.out]; push_cast; rfl, hI.out.2.2.1, (hI.out.2.2.2.1.below H4.out.1).mono H4.out.1.size, hg5, H4.out.2.1⟩
            | some xx =>
              obtain ⟨p, t⟩ := xx
              obtain ⟨hpl, -, -, ht0, ht1⟩ := hgr p t rfl
              have hp4 : p.length ≤ 3 := by omega
              have ht4 : t ≤ 90 := by omega
              clear hpl ht1
              cases bo with
              | none =>
                have HGU := Lib.hid hgu
                clear hgu hgr hgb
                simp only [plO_none, totO_none, plO_some, totO_some, Option.isSome_none, Option.isSome_some, List.length_nil]
                go_wp2_with
                  (at_builtin
                   refine wpl_app (by rfl) (.tmp 77) (.tmp 78) _ (by rfl) w4.heap.size 3 i0 _ 1 8 Try.underlying26 HI0.out.1 HI0.out.2.1 HI0.out.2.2.1 HI0.out.2.2.2 rfl (by omega) _ 1 (ints [(i : Int)]) (by rfl) (own_one (alloc_at0 w4 _) (Nat.le_refl _))
                     w4.heap.size X p.length x (ints p) (by rfl) (H4.out.2.2.2.vals.below ((Below.refl _ _).alloc (Nat.le_refl _) _)) (by simp [ints]) (oneCells_ints _) (by simp only [maxLen]; omega) (by omega) (by simp) ?_
                   intro v5 w5 hown hgrow _
                   obtain ⟨Y, z, rfl⟩ := own_slice hown
                   have hB5 := Below.ofGrown ((Below.refl w4.heap.size w4).alloc (Nat.le_refl _) _) hgrow (by simp) (Nat.le_refl _)
                   have H5 := Lib.hid (And.intro hown hB5)
                   clear hown hgrow hB5)
                go_roundg g
                case measure => omega
                case rel =>
                  have hg45 := H4.out.1.trans (H5.out.2.mono H4.out.1.size)
                  have hg5 := hI.out.2.2.2.2.1.trans (hg45.mono hI.out.2.2.2.2.1.size)
                  have hlen : (plO (some ((i : Int) :: p, (i : Int) + t))).length = 1 + p.length := by simp [plO]; omega
                  have hown := H5.out.1
                  have hvs : ints [(i : Int)] ++ ints p = ints ((i : Int) :: p) := rfl
                  rw [hvs] at hown
                  exact ⟨i + 1, some ((i : Int) :: p, (i : Int) + t), Y, z, by omega, by go_num, by rw [hlen], rfl, rfl, HGU.out, by rw [HYZ.out]; push_cast; rfl, by rw [hlen]; exact own_cap_any hown, (Vals.own hown).ints, hg5, (H5.out.2.block _ (lt_of_heap H4.out.2.1)).trans H4.out.2.1⟩
              | some yy =>
                obtain ⟨p2, u⟩ := yy
                obtain ⟨-, -, -, hu0, hu1⟩ := hgb p2 u rfl
                have hu4 : u ≤ 120 := by omega
                by_cases hbt : u < (i : Int) + t
                · have hup : upd (i : Int) (some (p2, u)) (some (p, t)) = some ((i : Int) :: p, (i : Int) + t) := by simp only [upd]; rw [if_pos hbt]
                  rw [hup] at hgu
                  have HGU := Lib.hid hgu
                  have HUP := Lib.hid hup
                  clear hgu hgr hgb hu1 hup
                  simp only [plO_some, totO_some, Option.isSome_some]
                  go_wp2_with
                    (at_builtin
                     refine wpl_app (by rfl) (.tmp 77) (.tmp 78) _ (by rfl) w4.heap.size 3 i0 _ 1 8 Try.underlying26 HI0.out.1 HI0.out.2.1 HI0.out.2.2.1 HI0.out.2.2.2 rfl (by omega) _ 1 (ints [(i : Int)]) (by rfl) (own_one (alloc_at0 w4 _) (Nat.le_refl _))
                       w4.heap.size X p.length x (ints p) (by rfl) (H4.out.2.2.2.vals.below ((Below.refl _ _).alloc (Nat.le_refl _) _)) (by simp [ints]) (oneCells_ints _) (by simp only [maxLen]; omega) (by omega) (by simp) ?_
                     intro v5 w5 hown hgrow _
                     obtain ⟨Y, z, rfl⟩ := own_slice hown
                     have hB5 := Below.ofGrown ((Below.refl w4.heap.size w4).alloc (Nat.le_refl _) _) hgrow (by simp) (Nat.le_refl _)
                     have H5 := Lib.hid (And.intro hown hB5)
                     clear hown hgrow hB5)
                  go_roundg g
                  case measure => omega
                  case rel =>
                    have hg45 := H4.out.1.trans (H5.out.2.mono H4.out.1.size)
                    have hg5 := hI.out.2.2.2.2.1.trans (hg45.mono hI.out.2.2.2.2.1.size)
                    have hlen : (plO (some ((i : Int) :: p, (i : Int) + t))).length = 1 + p.length := by simp [plO]; omega
                    have hown := H5.out.1
                    have hvs : ints [(i : Int)] ++ ints p = ints ((i : Int) :: p) := rfl
                    rw [hvs] at hown
                    exact ⟨i + 1, some ((i : Int) :: p, (i : Int) + t), Y, z, by omega, by go_num, by rw [hlen], rfl, rfl, HGU.out, by rw [HYZ.out]; push_cast; rw [HUP.out], by rw [hlen]; exact own_cap_any hown, (Vals.own hown).ints, hg5, (H5.out.2.block _ (lt_of_heap H4.out.2.1)).trans H4.out.2.1⟩
                · have hup : upd (i : Int) (some (p2, u)) (some (p, t)) = some (p2, u) := by simp only [upd]; rw [if_neg hbt]
                  have HUP := Lib.hid hup
                  clear hgu hgr hgb hu1 hup
                  simp only [plO_some, totO_some, Option.isSome_some]
                  go_wp2
                  go_roundg g
                  case measure => omega
                  case rel =>
                    have hg5 := hI.out.2.2.2.2.1.trans (H4.out.1.mono hI.out.2.2.2.2.1.size)
                    exact ⟨i + 1, some (p2, u), D, c, by omega, by go_num, rfl, rfl, rfl, hI.out.1, by rw [HYZ.out]; push_cast; rw [HUP.out], hI.out.2.2.1, (hI.out.2.2.2.1.below H4.out.1).mono H4.out.1.size, hg5, H4.out.2.1⟩

end Go.Proofs.Ytanjolmelbipoaa

