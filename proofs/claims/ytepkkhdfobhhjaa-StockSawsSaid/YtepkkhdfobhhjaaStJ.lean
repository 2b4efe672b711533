/-
  Which trunks are valid (the reference's).
-/
import Derived.Test.YtepkkhdfobhhjaaStI
namespace Go.Proofs.Ytepkkhdfobhhjaa
open Go.RowKit
open R6 (done done_ne done_me upd_ne upd_me)

attribute [local go_sem] gives

theorem refWithin7_any (n lo hi : Int) (w : World) : Calls Try.prog 41 #[.int .i64 n, .int .i64 lo, .int .i64 hi] w fun e w' => e = .returned (.bool (inR n lo hi)) ∧ w = w' := by
  by_cases h1 : lo ≤ n
  · by_cases h2 : n ≤ hi
    · have e : inR n lo hi = true := by simp [inR, h1, h2]
      rw [e]
      clear e
      go_enter Try.func41, Try.ntmps41
      go_wp2
      go_ret
      exact ⟨rfl, rfl⟩
    · have e : inR n lo hi = false := by simp [inR, h2]
      rw [e]
      clear e
      go_enter Try.func41, Try.ntmps41
      go_wp2
      go_ret
      exact ⟨rfl, rfl⟩
  · have e : inR n lo hi = false := by simp [inR, h1]
    rw [e]
    clear e
    go_enter Try.func41, Try.ntmps41
    go_wp2
    go_ret
    exact ⟨rfl, rfl⟩

def cmpF (p : Option Int) (z : Int) : Bool := match p with
  | none => true
  | some q => decide (q < z)
def chkF (n : Int) (p : Option Int) : List Int → Bool
  | [] => true
  | z :: l => inR z 1 (n - 1) && (cmpF p z && chkF n (some z) l)
theorem chkF_eq (n : Int) : ∀ (l : List Int) (p : Option Int), chkF n p l = (l.all (fun z => inR z 1 (n - 1)) && incF p l)
  | [], p => by cases p <;> rfl
  | z :: l, p => by
    have ih := chkF_eq n l (some z)
    simp only [chkF, ih, List.all_cons]
    cases p with
    | none => simp only [cmpF, incF, Bool.true_and, Bool.and_assoc]
    | some q =>
      simp only [cmpF, incF]
      cases inR z 1 (n - 1) <;> cases decide (q < z) <;> simp
theorem okTk_eq (x : Int × Int × List Int) : okTk x = (inR x.1 100 20000 && (inR x.2.1 0 3 && (decide (x.2.2.length ≤ 4) && chkF x.1 none x.2.2))) := by
  rw [chkF_eq]
  simp only [okTk, okPc, allB, List.all_cons, List.all_nil, Bool.and_true]
  cases inR x.1 100 20000 <;> cases inR x.2.1 0 3 <;> simp [Bool.and_assoc]
theorem chkF_step {n : Int} {zs : List Int} {k : Nat} (hk : k < zs.length) : chkF n (prevZ zs k) (zs.drop k) = (inR (zs[k]?.getD 0) 1 (n - 1) && (cmpF (prevZ zs k) (zs[k]?.getD 0) && chkF n (prevZ zs (k + 1)) (zs.drop (k + 1)))) := by
  rw [List.drop_eq_getElem_cons hk]
  have e : zs[k]?.getD 0 = zs[k] := by simp [hk]
  have p : prevZ zs (k + 1) = some zs[k] := by simp [prevZ, hk]
  rw [e, p]
  rfl
theorem chkF_end {n : Int} {zs : List Int} : chkF n (prevZ zs zs.length) (zs.drop zs.length) = true := by
  rw [List.drop_length]
  rfl

set_option maxRecDepth 100000 in
set_option maxHeartbeats 8000000 in
theorem refTrunks_any (A : Option Addr) (cap : Nat) (l : List Tk) (B : Nat) (w : World) (hB : B ≤ w.heap.size) (hz : TksAt w B l A) (hl : smallT l) :
    Calls Try.prog 36 #[.slice A l.length cap] w fun e w' => e = .returned (.bool (okTks (l.map tkE))) ∧ Below w.heap.size w w' := by
  by_cases h6 : 6 < l.length
  · have e : okTks (l.map tkE) = false := by rw [okTks, List.length_map, decide_eq_false (by omega)]; rfl
    have hi : (6 : Int) < l.length := by omega
    rw [e]
    clear e h6 hz hl
    go_enter Try.func36, Try.ntmps36
    go_wp2
    go_ret
    exact ⟨rfl, Below.refl _ _⟩
  have e : okTks (l.map tkE) = ((l.drop 0).all fun x => okTk (tkE x)) := by
    have h6' : decide (l.length ≤ 6) = true := decide_eq_true (by omega)
    rw [okTks, List.length_map, h6', List.all_map]; rfl
  have hi : (l.length : Int) ≤ 6 := by omega
  have hi' : ¬ (6 : Int) < l.length := by omega
  rw [e]
  have HZ := Lib.hid hz
  have HL := Lib.hid hl
  clear e hz hl
  go_enter Try.func36, Try.ntmps36
  go_wp2
  go_loopg [3] l.length (fun gg s3 wx => ∃ k : Nat, k + gg = l.length ∧ s3 = .int .i64 k ∧ Hid ((l.drop k).all (fun x => okTk (tkE x)) = (l.drop 0).all fun x => okTk (tkE x)) ∧ Hid (Below w.heap.size w wx))
  case atStart => exact ⟨0, by omega, rfl, rfl, Below.refl _ _⟩
  case round =>
    obtain ⟨k, hkg, rfl, hI, hBr⟩ := hrel
    cases gk with
    | zero =>
      obtain rfl : k = l.length := by omega
      go_wp2
      go_ret
      exact ⟨by rw [← hI.out, List.drop_length]; rfl, hBr.out⟩
    | succ gg =>
      have hk : k < l.length := by omega
      have hkz : (k : Int) < l.length := by omega
      have hws := hBr.out.size
      obtain ⟨c, off, hA, hcB, hc⟩ := vals_elem tkc_len HZ.out.v (by decide) hk
      subst hA
      have hc' : ∀ j u, (tkc l[k])[j]? = some u → wr.cell? ⟨c, off + k * 3 + j, none⟩ = some u := fun j u hu => (hBr.out.cell (p := ⟨c, off + k * 3 + j, none⟩) (by simp; omega)).trans (hc j u hu)
      have hin := HZ.out.r _ (List.getElem_mem hk)
      have hzl := HL.out.2 _ (List.getElem_mem hk)
      have hI2 := hI.out
      rw [List.drop_eq_getElem_cons hk, List.all_cons, okTk_eq, show tkE l[k] = (l[k].n, l[k].g, l[k].zs) from rfl] at hI2
      dsimp only at hI2
      generalize l[k] = y at hc' hin hI2 hzl
      have HC := Lib.hid hc'
      have HIN := Lib.hid hin
      clear hc hc' hin hI
      have hchk : ∀ v4, chkF y.n none y.zs = v4 → chkF y.n none y.zs = v4 := fun _ h => h
      have HI2 := Lib.hid hI2
      clear hI2 hchk
      cases hv1 : inR y.n 100 20000
      · go_wp2_with (first
          | (show wpList _ _ _ (Oper.mk (some 18) _ _ _ _ _ :: _) _ _
             refine wpList_load_at 59 (.tmp 17) rfl rfl rfl (tkc y) HC.out rowTrunk ?_)
          | (show wpList _ _ _ (Oper.mk none (Op.store _ (Operand.tmp 4) (Operand.tmp 18)) _ _ _ _ :: _) _ _
             refine wpList_store_blk 59 (.tmp 4) (.tmp 18) (cs := tkc y) (L := [.int .i64 0, .int .i64 0, .slice none 0 0]) rfl rfl rfl rfl rfl (alloc_at0 _ _) (by simp [tkc_len]) (fun u hu => tkc_one [y] u (by simpa using hu)) rowTrunk ?_
             intro w4 hP4 hM4
             rw [splice_whole (by simp [tkc_len])] at hM4
             have hs4 := hP4.size
             simp only [World.size_alloc] at hs4
             have hb4 : Below wr.heap.size wr w4 := (grow1 wr _).trans (hP4.below (Nat.le_refl _))
             unfold tkc at hM4
             have hc4 := fun W (hW : Below w4.heap.size w4 W) i => cell_of_row W wr.heap.size i _ _ _ ((hW.block _ (by omega)).trans hM4)
             have hw0 := hc4 w4 (Below.refl _ _)
             have H4 := Lib.hid (And.intro hb4 (And.intro hc4 hs4))
             clear hP4 hM4 hs4 hb4 hc4)
          | (go_at_call 41
             (with_reducible show Calls _ _ #[_, Value.int _ 100, _] _ _)
             refine (refWithin7_any _ _ _ _).mono ?_
             rintro e W1 ⟨rfl, rfl⟩)
          | (go_at_call 41
             (with_reducible show Calls _ _ #[_, Value.int _ 0, _] _ _)
             refine (refWithin7_any _ _ _ _).mono ?_
             rintro e W1 ⟨rfl, rfl⟩))
        go_ret
        exact ⟨by rw [← HI2.out, hv1]; rfl, hBr.out.trans (H4.out.1.mono hws)⟩
      cases hv2 : inR y.g 0 3
      · go_wp2_with (first
          | (show wpList _ _ _ (Oper.mk (some 18) _ _ _ _ _ :: _) _ _
             refine wpList_load_at 59 (.tmp 17) rfl rfl rfl (tkc y) HC.out rowTrunk ?_)
          | (show wpList _ _ _ (Oper.mk none (Op.store _ (Operand.tmp 4) (Operand.tmp 18)) _ _ _ _ :: _) _ _
             refine wpList_store_blk 59 (.tmp 4) (.tmp 18) (cs := tkc y) (L := [.int .i64 0, .int .i64 0, .slice none 0 0]) rfl rfl rfl rfl rfl (alloc_at0 _ _) (by simp [tkc_len]) (fun u hu => tkc_one [y] u (by simpa using hu)) rowTrunk ?_
             intro w4 hP4 hM4
             rw [splice_whole (by simp [tkc_len])] at hM4
             have hs4 := hP4.size
             simp only [World.size_alloc] at hs4
             have hb4 : Below wr.heap.size wr w4 := (grow1 wr _).trans (hP4.below (Nat.le_refl _))
             unfold tkc at hM4
             have hc4 := fun W (hW : Below w4.heap.size w4 W) i => cell_of_row W wr.heap.size i _ _ _ ((hW.block _ (by omega)).trans hM4)
             have hw0 := hc4 w4 (Below.refl _ _)
             have H4 := Lib.hid (And.intro hb4 (And.intro hc4 hs4))
             clear hP4 hM4 hs4 hb4 hc4)
          | (go_at_call 41
             (with_reducible show Calls _ _ #[_, Value.int _ 100, _] _ _)
             refine (refWithin7_any _ _ _ _).mono ?_
             rintro e W1 ⟨rfl, rfl⟩)
          | (go_at_call 41
             (with_reducible show Calls _ _ #[_, Value.int _ 0, _] _ _)
             refine (refWithin7_any _ _ _ _).mono ?_
             rintro e W1 ⟨rfl, rfl⟩))
        go_ret
        exact ⟨by rw [← HI2.out, hv1, hv2]; rfl, hBr.out.trans (H4.out.1.mono hws)⟩
      by_cases h4 : 4 < y.zs.length
      · have h4i : (4 : Int) < y.zs.length := by omega
        have hd4 : decide (y.zs.length ≤ 4) = false := decide_eq_false (by omega)
        go_wp2_with (first
          | (show wpList _ _ _ (Oper.mk (some 18) _ _ _ _ _ :: _) _ _
             refine wpList_load_at 59 (.tmp 17) rfl rfl rfl (tkc y) HC.out rowTrunk ?_)
          | (show wpList _ _ _ (Oper.mk none (Op.store _ (Operand.tmp 4) (Operand.tmp 18)) _ _ _ _ :: _) _ _
             refine wpList_store_blk 59 (.tmp 4) (.tmp 18) (cs := tkc y) (L := [.int .i64 0, .int .i64 0, .slice none 0 0]) rfl rfl rfl rfl rfl (alloc_at0 _ _) (by simp [tkc_len]) (fun u hu => tkc_one [y] u (by simpa using hu)) rowTrunk ?_
             intro w4 hP4 hM4
             rw [splice_whole (by simp [tkc_len])] at hM4
             have hs4 := hP4.size
             simp only [World.size_alloc] at hs4
             have hb4 : Below wr.heap.size wr w4 := (grow1 wr _).trans (hP4.below (Nat.le_refl _))
             unfold tkc at hM4
             have hc4 := fun W (hW : Below w4.heap.size w4 W) i => cell_of_row W wr.heap.size i _ _ _ ((hW.block _ (by omega)).trans hM4)
             have hw0 := hc4 w4 (Below.refl _ _)
             have H4 := Lib.hid (And.intro hb4 (And.intro hc4 hs4))
             clear hP4 hM4 hs4 hb4 hc4)
          | (go_at_call 41
             (with_reducible show Calls _ _ #[_, Value.int _ 100, _] _ _)
             refine (refWithin7_any _ _ _ _).mono ?_
             rintro e W1 ⟨rfl, rfl⟩)
          | (go_at_call 41
             (with_reducible show Calls _ _ #[_, Value.int _ 0, _] _ _)
             refine (refWithin7_any _ _ _ _).mono ?_
             rintro e W1 ⟨rfl, rfl⟩))
        go_ret
        exact ⟨by rw [← HI2.out, hv1, hv2, hd4]; rfl, hBr.out.trans (H4.out.1.mono hws)⟩
      have h4i : ¬ (4 : Int) < y.zs.length := by omega
      have h4j : (y.zs.length : Int) ≤ 4 := by omega
      have h4d : decide ((4 : Int) < y.zs.length) = false := decide_eq_false h4i
      have hd4 : decide (y.zs.length ≤ 4) = true := decide_eq_true (by omega)
      have hn1 : 100 ≤ y.n ∧ y.n ≤ 20000 := by rw [inR_iff] at hv1; exact hv1
      have hwn : IntKind.i64.wrap (y.n - 1) = y.n - 1 := by rw [IntKind.wrap_i64]; omega
      rw [hv1, hv2, hd4, Bool.true_and, Bool.true_and, Bool.true_and] at HI2
      have HD4 := Lib.hid hd4
      clear hd4
      go_wp2_with (first
        | (show wpList _ _ _ (Oper.mk (some 18) _ _ _ _ _ :: _) _ _
           refine wpList_load_at 59 (.tmp 17) rfl rfl rfl (tkc y) HC.out rowTrunk ?_)
        | (show wpList _ _ _ (Oper.mk none (Op.store _ (Operand.tmp 4) (Operand.tmp 18)) _ _ _ _ :: _) _ _
           refine wpList_store_blk 59 (.tmp 4) (.tmp 18) (cs := tkc y) (L := [.int .i64 0, .int .i64 0, .slice none 0 0]) rfl rfl rfl rfl rfl (alloc_at0 _ _) (by simp [tkc_len]) (fun u hu => tkc_one [y] u (by simpa using hu)) rowTrunk ?_
           intro w4 hP4 hM4
           rw [splice_whole (by simp [tkc_len])] at hM4
           have hs4 := hP4.size
           simp only [World.size_alloc] at hs4
           have hb4 : Below wr.heap.size wr w4 := (grow1 wr _).trans (hP4.below (Nat.le_refl _))
           unfold tkc at hM4
           have hc4 := fun W (hW : Below w4.heap.size w4 W) i => cell_of_row W wr.heap.size i _ _ _ ((hW.block _ (by omega)).trans hM4)
           have hw0 := hc4 w4 (Below.refl _ _)
           have H4 := Lib.hid (And.intro hb4 (And.intro hc4 hs4))
           clear hP4 hM4 hs4 hb4 hc4)
        | (go_at_call 41
           (with_reducible show Calls _ _ #[_, Value.int _ 100, _] _ _)
           refine (refWithin7_any _ _ _ _).mono ?_
           rintro e W1 ⟨rfl, rfl⟩)
        | (go_at_call 41
           (with_reducible show Calls _ _ #[_, Value.int _ 0, _] _ _)
           refine (refWithin7_any _ _ _ _).mono ?_
           rintro e W1 ⟨rfl, rfl⟩))
      obtain ⟨wo, rfl⟩ : ∃ wo : World, wo = wr := ⟨_, rfl⟩
      go_loopg [5] y.zs.length (fun gh s5 wz => ∃ j : Nat, j + gh = y.zs.length ∧ s5 = .int .i64 j ∧ Hid (chkF y.n (prevZ y.zs j) (y.zs.drop j) = chkF y.n none y.zs) ∧ Hid (Below w4.heap.size w4 wz))
      case atStart => exact ⟨0, by omega, rfl, rfl, Below.refl _ _⟩
      case round =>
        obtain ⟨j, hjg, rfl, hJ, hBj⟩ := hrel
        have hwz := hBj.out.size
        have hcj := H4.out.2.1 wr hBj.out
        clear hw0
        cases gk with
        | zero =>
          obtain rfl : j = y.zs.length := by omega
          have HX := HI2.out
          rw [← hJ.out, chkF_end, Bool.true_and] at HX
          have HX' := Lib.hid HX
          clear HX
          go_wp2
          go_roundg gg
          case measure => omega
          case rel => exact ⟨k + 1, by omega, by go_num, HX'.out, hBr.out.trans ((H4.out.1.mono hws).trans (hBj.out.mono (by have := H4.out.1.size; omega)))⟩
        | succ gh =>
          have hj : j < y.zs.length := by omega
          have hjz : (j : Int) < y.zs.length := by omega
          obtain ⟨d, p, hD, hdB, hd⟩ := HIN.out (by omega)
          have hB4 : B ≤ w4.heap.size := by have := H4.out.1.size; omega
          have hBw4 : Below w.heap.size w w4 := hBr.out.trans (H4.out.1.mono hws)
          have hcz : ∀ i, i < y.zs.length → ∀ W, Below w4.heap.size w4 W → W.cell? ⟨d, p + i, none⟩ = some (.int .i64 (y.zs[i]?.getD 0)) := fun i hi W hW => ((hBw4.trans (hW.mono hBw4.size)).cell (p := ⟨d, p + i, none⟩) (by simp; omega)).trans (hd i hi)
          have hst := chkF_step (n := y.n) hj
          rw [hJ.out] at hst
          have hzj := hcz j hj
          have hprev := fun i (h : i < y.zs.length) => hcz i h
          have HPV := Lib.hid hprev
          generalize hgz : y.zs[j]?.getD 0 = z at hzj hst
          have HGZ := Lib.hid hgz
          have HZJ := Lib.hid hzj
          have HST := Lib.hid hst
          clear hcz hd hst hzj hprev hgz hB4 hBw4
          have HDD := Lib.hid hD
          clear hD
          cases hvz : inR z 1 (y.n - 1)
          · go_wp2
            refine R6.wp_walk (C := fun _ _ W => Below wr.heap.size wr W) 70 (by kernel_rfl) (by kernel_rfl) rfl (Below.refl _ _).drew ?_
            simp only []
            iterate 8
              (first
               | (refine' R6.WalkR.det (fun _ => rfl) (fun D ρ W hK hC => ?_) ?_
                  rotate_left
                  · have hW4 := hBj.out.trans (hC.mono hBj.out.size)
                    have f0 := H4.out.2.1 W hW4 0
                    have f2 := H4.out.2.1 W hW4 2
                    rw [HDD.out] at f2
                    have fz := HZJ.out W hW4
                    have HC := Lib.hid hC
                    clear hC hK hW4
                    go_simp
                    with_reducible exact ⟨rfl, HC.out⟩
                  simp only [Act.put, List.setIfInBounds_toArray, List.set_cons_succ, List.set_cons_zero])
               | skip)
            refine' R6.WalkR.det (fun _ => rfl) (fun D ρ W hK hC => ?_) ?_
            rotate_left
            · have HC := Lib.hid hC
              have hw7 := refWithin7_any z 1 (y.n - 1) W
              rw [hvz] at hw7
              have HW7 := Lib.hid hw7
              clear hC hK hw7
              go_simp
              go_at_call 41
              refine HW7.out.mono ?_
              rintro e W1 ⟨rfl, rfl⟩
              exact ⟨_, rfl, rfl, HC.out⟩
            simp only [Act.put, List.setIfInBounds_toArray, List.set_cons_succ, List.set_cons_zero]
            repeat (first
              | (refine' R6.WalkR.det (fun _ => rfl) (fun D ρ W hK hC => ?_) ?_
                 rotate_left
                 · have hW4 := hBj.out.trans (hC.mono hBj.out.size)
                   have f0 := H4.out.2.1 W hW4 0
                   have f2 := H4.out.2.1 W hW4 2
                   rw [HDD.out] at f2
                   have fz := HZJ.out W hW4
                   have HC := Lib.hid hC
                   clear hC hK hW4
                   go_simp
                   with_reducible exact ⟨rfl, HC.out⟩
                 simp only [Act.put, List.setIfInBounds_toArray, List.set_cons_succ, List.set_cons_zero])
              | (refine R6.WalkR.un (fun _ => rfl) (fun D ρ W hK hC => hC) ?_
                 simp only [Act.put, List.setIfInBounds_toArray, List.set_cons_succ, List.set_cons_zero]))
            refine R6.WalkR.nil (fun D ρ W hD hC => ?_)
            have HB := Lib.hid (hBj.out.trans (hC.mono hBj.out.size))
            clear hC hD
            go_wp2
            go_ret
            exact ⟨by rw [← HI2.out, HST.out, hvz]; rfl, hBr.out.trans ((H4.out.1.mono hws).trans (HB.out.mono (by have := H4.out.1.size; omega)))⟩
          cases j with
          | zero =>
            go_wp2
            refine R6.wp_walk (C := fun _ _ W => Below wr.heap.size wr W) 70 (by kernel_rfl) (by kernel_rfl) rfl (Below.refl _ _).drew ?_
            simp only []
            iterate 8
              (first
               | (refine' R6.WalkR.det (fun _ => rfl) (fun D ρ W hK hC => ?_) ?_
                  rotate_left
                  · have hW4 := hBj.out.trans (hC.mono hBj.out.size)
                    have f0 := H4.out.2.1 W hW4 0
                    have f2 := H4.out.2.1 W hW4 2
                    rw [HDD.out] at f2
                    have fz := HZJ.out W hW4
                    rw [Nat.add_zero] at fz
                    have HC := Lib.hid hC
                    clear hC hK hW4
                    go_simp
                    with_reducible exact ⟨rfl, HC.out⟩
                  simp only [Act.put, List.setIfInBounds_toArray, List.set_cons_succ, List.set_cons_zero])
               | skip)
            refine' R6.WalkR.det (fun _ => rfl) (fun D ρ W hK hC => ?_) ?_
            rotate_left
            · have HC := Lib.hid hC
              have hw7 := refWithin7_any z 1 (y.n - 1) W
              rw [hvz] at hw7
              have HW7 := Lib.hid hw7
              clear hC hK hw7
              go_simp
              go_at_call 41
              refine HW7.out.mono ?_
              rintro e W1 ⟨rfl, rfl⟩
              exact ⟨_, rfl, rfl, HC.out⟩
            simp only [Act.put, List.setIfInBounds_toArray, List.set_cons_succ, List.set_cons_zero]
            repeat (first
              | (refine' R6.WalkR.det (fun _ => rfl) (fun D ρ W hK hC => ?_) ?_
                 rotate_left
                 · have hW4 := hBj.out.trans (hC.mono hBj.out.size)
                   have f0 := H4.out.2.1 W hW4 0
                   have f2 := H4.out.2.1 W hW4 2
                   rw [HDD.out] at f2
                   have fz := HZJ.out W hW4
                   rw [Nat.add_zero] at fz
                   have HC := Lib.hid hC
                   clear hC hK hW4
                   go_simp
                   with_reducible exact ⟨rfl, HC.out⟩
                 simp only [Act.put, List.setIfInBounds_toArray, List.set_cons_succ, List.set_cons_zero])
              | (refine R6.WalkR.un (fun _ => rfl) (fun D ρ W hK hC => hC) ?_
                 simp only [Act.put, List.setIfInBounds_toArray, List.set_cons_succ, List.set_cons_zero]))
            refine R6.WalkR.nil (fun D ρ W hD hC => ?_)
            have HB := Lib.hid (hBj.out.trans (hC.mono hBj.out.size))
            clear hC hD
            go_wp2
            go_roundg gh
            case measure => omega
            case rel => exact ⟨0 + 1, by omega, by go_num, by rw [HST.out, hvz, show cmpF (prevZ y.zs 0) z = true from rfl]; rfl, HB.out⟩
          | succ i =>
            have hp1 : prevZ y.zs (i + 1) = some (y.zs[i]?.getD 0) := by simp [prevZ, show i < y.zs.length by omega]
            have hpi := HPV.out i (by omega)
            generalize y.zs[i]?.getD 0 = q at hp1 hpi
            have HPI := Lib.hid hpi
            have HP1 := Lib.hid hp1
            clear hpi hp1
            have hj1 : (0 : Int) ≤ (i : Int) + 1 := by omega
            have hj2 : (i : Int) + 1 < y.zs.length := by omega
            have hj3 : ((i : Int) + 1).toNat = i + 1 := by omega
            have hj4 : (i : Int) < y.zs.length := by omega
            have hj5 : decide ((0 : Int) < (i : Int) + 1) = true := decide_eq_true (by omega)
            have hj6 : IntKind.i64.wrap (i : Int) = i := by rw [IntKind.wrap_i64]; omega
            by_cases hxy : q < z
            · have hn : decide (z ≤ q) = false := decide_eq_false (by omega)
              have hq : decide (q < z) = true := decide_eq_true hxy
              have HQ := Lib.hid hq
              clear hq
              go_wp2
              refine R6.wp_walk (C := fun _ _ W => Below wr.heap.size wr W) 70 (by kernel_rfl) (by kernel_rfl) rfl (Below.refl _ _).drew ?_
              simp only []
              iterate 8
                (first
                 | (refine' R6.WalkR.det (fun _ => rfl) (fun D ρ W hK hC => ?_) ?_
                    rotate_left
                    · have hW4 := hBj.out.trans (hC.mono hBj.out.size)
                      have f0 := H4.out.2.1 W hW4 0
                      have f2 := H4.out.2.1 W hW4 2
                      rw [HDD.out] at f2
                      have fz := HZJ.out W hW4
                      have fq := HPI.out W hW4
                      have HC := Lib.hid hC
                      clear hC hK hW4
                      go_simp
                      with_reducible exact ⟨rfl, HC.out⟩
                    simp only [Act.put, List.setIfInBounds_toArray, List.set_cons_succ, List.set_cons_zero])
                 | skip)
              refine' R6.WalkR.det (fun _ => rfl) (fun D ρ W hK hC => ?_) ?_
              rotate_left
              · have HC := Lib.hid hC
                have hw7 := refWithin7_any z 1 (y.n - 1) W
                rw [hvz] at hw7
                have HW7 := Lib.hid hw7
                clear hC hK hw7
                go_simp
                go_at_call 41
                refine HW7.out.mono ?_
                rintro e W1 ⟨rfl, rfl⟩
                exact ⟨_, rfl, rfl, HC.out⟩
              simp only [Act.put, List.setIfInBounds_toArray, List.set_cons_succ, List.set_cons_zero]
              repeat (first
                | (refine' R6.WalkR.det (fun _ => rfl) (fun D ρ W hK hC => ?_) ?_
                   rotate_left
                   · have hW4 := hBj.out.trans (hC.mono hBj.out.size)
                     have f0 := H4.out.2.1 W hW4 0
                     have f2 := H4.out.2.1 W hW4 2
                     rw [HDD.out] at f2
                     have fz := HZJ.out W hW4
                     have fq := HPI.out W hW4
                     have HC := Lib.hid hC
                     clear hC hK hW4
                     go_simp
                     with_reducible exact ⟨rfl, HC.out⟩
                   simp only [Act.put, List.setIfInBounds_toArray, List.set_cons_succ, List.set_cons_zero])
                | (refine R6.WalkR.un (fun _ => rfl) (fun D ρ W hK hC => hC) ?_
                   simp only [Act.put, List.setIfInBounds_toArray, List.set_cons_succ, List.set_cons_zero]))
              refine R6.WalkR.nil (fun D ρ W hD hC => ?_)
              have HB := Lib.hid (hBj.out.trans (hC.mono hBj.out.size))
              clear hC hD
              go_wp2
              go_roundg gh
              case measure => omega
              case rel => exact ⟨i + 1 + 1, by omega, by go_num, by rw [HST.out, HP1.out, hvz, show cmpF (some q) z = decide (q < z) from rfl, HQ.out]; rfl, HB.out⟩
            · have hn : decide (z ≤ q) = true := decide_eq_true (by omega)
              have hq : decide (q < z) = false := decide_eq_false hxy
              have HQ := Lib.hid hq
              clear hq
              go_wp2
              refine R6.wp_walk (C := fun _ _ W => Below wr.heap.size wr W) 70 (by kernel_rfl) (by kernel_rfl) rfl (Below.refl _ _).drew ?_
              simp only []
              iterate 8
                (first
                 | (refine' R6.WalkR.det (fun _ => rfl) (fun D ρ W hK hC => ?_) ?_
                    rotate_left
                    · have hW4 := hBj.out.trans (hC.mono hBj.out.size)
                      have f0 := H4.out.2.1 W hW4 0
                      have f2 := H4.out.2.1 W hW4 2
                      rw [HDD.out] at f2
                      have fz := HZJ.out W hW4
                      have fq := HPI.out W hW4
                      have HC := Lib.hid hC
                      clear hC hK hW4
                      go_simp
                      with_reducible exact ⟨rfl, HC.out⟩
                    simp only [Act.put, List.setIfInBounds_toArray, List.set_cons_succ, List.set_cons_zero])
                 | skip)
              refine' R6.WalkR.det (fun _ => rfl) (fun D ρ W hK hC => ?_) ?_
              rotate_left
              · have HC := Lib.hid hC
                have hw7 := refWithin7_any z 1 (y.n - 1) W
                rw [hvz] at hw7
                have HW7 := Lib.hid hw7
                clear hC hK hw7
                go_simp
                go_at_call 41
                refine HW7.out.mono ?_
                rintro e W1 ⟨rfl, rfl⟩
                exact ⟨_, rfl, rfl, HC.out⟩
              simp only [Act.put, List.setIfInBounds_toArray, List.set_cons_succ, List.set_cons_zero]
              repeat (first
                | (refine' R6.WalkR.det (fun _ => rfl) (fun D ρ W hK hC => ?_) ?_
                   rotate_left
                   · have hW4 := hBj.out.trans (hC.mono hBj.out.size)
                     have f0 := H4.out.2.1 W hW4 0
                     have f2 := H4.out.2.1 W hW4 2
                     rw [HDD.out] at f2
                     have fz := HZJ.out W hW4
                     have fq := HPI.out W hW4
                     have HC := Lib.hid hC
                     clear hC hK hW4
                     go_simp
                     with_reducible exact ⟨rfl, HC.out⟩
                   simp only [Act.put, List.setIfInBounds_toArray, List.set_cons_succ, List.set_cons_zero])
                | (refine R6.WalkR.un (fun _ => rfl) (fun D ρ W hK hC => hC) ?_
                   simp only [Act.put, List.setIfInBounds_toArray, List.set_cons_succ, List.set_cons_zero]))
              refine R6.WalkR.nil (fun D ρ W hD hC => ?_)
              have HB := Lib.hid (hBj.out.trans (hC.mono hBj.out.size))
              clear hC hD
              go_wp2
              go_ret
              exact ⟨by rw [← HI2.out, HST.out, HP1.out, hvz, show cmpF (some q) z = decide (q < z) from rfl, HQ.out]; rfl, hBr.out.trans ((H4.out.1.mono hws).trans (HB.out.mono (by have := H4.out.1.size; omega)))⟩

end Go.Proofs.Ytepkkhdfobhhjaa
