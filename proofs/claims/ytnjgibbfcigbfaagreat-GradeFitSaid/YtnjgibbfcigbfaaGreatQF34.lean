import Derived.Test.YtnjgibbfcigbfaaGreatQF29
set_option linter.all false
set_option maxRecDepth 100000
set_option maxHeartbeats 64000000
namespace Go.Proofs.YtnjgibbfcigbfaaGreat
open Go.RowKit
structure GrOk (gs : List Gd) (vary : Int) (ps : List Pol) (ts : List Ts) : Prop where
 v : 0 ≤ vary ∧ vary ≤ 200000
 g3 : gs.length ≤ 3
 p12 : ps.length ≤ 12
 t20 : ts.length ≤ 20
 up : Up ps
 po : ∀ p ∈ ps, (0 ≤ p.id ∧ p.id ≤ 9999) ∧ okPol p = true
 ht : ∀ t ∈ ts, okT t
 ok : ∀ g ∈ gs, okG2 g
def tst0 : Ts := ⟨0, 0, 0, 0, false⟩
def fndT (P : Ts → Bool) (ts : List Ts) : Ts := (ts.find? P).getD tst0
theorem zE8 (gs : List Gd) (vary : Int) (ps : List Pol) (ts us : List Ts) (AP : Option Addr) (cp : Nat) (AT : Option Addr) (nt ct : Nat) (AG : Option Addr) (cg : Nat) (A2 : Option Addr) (n2 c2 b : Nat) (B : Nat) (w : World) (hB : B ≤ w.heap.size)
 (hz : Vals w B AP (ps.flatMap pcl)) (hg : GdAt w B gs AG) (h2 : Vals w B A2 (us.flatMap tcl)) (hl2 : n2 = us.length) (hlu : us.length ≤ 100000) (hk : GrOk gs vary ps ts) (hu : ∀ t ∈ us, okT t)
 (hb : w.heap[b]? = some (.cells #[.slice AP ps.length cp, .slice AT nt ct, .slice AG gs.length cg, .int .i64 vary] 119 (0, 0))) :
 Calls Tryz.prog 109 #[.slice A2 n2 c2, .pointer (some ⟨b, 0, none⟩)] w fun e w' => e = .returned (.bool (truth gs vary ps us)) ∧ Grows w w' := by
 subst hl2; have H := zEj gs vary ps us AP cp AT nt ct AG cg A2 c2 B w hB hz hg h2 hlu hk.v hk.g3 hk.p12 hk.up hk.po hu hk.ok; unfold StrPost at H; generalize truth gs vary ps us = v at H ⊢; have HH := zzh H; have HB := zzh hb; clear H hb hz hg h2 hlu hk hu
 go_enter Tryz.func109, Tryz.ntmps109
 go_wp2_with (first
  | (refine zAc 119 (.tmp 1) rfl rfl rfl HB.out [.slice AP ps.length cp, .slice AT nt ct, .slice AG gs.length cg, .int .i64 vary] at0 zA4 ?_)
  | (go_at_call 57; refine HH.out.mono ?_; rintro e w7 ⟨mb, nb, F, rfl, -, -, -, hB7⟩; have H7 := zzh hB7; clear hB7))
 go_ret
 exact ⟨rfl, H7.out⟩
theorem zEa {w : World} {b : Nat} {L : List Value} {t : TypeId} (h : w.heap[b]? = some (.cells L.toArray t (0, 0))) : Vals w (b + 1) (some ⟨b, 0, none⟩) L := fun _ =>
 ⟨b, 0, rfl, Nat.lt_succ_self _, fun k v hv => by rw [Nat.zero_add]; exact cell_of_row _ _ k _ _ _ (by rw [h]) |>.trans (by simpa using hv)⟩
theorem zK9 (gs : List Gd) (vary : Int) (ps : List Pol) (ts : List Ts) (AP : Option Addr) (cp : Nat) (AT : Option Addr) (nt ct : Nat) (AG : Option Addr) (cg : Nat) (b b3 : Nat) (B : Nat) (w : World) (hB : B ≤ w.heap.size)
 (hz : Vals w B AP (ps.flatMap pcl)) (hg : GdAt w B gs AG) (hk : GrOk gs vary ps ts) (t : Ts) (ht : okT t)
 (hb : w.heap[b]? = some (.cells #[.slice AP ps.length cp, .slice AT nt ct, .slice AG gs.length cg, .int .i64 vary] 119 (0, 0)))
 (hb3 : w.heap[b3]? = some (.cells #[.func (.func 109) #[] #[.pointer (some ⟨b, 0, none⟩)]] 191 (0, 0))) :
 Calls Tryz.prog 111 #[.agg (tcl t).toArray, .pointer (some ⟨b3, 0, none⟩)] w fun e w' => e = .returned (.bool (!truth gs vary ps [t])) ∧ Grows w w' := by
 obtain ⟨w1, hw1⟩ : ∃ w1, w.alloc (.cells (tcl t).toArray 58) = w1 := ⟨_, rfl⟩; obtain ⟨w2, hw2⟩ : ∃ w2, w1.alloc (.cells (tcl t).toArray 58) = w2 := ⟨_, rfl⟩; have hs1 : w1.heap.size = w.heap.size + 1 := by rw [← hw1]; simp
 have hs2 : w2.heap.size = w.heap.size + 2 := by rw [← hw2, ← hw1]; simp
 have hb1 : Grows w w1 := by rw [← hw1]; exact grow1 _ _
 have hb2 : Grows w w2 := by rw [← hw2, ← hw1]; exact grow2 _ _ _
 have m1 : w1.heap[w.heap.size]? = some (.cells (tcl t).toArray 58 (0, 0)) := by rw [← hw1]; exact zAd _ _
 have m2 : w2.heap[w1.heap.size]? = some (.cells (tcl t).toArray 58 (0, 0)) := by rw [← hw2]; exact zAd _ _
 have hv : Vals w2 w2.heap.size (some ⟨w1.heap.size, 0, none⟩) ([t].flatMap tcl) := by
  rw [show [t].flatMap tcl = tcl t from by simp]
  exact (zEa m2).mono (by omega)
 have hB' : B ≤ w2.heap.size := by omega
 have H := zE8 gs vary ps ts [t] AP cp AT nt ct AG cg (some ⟨w1.heap.size, 0, none⟩) 1 1 b w2.heap.size w2 (Nat.le_refl _) ((hz.below (hb2.mono hB)).mono hB') ((hg.below (hb2.mono hB)).mono hB') hv rfl (by simp) hk (by simpa using ht) ((hb2.block b (zAa hb)).trans hb)
 generalize truth gs vary ps [t] = v at H ⊢; have f1 : w1.cell? ⟨b3, 0, none⟩ = some (.func (.func 109) #[] #[.pointer (some ⟨b, 0, none⟩)]) := cell_of_row _ b3 0 _ _ _ ((hb1.block b3 (zAa hb3)).trans hb3); have HH := zz2 H hb2; have HM := zz2 m1 hs1; clear H hb hb3 hz hg hk ht hv hb1 hb2 m1 m2 hs2 hB' hs1; unfold tcl at hw1 hw2 ⊢
 go_enter Tryz.func111, Tryz.ntmps111
 go_wp2_with (first
  | (refine zAc 58 (.tmp 2) rfl rfl rfl HM.out.1 (tcl t) at0 zBm ?_; unfold tcl)
  | (go_at_call 109; refine HH.out.1.mono ?_; rintro e w7 ⟨rfl, hB7⟩; have H7 := zzh (HH.out.2.trans (hB7.mono HH.out.2.size)); clear hB7))
 go_ret
 exact ⟨rfl, H7.out⟩
theorem zO7 (P : Ts → Bool) (b : Nat) (A : Option Addr) (cap : Nat) (l : List Ts) (B : Nat) (w : World) (hB : B ≤ w.heap.size) (hz : Vals w B A (l.flatMap tcl)) (hl : l.length ≤ 1000000)
 (HF : ∀ (y : Ts) (W : World), y ∈ l → Grows w W → Calls Tryz.prog 111 #[.agg (tcl y).toArray, .pointer (some ⟨b, 0, none⟩)] W fun e w' => e = .returned (.bool (P y)) ∧ Grows W w') :
 Calls Tryz.prog 146 #[.slice A l.length cap, .func (.func 111) #[] #[.pointer (some ⟨b, 0, none⟩)]] w fun e w' => e = .returned (.int .i64 (idxL P l 0)) ∧ Grows w w' := by
 have HZ := zzh hz; have HFF := zzh HF; clear hz HF
 go_enter Tryz.func146, Tryz.ntmps146
 go_wp2
 go_loopg [8] l.length (fun gg s8 wx => ∃ k : Nat, k + gg = l.length ∧ s8 = .int .i64 k ∧ Hid (idxL P (l.drop k) k = idxL P l 0) ∧ Hid (Grows w wx))
 case atStart => exact ⟨0, by omega, rfl, rfl, Below.refl _ _⟩
 case round =>
  obtain ⟨k, hkg, rfl, hI, hBr⟩ := hrel; cases gk with
  | zero =>
    obtain rfl : k = l.length := by omega
    go_wp2; go_ret
    refine ⟨?_, hBr.out⟩; rw [← hI.out, List.drop_length]
    rfl
  | succ gg =>
    have hk : k < l.length := by omega
    have hkz : (k : Int) < l.length := by omega
    obtain ⟨c, off, hA, hcB, hc⟩ := zAw zEq HZ.out (by decide) hk
    subst hA; have hc' : ∀ j v, (tcl l[k])[j]? = some v → wr.cell? ⟨c, off + k * 5 + j, none⟩ = some v := fun j v hv => (hBr.out.cell (p := ⟨c, off + k * 5 + j, none⟩) (by simp; omega)).trans (hc j v hv)
    have hst := zB3 (P := P) hk; rw [hI.out] at hst; have hy := HFF.out l[k] wr (List.getElem_mem hk) hBr.out; generalize l[k] = y at hc' hst hy; have HY := zzh hy; have HST := zzh hst; have HCC := zzh hc'; clear hc hc' hst hy; cases hp : P y
    all_goals
     rw [hp] at HY HST; clear hp
     go_wp2_with (first
      | (refine zAf 58 (.tmp 14) rfl rfl rfl (tcl y) HCC.out zBm ?_)
      | (go_at_call 111; refine HY.out.mono ?_; rintro e w' ⟨rfl, hB1⟩; have HB1 := zzh hB1; clear hB1))
    rotate_left
    · go_ret
      exact ⟨by rw [HST.out]; rfl, hBr.out.trans (HB1.out.mono hBr.out.size)⟩
    · go_roundg gg
      case measure => omega
      case rel => exact ⟨k + 1, by omega, by go_num, by rw [HST.out]; rfl, hBr.out.trans (HB1.out.mono hBr.out.size)⟩
theorem zLa (P : Ts → Bool) (b : Nat) (A : Option Addr) (cap : Nat) (ts : List Ts) (B : Nat) (w : World) (hB : B ≤ w.heap.size) (hz : Vals w B A (ts.flatMap tcl)) (hl : ts.length ≤ 1000000)
 (HF : ∀ (y : Ts) (W : World), y ∈ ts → Grows w W → Calls Tryz.prog 111 #[.agg (tcl y).toArray, .pointer (some ⟨b, 0, none⟩)] W fun e w' => e = .returned (.bool (P y)) ∧ Grows W w') :
 Calls Tryz.prog 110 #[.slice A ts.length cap, .func (.func 111) #[] #[.pointer (some ⟨b, 0, none⟩)]] w
  fun e w' => e = .returned (.tuple #[.agg (tcl (fndT P ts)).toArray, .bool (ts.any P)]) ∧ Grows w w' := by
 have H := fun (W : World) (hW : Grows w W) => zO7 P b A cap ts B W (Nat.le_trans hB hW.size) (hz.below (hW.mono hB)) hl (fun y W' hy h' => HF y W' hy (hW.trans (h'.mono hW.size)))
 obtain ⟨Z, hZ⟩ : ∃ Z : List Value, Z = tcl tst0 := ⟨_, rfl⟩; have hZl : Z.length = 5 := by rw [hZ]; rfl
 have hZ1 : ∀ v ∈ Z, v.oneCell' = true := by rw [hZ]; exact fun v hv => zDc [tst0] v (by simpa using hv)
 obtain ⟨w1, hw1⟩ : ∃ w1, w.alloc (.cells #[.int .i64 0, .int .i64 0, .int .i64 0, .int .i64 0, .bool false] 58) = w1 := ⟨_, rfl⟩; have hb1 : Grows w w1 := by rw [← hw1]; exact grow1 _ _
 have hm1 : w1.heap[w.heap.size]? = some (.cells Z.toArray 58 (0, 0)) := by rw [← hw1, hZ]; exact zAd _ _
 have hi := H w1 hb1; have H1 := zz2 hb1 hm1; have HZZ := zz2 hZl hZ1; have HVZ := zz2 hz hB; clear hb1 hm1 H hZ1 hZl hz hB HF; rcases zCf (P := P) ts 0 with ⟨e1, e2, e3⟩ | ⟨k, x, e1, e2, e3, e4⟩
 · have r1 : fndT P ts = tst0 := by simp [fndT, e2]
   have r2 : ts.any P = false := e3; rw [r1, r2, ← hZ]; rw [e1] at hi; have HI := zzh hi; clear hi e1 e2 e3 r1 r2 hZ
   go_enter Tryz.func110, Tryz.ntmps110
   go_wp2_with (first
    | (go_at_call 146; refine HI.out.mono ?_; rintro e w2 ⟨rfl, hB2⟩; have H2 := zz2 (H1.out.1.trans (hB2.mono H1.out.1.size)) ((hB2.block _ (zAa H1.out.2)).trans H1.out.2); clear hB2)
    | (refine zAc 58 (.tmp 4) rfl rfl rfl H2.out.2 Z at0 (by rw [HZZ.out.1]; exact zBm) ?_)
    | (refine zAb 58 (.tmp 4) (.tmp 12) rfl rfl rfl rfl rfl H2.out.2 (by omega) HZZ.out.2 (by rw [HZZ.out.1]; exact zBm) ?_
       intro w3 hP3 hM3; rw [zAe rfl] at hM3; have H3 := zz2 (H2.out.1.trans (hP3.below (Nat.le_refl _))) hM3; clear hP3 hM3))
   refine bodyPost_ret (v := .tuple #[.agg Z.toArray, .bool false]) (zAx Tryz.results110 rfl H3.out.2 (by rw [HZZ.out.1]; exact zBm) rfl) rfl ⟨rfl, H3.out.1⟩
 · have r1 : fndT P ts = x := by simp [fndT, e3]
   have r2 : ts.any P = true := e4; rw [r1, r2]; rw [e1, Nat.zero_add] at hi; have hk : k < ts.length := (List.getElem?_eq_some_iff.1 e2).1; have hx : ts[k] = x := (List.getElem?_eq_some_iff.1 e2).2; have HI := zzh hi; obtain ⟨c, off, hA, hcB, hc⟩ := zAw zEq HVZ.out.1 (by decide) hk
   rw [hx] at hc; subst hA; have hkz : (k : Int) < ts.length := by omega
   have HCC := zz2 hc hcB; clear hi e1 e2 e3 e4 r1 r2 hZ hx hc
   go_enter Tryz.func110, Tryz.ntmps110
   go_wp2_with (first
    | (go_at_call 146; refine HI.out.mono ?_; rintro e w2 ⟨rfl, hB2⟩; have hb2 := H1.out.1.trans (hB2.mono H1.out.1.size); have hc2 : ∀ j v, (tcl x)[j]? = some v → w2.cell? ⟨c, off + k * 5 + j, none⟩ = some v := fun j v hv => (hb2.cell (p := ⟨c, off + k * 5 + j, none⟩) (by have := HVZ.out.2; simp; omega)).trans (HCC.out.1 j v hv)
       have H2 := zz3 hb2 ((hB2.block _ (zAa H1.out.2)).trans H1.out.2) hc2; clear hB2 hb2 hc2)
    | (refine zAf 58 (.tmp 15) rfl rfl rfl (tcl x) H2.out.2.2 zBm ?_)
    | (refine zAb 58 (.tmp 4) (.tmp 16) rfl rfl rfl rfl rfl H2.out.2.1 (by rw [HZZ.out.1]; exact Nat.le_refl _) (fun v hv => zDc [x] v (by simpa using hv)) zBm ?_
       intro w3 hP3 hM3; rw [zAe HZZ.out.1] at hM3; have H3 := zz2 (H2.out.1.trans (hP3.below (Nat.le_refl _))) hM3; clear hP3 hM3))
   refine bodyPost_ret (v := .tuple #[.agg (tcl x).toArray, .bool true]) (zAx Tryz.results110 rfl H3.out.2 zBm rfl) rfl ⟨rfl, H3.out.1⟩
end Go.Proofs.YtnjgibbfcigbfaaGreat
