import Derived.Test.YtnjgibbfcigbfaaGreatQF34
import Derived.Test.YtnjgibbfcigbfaaGreatQF40
import Derived.Test.YtnjgibbfcigbfaaGreatQF41
set_option linter.all false
set_option maxRecDepth 100000
set_option maxHeartbeats 64000000
namespace Go.Proofs.YtnjgibbfcigbfaaGreat
open Go.RowKit
open R6 (done zAg zAj upd_ne upd_me)
attribute [local go_sem] gives
def LsPost (w : World) (L : List Int) (e : Ending) (w' : World) : Prop := ∃ A c, e = .returned (.slice A L.length c) ∧ Ints w' w'.heap.size A L ∧ Grows w w'
theorem infoFT : (Tryz.prog.info? 191).map (·.size) = some 1 := by kernel_rfl
theorem zMk (gs : List Gd) (vary : Int) (ps : List Pol) (ts : List Ts) (AP : Option Addr) (cp : Nat) (AT : Option Addr) (ct : Nat) (AG : Option Addr) (cg : Nat) (B : Nat) (w : World) (hB : B ≤ w.heap.size)
 (hz : Vals w B AP (ps.flatMap pcl)) (hzt : Vals w B AT (ts.flatMap tcl)) (hg : GdAt w B gs AG) (hk : GrOk gs vary ps ts) :
 Calls Tryz.prog 62 #[.agg #[.slice AP ps.length cp, .slice AT ts.length ct, .slice AG gs.length cg, .int .i64 vary]] w (LsPost w (clashL gs vary ps ts)) := by
 have hal := fun (us : List Ts) (A2 : Option Addr) (n2 c2 B2 : Nat) (W : World) (hB2 : B2 ≤ W.heap.size) (hBB : B ≤ B2) (h2 : Vals W B2 A2 (us.flatMap tcl)) (hl2 : n2 = us.length) (hlu : us.length ≤ 100000) (hu : ∀ t ∈ us, okT t) (hW : Grows w W)
  (hb : W.heap[w.heap.size]? = some (.cells #[.slice AP ps.length cp, .slice AT ts.length ct, .slice AG gs.length cg, .int .i64 vary] 119 (0, 0))) =>
  zE8 gs vary ps ts us AP cp AT ts.length ct AG cg A2 n2 c2 w.heap.size B2 W hB2 ((hz.below (hW.mono hB)).mono hBB) ((hg.below (hW.mono hB)).mono hBB) h2 hl2 hlu hk hu hb
 have hfs := fun (W : World) (hW : Grows w W) (h1 : W.heap[w.heap.size]? = some (.cells #[.slice AP ps.length cp, .slice AT ts.length ct, .slice AG gs.length cg, .int .i64 vary] 119 (0, 0))) (h3 : W.heap[w.heap.size + 1]? = some (.cells #[(.func (.func 109) #[] #[.pointer (some ⟨w.heap.size, 0, none⟩)])] 191 (0, 0))) =>
  zLa (oneBad gs vary ps) (w.heap.size + 1) AT ct ts B W (Nat.le_trans hB hW.size) (hzt.below (hW.mono hB)) (by have := hk.t20; omega) (fun y W' hy hW' => zK9 gs vary ps ts AP cp AT ts.length ct AG cg w.heap.size (w.heap.size + 1) B W' (Nat.le_trans hB (Nat.le_trans hW.size hW'.size))
   (hz.below ((hW.mono hB).trans (hW'.mono (Nat.le_trans hB hW.size)))) (hg.below ((hW.mono hB).trans (hW'.mono (Nat.le_trans hB hW.size)))) hk y (hk.ht y hy) ((hW'.block _ (zAa h1)).trans h1) ((hW'.block _ (zAa h3)).trans h3))
 have hpe := fun (j : Nat) (hj : j < ts.length) => zAw zEq hzt (by decide) hj
 have hal0 := fun (W : World) (hW : Grows w W) => hal ts AT ts.length ct B W (Nat.le_trans hB hW.size) (Nat.le_refl _) (hzt.below (hW.mono hB)) rfl (by have := hk.t20; omega) hk.ht hW
 have hn20 := hk.t20; have hht := hk.ht; obtain ⟨w1, hw1⟩ : ∃ w1, (w.alloc (.cells #[.slice AP ps.length cp, .slice AT ts.length ct, .slice AG gs.length cg, .int .i64 vary] 119)).alloc (.cells #[Value.nilFunc] 191) = w1 := ⟨_, rfl⟩; have hb1 : Grows w w1 := by rw [← hw1]; exact grow2 _ _ _
 have m1 : w1.heap[w.heap.size]? = some (.cells #[.slice AP ps.length cp, .slice AT ts.length ct, .slice AG gs.length cg, .int .i64 vary] 119 (0, 0)) := by rw [← hw1]; exact zAp _ _ _
 have m3 : w1.heap[w.heap.size + 1]? = some (.cells [Value.nilFunc].toArray 191 (0, 0)) := by rw [← hw1]; exact zAo _ _ _
 have H1 := zz3 hb1 m1 m3; have HAL := zzh hal; have HFS := zzh hfs; have HPE := zzh hpe; have HHT := zzh hht; have HB := zzh hB; clear hb1 m1 m3 hal hfs hpe hht hz hzt hg hk hB; cases htr : truth gs vary ps ts
 rotate_left
 · have hcl := zPb htr; rw [htr] at hal0; rw [hcl]; have HA0 := zzh hal0; clear htr hal0 hcl
   go_enter Tryz.func62, Tryz.ntmps62
   go_wp2
   go_step3
   go_wp2_with (first
    | (go_at_call 109; refine (HA0.out w2 H2.out.1 H2.out.2.1).mono ?_; rintro e w3 ⟨rfl, hB3⟩; have H3 := zz3 (H2.out.1.trans (hB3.mono H2.out.1.size)) ((hB3.block _ (zAa H2.out.2.1)).trans H2.out.2.1) ((hB3.block _ (zAa H2.out.2.2)).trans H2.out.2.2); have f3 : w3.cell? ⟨w.heap.size, 1, none⟩ = some (.slice AT ts.length ct) := cell_of_row w3 _ 1 _ _ _ H3.out.2.1; clear hB3)
    | (refine zBf 191 (.tmp 3) (.tmp 9) rfl rfl rfl rfl rfl rfl rfl (L := [.nilFunc]) H1.out.2.2 (Nat.le_of_ble_eq_true rfl) infoFT ?_; intro w2 hP2 hM2; have hM2' : w2.heap[w.heap.size + 1]? = some (.cells #[(.func (.func 109) #[] #[.pointer (some ⟨w.heap.size, 0, none⟩)])] 191 (0, 0)) := hM2; have m1 : w2.heap[w.heap.size]? = _ := (hP2.other _ (by omega)).trans H1.out.2.1
       have f1 : w2.cell? ⟨w.heap.size, 1, none⟩ = some (.slice AT ts.length ct) := cell_of_row w2 _ 1 _ _ _ m1; have f2 : w2.cell? ⟨w.heap.size + 1, 0, none⟩ = some (.func (.func 109) #[] #[.pointer (some ⟨w.heap.size, 0, none⟩)]) := cell_of_row w2 _ 0 _ _ _ hM2'; have H2 := zz3 (H1.out.1.trans (hP2.below (by omega))) m1 hM2'
       clear hP2 hM2 hM2' m1))
   rw [Exit.noGoto_ret]; go_ret
   exact ⟨none, 0, rfl, fun h => by simp at h, H3.out.1⟩
 rw [htr] at hal0; have HA0 := zzh hal0; have hfy : ∀ y, ts.find? (oneBad gs vary ps) = some y → clashL gs vary ps ts = [y.id] := fun y h => by simp only [clashL, h]
 have hfn : ts.find? (oneBad gs vary ps) = none → clashL gs vary ps ts = pairL gs vary ps ts := fun h => by simp only [clashL, h]
 have hcase : (ts.any (oneBad gs vary ps) = true ∧ ts.find? (oneBad gs vary ps) = some (fndT (oneBad gs vary ps) ts)) ∨ (ts.any (oneBad gs vary ps) = false ∧ ts.find? (oneBad gs vary ps) = none) := by
  rcases zCf (P := oneBad gs vary ps) ts 0 with ⟨_, e2, e3⟩ | ⟨k, x, _, _, e3, e4⟩
  · exact .inr ⟨e3, e2⟩
  · exact .inl ⟨e4, by unfold fndT; rw [e3]; rfl⟩
 clear htr hal0; generalize fndT (oneBad gs vary ps) ts = y at HFS hcase; rcases hcase with ⟨ha, hf⟩ | ⟨ha, hf⟩
 · rw [hfy y hf]; rw [ha] at HFS; clear hfy hfn hf ha
   go_enter Tryz.func62, Tryz.ntmps62
   go_wp2
   go_step3
   go_wp2_with (first
    | (show wpList _ _ _ (Oper.mk none (Op.store _ (Operand.tmp 4) (Operand.tmp 21)) _ _ _ _ :: _) _ _; have hm : (w4.alloc (.cells #[.int .i64 0, .int .i64 0, .int .i64 0, .int .i64 0, .bool false] 58)).heap[w4.heap.size]? = some (.cells (tcl tst0).toArray 58 (0, 0)) := zAd _ _; refine zAb 58 (.tmp 4) (.tmp 21) rfl rfl rfl rfl rfl hm (Nat.le_refl _) (fun v hv => zDc [y] v (by simpa using hv)) zBm ?_
       intro w5 hP5 hM5; rw [zAe (by rfl)] at hM5
       have hb5 : Grows w4 w5 := (grow1 w4 _).trans (hP5.below (Nat.le_refl _)); have H5 := zz3 (H4.out.1.trans (hb5.mono H4.out.1.size)) ((hb5.block _ (zAa H4.out.2.1)).trans H4.out.2.1) ((hb5.block _ (zAa H4.out.2.2)).trans H4.out.2.2); have f5 : w5.cell? ⟨w4.heap.size, 0, none⟩ = some (.int .i64 y.id) := cell_of_row w5 _ 0 _ _ _ hM5; have f6 : w5.cell? ⟨w.heap.size, 1, none⟩ = some (.slice AT ts.length ct) := cell_of_row w5 _ 1 _ _ _ H5.out.2.1; clear hP5 hM5 hb5 hm)
    | (go_at_call 110; refine (HFS.out w3 H3.out.1 H3.out.2.1 H3.out.2.2).mono ?_; rintro e w4 ⟨rfl, hB4⟩; have H4 := zz3 (H3.out.1.trans (hB4.mono H3.out.1.size)) ((hB4.block _ (zAa H3.out.2.1)).trans H3.out.2.1) ((hB4.block _ (zAa H3.out.2.2)).trans H3.out.2.2); clear hB4)
    | (go_at_call 109; refine (HA0.out w2 H2.out.1 H2.out.2.1).mono ?_; rintro e w3 ⟨rfl, hB3⟩; have H3 := zz3 (H2.out.1.trans (hB3.mono H2.out.1.size)) ((hB3.block _ (zAa H2.out.2.1)).trans H2.out.2.1) ((hB3.block _ (zAa H2.out.2.2)).trans H2.out.2.2); have f3 : w3.cell? ⟨w.heap.size, 1, none⟩ = some (.slice AT ts.length ct) := cell_of_row w3 _ 1 _ _ _ H3.out.2.1; clear hB3)
    | (refine zBf 191 (.tmp 3) (.tmp 9) rfl rfl rfl rfl rfl rfl rfl (L := [.nilFunc]) H1.out.2.2 (Nat.le_of_ble_eq_true rfl) infoFT ?_; intro w2 hP2 hM2; have hM2' : w2.heap[w.heap.size + 1]? = some (.cells #[(.func (.func 109) #[] #[.pointer (some ⟨w.heap.size, 0, none⟩)])] 191 (0, 0)) := hM2; have m1 : w2.heap[w.heap.size]? = _ := (hP2.other _ (by omega)).trans H1.out.2.1
       have f1 : w2.cell? ⟨w.heap.size, 1, none⟩ = some (.slice AT ts.length ct) := cell_of_row w2 _ 1 _ _ _ m1; have f2 : w2.cell? ⟨w.heap.size + 1, 0, none⟩ = some (.func (.func 109) #[] #[.pointer (some ⟨w.heap.size, 0, none⟩)]) := cell_of_row w2 _ 0 _ _ _ hM2'; have H2 := zz3 (H1.out.1.trans (hP2.below (by omega))) m1 hM2'
       clear hP2 hM2 hM2' m1))
   rw [Exit.noGoto_ret]; go_ret
   exact ⟨some ⟨w5.heap.size, 0, none⟩, 1, rfl, (zDt [y.id] (zAd w5 _) rfl).mono (by simp), H5.out.1.trans ((grow1 w5 _).mono H5.out.1.size)⟩
 · rw [hfn hf]; rw [ha] at HFS; clear hfy hfn hf ha
   go_enter Tryz.func62, Tryz.ntmps62
   go_wp2
   go_step3
   go_wp2_with (first
    | (show wpList _ _ _ (Oper.mk none (Op.store _ (Operand.tmp 4) (Operand.tmp 21)) _ _ _ _ :: _) _ _; have hm : (w4.alloc (.cells #[.int .i64 0, .int .i64 0, .int .i64 0, .int .i64 0, .bool false] 58)).heap[w4.heap.size]? = some (.cells (tcl tst0).toArray 58 (0, 0)) := zAd _ _; refine zAb 58 (.tmp 4) (.tmp 21) rfl rfl rfl rfl rfl hm (Nat.le_refl _) (fun v hv => zDc [y] v (by simpa using hv)) zBm ?_
       intro w5 hP5 hM5; rw [zAe (by rfl)] at hM5
       have hb5 : Grows w4 w5 := (grow1 w4 _).trans (hP5.below (Nat.le_refl _)); have H5 := zz3 (H4.out.1.trans (hb5.mono H4.out.1.size)) ((hb5.block _ (zAa H4.out.2.1)).trans H4.out.2.1) ((hb5.block _ (zAa H4.out.2.2)).trans H4.out.2.2); have f5 : w5.cell? ⟨w4.heap.size, 0, none⟩ = some (.int .i64 y.id) := cell_of_row w5 _ 0 _ _ _ hM5; have f6 : w5.cell? ⟨w.heap.size, 1, none⟩ = some (.slice AT ts.length ct) := cell_of_row w5 _ 1 _ _ _ H5.out.2.1; clear hP5 hM5 hb5 hm)
    | (go_at_call 110; refine (HFS.out w3 H3.out.1 H3.out.2.1 H3.out.2.2).mono ?_; rintro e w4 ⟨rfl, hB4⟩; have H4 := zz3 (H3.out.1.trans (hB4.mono H3.out.1.size)) ((hB4.block _ (zAa H3.out.2.1)).trans H3.out.2.1) ((hB4.block _ (zAa H3.out.2.2)).trans H3.out.2.2); clear hB4)
    | (go_at_call 109; refine (HA0.out w2 H2.out.1 H2.out.2.1).mono ?_; rintro e w3 ⟨rfl, hB3⟩; have H3 := zz3 (H2.out.1.trans (hB3.mono H2.out.1.size)) ((hB3.block _ (zAa H2.out.2.1)).trans H2.out.2.1) ((hB3.block _ (zAa H2.out.2.2)).trans H2.out.2.2); have f3 : w3.cell? ⟨w.heap.size, 1, none⟩ = some (.slice AT ts.length ct) := cell_of_row w3 _ 1 _ _ _ H3.out.2.1; clear hB3)
    | (refine zBf 191 (.tmp 3) (.tmp 9) rfl rfl rfl rfl rfl rfl rfl (L := [.nilFunc]) H1.out.2.2 (Nat.le_of_ble_eq_true rfl) infoFT ?_; intro w2 hP2 hM2; have hM2' : w2.heap[w.heap.size + 1]? = some (.cells #[(.func (.func 109) #[] #[.pointer (some ⟨w.heap.size, 0, none⟩)])] 191 (0, 0)) := hM2; have m1 : w2.heap[w.heap.size]? = _ := (hP2.other _ (by omega)).trans H1.out.2.1
       have f1 : w2.cell? ⟨w.heap.size, 1, none⟩ = some (.slice AT ts.length ct) := cell_of_row w2 _ 1 _ _ _ m1; have f2 : w2.cell? ⟨w.heap.size + 1, 0, none⟩ = some (.func (.func 109) #[] #[.pointer (some ⟨w.heap.size, 0, none⟩)]) := cell_of_row w2 _ 0 _ _ _ hM2'; have H2 := zz3 (H1.out.1.trans (hP2.below (by omega))) m1 hM2'
       clear hP2 hM2 hM2' m1))
   go_step3
   go_wp2; clear f1 f2 f3 f5 f6
   go_loopg [6, 31] ts.length (fun gn s6 s31 wx => ∃ i : Nat, i + gn = ts.length ∧ s6 = .slice none 0 0 ∧ s31 = .int .i64 i ∧ Hid ((∀ j, j < i → ∀ m, m < ts.length → badT gs vary ps ts j m = false) ∧ Grows w wx ∧ wx.heap[w.heap.size]? = some (.cells #[.slice AP ps.length cp, .slice AT ts.length ct, .slice AG gs.length cg, .int .i64 vary] 119 (0, 0)) ∧ wx.heap[w.heap.size + 1]? = some (.cells #[(.func (.func 109) #[] #[.pointer (some ⟨w.heap.size, 0, none⟩)])] 191 (0, 0))))
   case atStart => exact ⟨0, by omega, rfl, rfl, fun j hj => by omega, H5.out⟩
   case round =>
    obtain ⟨i, hig, rfl, rfl, hI⟩ := hrel; cases gk with
    | zero =>
      obtain rfl : i = ts.length := by omega
      have hpn := zJa hI.out.1; have hpl : pairL gs vary ps ts = [] := by simp only [pairL, hpn]
      have HPL := zzh hpl; clear hpn hpl; go_wp2; rw [Exit.noGoto_ret]; go_ret
      exact ⟨none, 0, by rw [HPL.out]; rfl, by rw [HPL.out]; exact fun h => by simp at h, hI.out.2.1⟩
    | succ gi =>
      have hi : i < ts.length := by omega
      have hiz : (i : Int) < ts.length := by omega
      have hcr : wr.cell? ⟨w.heap.size, 1, none⟩ = some (.slice AT ts.length ct) := cell_of_row wr _ 1 _ _ _ hI.out.2.2.1; go_wp2; clear hcr; have HI1 := zzh hI.out.1; have HI2 := hI.out.2; obtain ⟨wo, rfl⟩ : ∃ wo : World, wo = wr := ⟨_, rfl⟩; clear hI
      go_loopg [6, 38] ts.length (fun gn s6 s38 wx => ∃ k : Nat, k + gn = ts.length ∧ s6 = .slice none 0 0 ∧ s38 = .int .i64 k ∧ Hid ((∀ m, m < k → badT gs vary ps ts i m = false) ∧ Grows w wx ∧ wx.heap[w.heap.size]? = some (.cells #[.slice AP ps.length cp, .slice AT ts.length ct, .slice AG gs.length cg, .int .i64 vary] 119 (0, 0)) ∧ wx.heap[w.heap.size + 1]? = some (.cells #[(.func (.func 109) #[] #[.pointer (some ⟨w.heap.size, 0, none⟩)])] 191 (0, 0))))
      case atStart => exact ⟨0, by omega, rfl, rfl, fun j hj => by omega, HI2⟩
      case round =>
       clear HI2; obtain ⟨k, hkg, rfl, rfl, hK⟩ := hrel; cases gk with
       | zero =>
         obtain rfl : k = ts.length := by omega
         go_wp2
         go_roundg gi
         case measure => omega
         case rel => exact ⟨i + 1, by omega, rfl, by go_num, fun j hj m hm => (by
          by_cases e : j < i
          · exact HI1.out j e m hm
          · obtain rfl : j = i := by omega
            exact hK.out.1 m hm), hK.out.2⟩
       | succ gn =>
         have hk : k < ts.length := by omega
         have hkz : (k : Int) < ts.length := by omega
         have hbt := zRh (gs := gs) (vary := vary) (ps := ps) hi hk; obtain ⟨cT, oT, hA, hcTB, hcT⟩ := HPE.out i hi; subst hA; obtain ⟨c', o', hA, -, hcT2⟩ := HPE.out k hk; simp only [Option.some.injEq, Addr.mk.injEq, and_true] at hA; obtain ⟨rfl, rfl⟩ := hA; have hoky := HHT.out _ (List.getElem_mem hi); have hokz := HHT.out _ (List.getElem_mem hk); have hiy : idAt ts i = ts[i].id := by simp [idAt, hi]
         have hkz' : idAt ts k = ts[k].id := by simp [idAt, hk]
         generalize ts[i] = y1 at hbt hcT hoky hiy; generalize ts[k] = y2 at hbt hcT2 hokz hkz'; have hcW := fun (W : World) (hW : Grows wr W) => zGu (hK.out.2.1.trans (hW.mono hK.out.2.1.size)) (Nat.lt_of_lt_of_le hcTB HB.out) hcT
         have hcW2 := fun (W : World) (hW : Grows wr W) => zGu (hK.out.2.1.trans (hW.mono hK.out.2.1.size)) (Nat.lt_of_lt_of_le hcTB HB.out) hcT2
         have HCW := zz2 hcW hcW2; have HK := zzh hK.out; have HOK := zz2 hoky hokz; have HID := zz2 hiy hkz'; clear hcW hcW2 hcT hcT2 hoky hokz hK hiy hkz'
         by_cases hik : i < k
         rotate_left
         · have hd : decide (i < k) = false := by simpa using hik
           have hbf : badT gs vary ps ts i k = false := by rw [hbt]; simp [hik]
           have HBF := zzh hbf; clear hbt hik hbf; go_wp2; refine R6.wp_walk (C := fun _ _ W => Grows wr W) 80 (by kernel_rfl) (by kernel_rfl) rfl (Below.refl _ _).drew ?_
           simp only []
           repeat (first
            | (refine' R6.WalkR.det (fun _ => rfl) (fun D ρ W hK hC => ?_) ?_
               rotate_left
               · skip
                 have HC := zzh hC; clear hC hK; go_simp; with_reducible exact ⟨rfl, HC.out⟩
               simp only [Act.put, zza, zzb, zzc])
            | (refine R6.WalkR.un (fun _ => rfl) (fun D ρ W hK hC => hC) ?_
               simp only [Act.put, zza, zzb, zzc]))
           refine R6.WalkR.nil (fun D ρ W6 hD hC => ?_)
           have H6 := zz3 (HK.out.2.1.trans (hC.mono HK.out.2.1.size)) ((hC.block _ (zAa HK.out.2.2.1)).trans HK.out.2.2.1) ((hC.block _ (zAa HK.out.2.2.2)).trans HK.out.2.2.2); clear hC hD; go_wp2
           go_roundg gn
           case measure => omega
           case rel => exact ⟨k + 1, by omega, rfl, by go_num, fun m hm => (by
            by_cases e : m < k
            · exact HK.out.1 m e
            · obtain rfl : m = k := by omega
              exact HBF.out), H6.out⟩
         · have hd : decide (i < k) = true := by simpa using hik
           have hu : ∀ t ∈ [y1, y2], okT t := fun t h => by
            simp only [List.mem_cons, List.not_mem_nil, or_false] at h; rcases h with rfl | rfl
            · exact HOK.out.1
            · exact HOK.out.2
           have hcal := fun (b5 : Nat) (W : World) (hW : Grows wr W) (hm : W.heap[b5]? = some (.cells (tcl y1 ++ tcl y2).toArray 58 (0, 0))) =>
            HAL.out [y1, y2] (some ⟨b5, 0, none⟩) 2 2 W.heap.size W (Nat.le_refl _) (Nat.le_trans HB.out (HK.out.2.1.trans (hW.mono HK.out.2.1.size)).size) (by rw [zUh]; exact (zEa hm).mono (zAa hm)) rfl (by simp) hu (HK.out.2.1.trans (hW.mono HK.out.2.1.size)) ((hW.block _ (zAa HK.out.2.2.1)).trans HK.out.2.2.1)
           rw [hik_dec hik, Bool.true_and] at hbt; cases hv : truth gs vary ps [y1, y2]
           all_goals
            rw [hv] at hcal hbt; have HBT := zzh hbt; have HCAL := zzh hcal; have hz' := zzh hik; clear hv hbt hcal hik hu; go_wp2; refine R6.wp_walk (C := MadeC wr 17 58 2 58 (tcl y1 ++ tcl y2)) 80 (by kernel_rfl) (by kernel_rfl) rfl (MadeC.start (fun _ => rfl) (Below.refl _ _).drew) ?_
            simp only []
            repeat (first
             | (refine' R6.WalkR.det (fun _ => rfl) (fun D ρ W hK hC => ?_) ?_
                rotate_left
                · have f1 : W.cell? ⟨w.heap.size, 1, none⟩ = some (.slice (some ⟨cT, oT, none⟩) ts.length ct) := cell_of_row W _ 1 _ _ _ ((hC.bel.block _ (zAa HK.out.2.2.1)).trans HK.out.2.2.1); have f2 : W.cell? ⟨w.heap.size + 1, 0, none⟩ = some (.func (.func 109) #[] #[.pointer (some ⟨w.heap.size, 0, none⟩)]) := cell_of_row W _ 0 _ _ _ ((hC.bel.block _ (zAa HK.out.2.2.2)).trans HK.out.2.2.2); have HC := zzh hC; clear hC hK; go_simp; with_reducible exact ⟨rfl, HC.out.move (by decide)⟩
                simp only [Act.put, zza, zzb, zzc]))
            refine' R6.WalkR.det (fun _ => rfl) (fun D ρ W hK hC => ?_) ?_
            rotate_left
            · exact zFg 58 (.tmp 50) rfl rfl [.int .i64 y1.id, .int .i64 y1.pole, .int .i64 y1.sec, .int .i64 y1.force, .bool y1.held] (HCW.out.1 W hC.bel) zBm ⟨rfl, hC.move (by decide)⟩
            simp only [Act.put, zza, zzb, zzc]
            repeat (first
             | (refine' R6.WalkR.det (fun _ => rfl) (fun D ρ W hK hC => ?_) ?_
                rotate_left
                · have f1 : W.cell? ⟨w.heap.size, 1, none⟩ = some (.slice (some ⟨cT, oT, none⟩) ts.length ct) := cell_of_row W _ 1 _ _ _ ((hC.bel.block _ (zAa HK.out.2.2.1)).trans HK.out.2.2.1); have f2 : W.cell? ⟨w.heap.size + 1, 0, none⟩ = some (.func (.func 109) #[] #[.pointer (some ⟨w.heap.size, 0, none⟩)]) := cell_of_row W _ 0 _ _ _ ((hC.bel.block _ (zAa HK.out.2.2.2)).trans HK.out.2.2.2); have HC := zzh hC; clear hC hK; go_simp; with_reducible exact ⟨rfl, HC.out.move (by decide)⟩
                simp only [Act.put, zza, zzb, zzc]))
            refine' R6.WalkR.det (fun _ => rfl) (fun D ρ W hK hC => ?_) ?_
            rotate_left
            · exact zFg 58 (.tmp 56) rfl rfl [.int .i64 y2.id, .int .i64 y2.pole, .int .i64 y2.sec, .int .i64 y2.force, .bool y2.held] (HCW.out.2 W hC.bel) zBm ⟨rfl, hC.move (by decide)⟩
            simp only [Act.put, zza, zzb, zzc]; refine' R6.WalkR.nd (fun _ => rfl) rfl (fun D ρ W hK hC => ?_) ?_
            · have HC := zzh hC; clear hC hK; go_simp; exact HC.out.made rfl
            simp only [Act.put, zza, zzb, zzc]; refine' R6.WalkR.det (fun _ => rfl) (fun D ρ W hK hC => ?_) ?_
            rotate_left
            · obtain ⟨b5, hv0, hge, hm⟩ := hC.mkd (hK.pre 17 (zA0 (by decide +kernel)))
              have hv : _ = Value.slice (some ⟨b5, 0, none⟩) 2 2 := hv0; clear hv0; have HC := zzh hC; have HM := zzh hm; clear hC hK hm; go_simp; go_at_call 109; refine (HCAL.out b5 W HC.out.bel HM.out).mono ?_; rintro e W1 ⟨rfl, hB1⟩; exact ⟨_, rfl, rfl, (HC.out.next hB1).move (by decide)⟩
            simp only [Act.put, zza, zzb, zzc]
            repeat (first
             | (refine' R6.WalkR.det (fun _ => rfl) (fun D ρ W hK hC => ?_) ?_
                rotate_left
                · skip
                  have HC := zzh hC; clear hC hK; go_simp; with_reducible exact ⟨rfl, HC.out.move (by decide)⟩
                simp only [Act.put, zza, zzb, zzc]))
            refine R6.WalkR.nil (fun D ρ W6 hD hC0 => ?_)
            have hC := hC0.bel; clear hC0; have HB6 := zzh hC; have H6 := zz3 (HK.out.2.1.trans (hC.mono HK.out.2.1.size)) ((hC.block _ (zAa HK.out.2.2.1)).trans HK.out.2.2.1) ((hC.block _ (zAa HK.out.2.2.2)).trans HK.out.2.2.2); clear hC hD
           · have hpl : pairL gs vary ps ts = [y1.id, y2.id] := by
              have := zPa hi hk HBT.out HI1.out HK.out.1; simp only [pairL, this, HID.out.1, HID.out.2]
             have HPL := zzh hpl; clear hpl; go_wp2; refine R6.wp_walk (C := MadeC W6 14 76 2 3 (ints [y1.id, y2.id])) 80 (by kernel_rfl) (by kernel_rfl) rfl (MadeC.start (fun _ => rfl) (Below.refl _ _).drew) ?_
             simp only []
             repeat (first
              | (refine' R6.WalkR.det (fun _ => rfl) (fun D ρ W hK hC => ?_) ?_
                 rotate_left
                 · have f1 : W.cell? ⟨w.heap.size, 1, none⟩ = some (.slice (some ⟨cT, oT, none⟩) ts.length ct) := cell_of_row W _ 1 _ _ _ ((hC.bel.block _ (zAa H6.out.2.1)).trans H6.out.2.1); have hbw : Grows wr W := HB6.out.trans (hC.bel.mono HB6.out.size); have g1 : W.cell? ⟨cT, oT + i * 5, none⟩ = some (.int .i64 y1.id) := HCW.out.1 W hbw 0 _ rfl; have g2 : W.cell? ⟨cT, oT + k * 5, none⟩ = some (.int .i64 y2.id) := HCW.out.2 W hbw 0 _ rfl; clear hbw; have HC := zzh hC; clear hC hK; go_simp; with_reducible exact ⟨rfl, HC.out.move (by decide)⟩
                 simp only [Act.put, zza, zzb, zzc]))
             refine' R6.WalkR.nd (fun _ => rfl) rfl (fun D ρ W hK hC => ?_) ?_
             · have HC := zzh hC; clear hC hK; go_simp; exact HC.out.made rfl
             simp only [Act.put, zza, zzb, zzc]; refine' R6.WalkR.fn 76 (fun v => v) (fun _ => rfl) (by decide +kernel) (fun D ρ W hK hC => ?_) ?_
             · have HC := zzh hC; clear hC hK; go_simp; exact HC.out.move (by decide)
             simp only [Act.put, zza, zzb, zzc]; refine R6.WalkR.nil (fun D ρ W9 hD hC => ?_)
             obtain ⟨b9, hv9, -, hm9⟩ := hC.mkd (hD 14 (by omega))
             simp only [hv9]; have H9 := zz2 (H6.out.1.trans (hC.bel.mono H6.out.1.size)) hm9; clear hC hD hv9 hm9; go_wp2; rw [Exit.noGoto_ret]; go_ret
             exact ⟨some ⟨b9, 0, none⟩, 2, by rw [HPL.out]; rfl, by rw [HPL.out]; exact zDt [y1.id, y2.id] H9.out.2 rfl, H9.out.1⟩
           · go_wp2
             go_roundg gn
             case measure => omega
             case rel => exact ⟨k + 1, by omega, rfl, by go_num, fun m hm => (by
              by_cases e : m < k
              · exact HK.out.1 m e
              · obtain rfl : m = k := by omega
                exact HBT.out), H6.out⟩
end Go.Proofs.YtnjgibbfcigbfaaGreat
namespace Go.Proofs.YtnjgibbfcigbfaaGreat
open Go.RowKit
theorem zK7 (ps : List Pol) (ts : List Ts) (gs : List Gd) (vary : Int) (AP : Option Addr) (cp : Nat) (AT : Option Addr) (ct : Nat) (AG : Option Addr) (cg : Nat) (B : Nat) (w : World) (hB : B ≤ w.heap.size) (hz : ShAt w B ps ts AP AT) (hg : GdAt w B gs AG) :
 Calls Tryz.prog 33 #[.agg #[.slice AP ps.length cp, .slice AT ts.length ct], .agg #[.slice AG gs.length cg, .int .i64 vary]] w (ClashPost w (sClash gs vary ps ts)) := by
 have hchk := fun (W : World) (hW : Grows w W) => zCi ps ts gs vary AP cp AT ct AG cg B W (Nat.le_trans hB hW.size) (hz.below (hW.mono hB)) (hg.below (hW.mono hB))
 unfold shl gdl at hchk; obtain ⟨w1, hw1⟩ : ∃ w1, (w.alloc (.cells #[.slice AP ps.length cp, .slice AT ts.length ct] 25)).alloc (.cells #[.slice AG gs.length cg, .int .i64 vary] 28) = w1 := ⟨_, rfl⟩; have hb1 : Grows w w1 := by rw [← hw1]; exact grow2 _ _ _
 have m1 : w1.heap[w.heap.size]? = some (.cells [.slice AP ps.length cp, .slice AT ts.length ct].toArray 25 (0, 0)) := by rw [← hw1]; exact zAp _ _ _
 have m2 : w1.heap[w.heap.size + 1]? = some (.cells [.slice AG gs.length cg, .int .i64 vary].toArray 28 (0, 0)) := by rw [← hw1]; exact zAo _ _ _
 have H1 := zz3 hb1 m1 m2; clear hb1 m1 m2; unfold sClash
 by_cases hck : gChk gs vary ps ts = 0
 rotate_left
 · rw [if_neg hck]; generalize gChk gs vary ps ts = ck at hchk hck ⊢; have HC1 := zzh hchk; have hce : (ck == 0) = false := by simpa using hck
   have hcn : (ck != 0) = true := by simpa using hck
   clear hchk hz hg hck
   go_enter Tryz.func33, Tryz.ntmps33
   go_wp2_with (first
    | (go_at_call 28; refine (HC1.out w1 H1.out.1).mono ?_; rintro e w2 ⟨rfl, hB2⟩; have H2 := zz3 (H1.out.1.trans (hB2.mono H1.out.1.size)) ((hB2.block _ (zAa H1.out.2.1)).trans H1.out.2.1) ((hB2.block _ (zAa H1.out.2.2)).trans H1.out.2.2); clear hB2)
    | (refine zAc 25 (.tmp 2) rfl rfl rfl H1.out.2.1 [.slice AP ps.length cp, .slice AT ts.length ct] at0 zAs ?_)
    | (refine zAc 28 (.tmp 3) rfl rfl rfl H1.out.2.2 [.slice AG gs.length cg, .int .i64 vary] at0 zAm ?_))
   go_ret2
   exact ⟨none, 0, rfl, fun h => by simp at h, H2.out.1⟩
 have hk := zJy hck; rw [if_pos hck]; rw [hck] at hchk; have hcl := fun (W : World) (hW : Grows w W) => zMk gs vary ps ts AP cp AT ct AG cg B W (Nat.le_trans hB hW.size) (hz.p.below (hW.mono hB)) (hz.t.below (hW.mono hB)) (hg.below (hW.mono hB)) hk
 unfold LsPost at hcl; generalize clashL gs vary ps ts = L at hcl ⊢; have HC1 := zzh hchk; have HCL := zzh hcl; clear hchk hcl hck hk hz hg
 go_enter Tryz.func33, Tryz.ntmps33
 go_wp2_with (first
  | (go_at_call 62; refine (HCL.out w2 H2.out.1).mono ?_; rintro e w3 ⟨A3, c3, rfl, hi3, hB3⟩; have H3 := zz2 hi3 (H2.out.1.trans (hB3.mono H2.out.1.size)); clear hB3 hi3)
  | (refine zAc 25 (.tmp 2) rfl rfl rfl H2.out.2.1 [.slice AP ps.length cp, .slice AT ts.length ct] at0 zAs ?_)
  | (refine zAc 28 (.tmp 3) rfl rfl rfl H2.out.2.2 [.slice AG gs.length cg, .int .i64 vary] at0 zAm ?_)
  | (go_at_call 28; refine (HC1.out w1 H1.out.1).mono ?_; rintro e w2 ⟨rfl, hB2⟩; have H2 := zz3 (H1.out.1.trans (hB2.mono H1.out.1.size)) ((hB2.block _ (zAa H1.out.2.1)).trans H1.out.2.1) ((hB2.block _ (zAa H1.out.2.2)).trans H1.out.2.2); clear hB2)
  | (refine zAc 25 (.tmp 2) rfl rfl rfl H1.out.2.1 [.slice AP ps.length cp, .slice AT ts.length ct] at0 zAs ?_)
  | (refine zAc 28 (.tmp 3) rfl rfl rfl H1.out.2.2 [.slice AG gs.length cg, .int .i64 vary] at0 zAm ?_))
 go_ret2
 exact ⟨A3, c3, rfl, H3.out.1, H3.out.2⟩
end Go.Proofs.YtnjgibbfcigbfaaGreat
