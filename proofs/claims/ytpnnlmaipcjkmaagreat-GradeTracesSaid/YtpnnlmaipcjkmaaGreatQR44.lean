/-
  Which poles are traced (the reference's).
-/
import Derived.Test.YtpnnlmaipcjkmaaGreatQR26
import Derived.Test.YtpnnlmaipcjkmaaGreatQR43
import Derived.Test.YtpnnlmaipcjkmaaGreatQR28
set_option linter.all false
namespace Go.Proofs.YtpnnlmaipcjkmaaGreat
open Go.RowKit

theorem cntO_step (ps : List Pol) (o : Og) (j : Nat) (hj : j < ps.length) : cntO (ps.take (j + 1)) o = cntO (ps.take j) o + (if ogEq (orgP ps[j]) o = true then 1 else 0) := by
  unfold cntO
  rw [List.take_add_one, List.getElem?_eq_getElem hj, List.filter_append, List.length_append]
  cases h : ogEq (orgP ps[j]) o <;> simp [h]

set_option maxRecDepth 100000 in
set_option maxHeartbeats 16000000 in
theorem rfTrace_any (ps : List Pol) (ts : List Ts) (gs : List Gd) (vary : Int) (l : List Gv) (AP : Option Addr) (cp : Nat) (AT : Option Addr) (ct : Nat) (AG : Option Addr) (cg : Nat) (AL : Option Addr) (cl : Nat) (B : Nat) (w : World) (hB : B ≤ w.heap.size) (hz : ShAt w B ps ts AP AT) (hg : GdAt w B gs AG) (hv : GvsAt w B l AL) (hl : l.length ≤ 1000000) :
    Calls Tryz.prog 15 #[.agg #[.slice AP ps.length cp, .slice AT ts.length ct], .agg #[.slice AG gs.length cg, .int .i64 vary], .slice AL l.length cl] w (KnownPost w (sTrace gs vary ps ts l)) := by
  have hchk := fun (W : World) (hW : Below w.heap.size w W) => rfCheck_any ps ts gs vary AP cp AT ct AG cg B W (Nat.le_trans hB hW.size) (hz.below (hW.mono hB)) (hg.below (hW.mono hB))
  unfold shl gdl at hchk
  have hvg := fun (W : World) (hW : Below w.heap.size w W) => rfGroves_any l AL cl B W (Nat.le_trans hB hW.size) (hv.below (hW.mono hB)) hl
  obtain ⟨w1, hw1⟩ : ∃ w1, (w.alloc (.cells #[.slice AP ps.length cp, .slice AT ts.length ct] 25)).alloc (.cells #[.slice AG gs.length cg, .int .i64 vary] 28) = w1 := ⟨_, rfl⟩
  have hb1 : Below w.heap.size w w1 := by rw [← hw1]; exact grow2 _ _ _
  have m1 : w1.heap[w.heap.size]? = some (.cells [.slice AP ps.length cp, .slice AT ts.length ct].toArray 25 (0, 0)) := by rw [← hw1]; exact alloc2_at0 _ _ _
  have m2 : w1.heap[w.heap.size + 1]? = some (.cells [.slice AG gs.length cg, .int .i64 vary].toArray 28 (0, 0)) := by rw [← hw1]; exact alloc2_at1 _ _ _
  have H1 := Lib.hid (And.intro hb1 (And.intro m1 m2))
  clear hb1 m1 m2
  unfold sTrace
  by_cases hck : gChk gs vary ps ts = 0
  rotate_left
  · rw [if_neg hck]
    generalize gChk gs vary ps ts = E at hchk hck ⊢
    have HC1 := Lib.hid hchk
    have hce : (E == 0) = false := by simpa using hck
    have hcn : (E != 0) = true := by simpa using hck
    have hcd : decide (E = 0) = false := decide_eq_false hck
    clear hchk hvg hz hg hv hck
    go_enter Tryz.func15, Tryz.ntmps15
    go_wp2_with (first
      | (go_at_call 46
         refine (HC1.out w1 H1.out.1).mono ?_
         rintro e w2 ⟨rfl, hB2⟩
         have H2 := Lib.hid (And.intro (H1.out.1.trans (hB2.mono H1.out.1.size)) ((hB2.block _ (lt_of_heap H1.out.2.1)).trans H1.out.2.1))
         clear hB2)
      | (show wpList _ _ _ (Oper.mk (some 17) _ _ _ _ _ :: _) _ _
         refine wpList_load_blk 25 (.tmp 3) rfl rfl rfl H1.out.2.1 [.slice AP ps.length cp, .slice AT ts.length ct] at0 rowSheetP ?_)
      | (show wpList _ _ _ (Oper.mk (some 18) _ _ _ _ _ :: _) _ _
         refine wpList_load_blk 28 (.tmp 4) rfl rfl rfl H1.out.2.2 [.slice AG gs.length cg, .int .i64 vary] at0 rowGradingP ?_))
    go_ret2
    exact ⟨none, 0, rfl, ownU_nil _ _, H2.out.1⟩
  rw [if_pos hck]
  rw [hck] at hchk
  have hk := grOk_of hck
  have HC1 := Lib.hid hchk
  clear hchk
  cases hok : okGvs l
  · rw [hok] at hvg
    rw [if_neg (by decide)]
    have HVG := Lib.hid hvg
    clear hvg hok hk hz hg hv hck
    go_enter Tryz.func15, Tryz.ntmps15
    go_wp2_with (first
      | (go_at_call 37
         refine (HVG.out w2 H2.out.1).mono ?_
         rintro e w3 ⟨rfl, hB3⟩
         have H3 := Lib.hid (And.intro (H2.out.1.trans (hB3.mono H2.out.1.size)) ((hB3.block _ (lt_of_heap H2.out.2)).trans H2.out.2))
         have f3 : w3.cell? ⟨w.heap.size, 0, none⟩ = some (.slice AP ps.length cp) := cell_of_row w3 _ 0 _ _ _ ((hB3.block _ (lt_of_heap H2.out.2)).trans H2.out.2)
         clear hB3)
      | (go_at_call 46
         refine (HC1.out w1 H1.out.1).mono ?_
         rintro e w2 ⟨rfl, hB2⟩
         have H2 := Lib.hid (And.intro (H1.out.1.trans (hB2.mono H1.out.1.size)) ((hB2.block _ (lt_of_heap H1.out.2.1)).trans H1.out.2.1))
         clear hB2)
      | (show wpList _ _ _ (Oper.mk (some 17) _ _ _ _ _ :: _) _ _
         refine wpList_load_blk 25 (.tmp 3) rfl rfl rfl H1.out.2.1 [.slice AP ps.length cp, .slice AT ts.length ct] at0 rowSheetP ?_)
      | (show wpList _ _ _ (Oper.mk (some 18) _ _ _ _ _ :: _) _ _
         refine wpList_load_blk 28 (.tmp 4) rfl rfl rfl H1.out.2.2 [.slice AG gs.length cg, .int .i64 vary] at0 rowGradingP ?_))
    go_ret2
    exact ⟨none, 0, rfl, ownU_nil _ _, H3.out.1⟩
  rw [hok] at hvg
  rw [if_pos rfl]
  have HVG := Lib.hid hvg
  have hp12 := hk.p12
  have hcut := fun (p : Pol) (W : World) (hW : Below w.heap.size w W) => rfCut_any l p AL cl B W (Nat.le_trans hB hW.size) (hv.below (hW.mono hB)) hl
  have hby : byIdL gvId okGv l 0 = true := by
    simp only [okGvs, Bool.and_eq_true] at hok
    exact hok.2
  have hcq := fun (o : Og) => refCut_eq o l 0 hby
  simp only [hcq] at hcut
  have HCUT := Lib.hid hcut
  have HZ := Lib.hid hz.p
  have htl : (traceL l ps).length = ps.length := by simp [traceL]
  have hat : ∀ k (hk : k < ps.length), (traceL l ps).take (k + 1) = (traceL l ps).take k ++ [knT l ps ps[k]] := fun k hk => by
    rw [List.take_add_one]
    simp [traceL, hk]
  have HAT := Lib.hid (And.intro htl hat)
  obtain ⟨i0, hi, hz0, hz1, hz2⟩ := info_parts infoU8
  have HI := Lib.hid (And.intro hi (And.intro hz0 (And.intro hz1 hz2)))
  clear hvg hok hk hz hg hv hck hcut hby hcq htl hat hi hz0 hz1 hz2
  obtain ⟨T, hT⟩ : ∃ T, T = traceL l ps := ⟨_, rfl⟩
  rw [← hT] at HAT
  rw [← hT]
  clear hT
  go_enter Tryz.func15, Tryz.ntmps15
  go_wp2_with (first
      | (go_at_call 37
         refine (HVG.out w2 H2.out.1).mono ?_
         rintro e w3 ⟨rfl, hB3⟩
         have H3 := Lib.hid (And.intro (H2.out.1.trans (hB3.mono H2.out.1.size)) ((hB3.block _ (lt_of_heap H2.out.2)).trans H2.out.2))
         have f3 : w3.cell? ⟨w.heap.size, 0, none⟩ = some (.slice AP ps.length cp) := cell_of_row w3 _ 0 _ _ _ ((hB3.block _ (lt_of_heap H2.out.2)).trans H2.out.2)
         clear hB3)
      | (go_at_call 46
         refine (HC1.out w1 H1.out.1).mono ?_
         rintro e w2 ⟨rfl, hB2⟩
         have H2 := Lib.hid (And.intro (H1.out.1.trans (hB2.mono H1.out.1.size)) ((hB2.block _ (lt_of_heap H1.out.2.1)).trans H1.out.2.1))
         clear hB2)
      | (show wpList _ _ _ (Oper.mk (some 17) _ _ _ _ _ :: _) _ _
         refine wpList_load_blk 25 (.tmp 3) rfl rfl rfl H1.out.2.1 [.slice AP ps.length cp, .slice AT ts.length ct] at0 rowSheetP ?_)
      | (show wpList _ _ _ (Oper.mk (some 18) _ _ _ _ _ :: _) _ _
         refine wpList_load_blk 28 (.tmp 4) rfl rfl rfl H1.out.2.2 [.slice AG gs.length cg, .int .i64 vary] at0 rowGradingP ?_))
  go_loopg [9, 10] ps.length (fun gg s9 s10 wx => ∃ (k : Nat) (v : Value), k + gg = ps.length ∧ s9 = v ∧ s10 = .int .i64 k ∧ Hid (OwnU wx w3.heap.size v (T.take k)) ∧ Hid (Below w3.heap.size w3 wx))
  case atStart => exact ⟨0, _, by omega, rfl, rfl, ownU_nil _ _, Below.refl _ _⟩
  case round =>
    obtain ⟨k, v, hkg, hs9, rfl, hO, hBr⟩ := hrel
    obtain rfl := hs9.symm
    have hws := hBr.out.size
    have hsh := fun (W : World) (hW : Below wr.heap.size wr W) => cell_of_row W w.heap.size 0 _ _ _ (((hBr.out.trans (hW.mono hws)).block _ (lt_of_heap H3.out.2)).trans H3.out.2)
    have f9 := hsh wr (Below.refl _ _)
    clear f3
    cases gk with
    | zero =>
      have hkl : k = ps.length := by omega
      have hkn : ¬ (k : Int) < ps.length := by omega
      have hO' := hO.out
      rw [hkl, List.take_of_length_le (by rw [HAT.out.1]; omega)] at hO'
      obtain ⟨Av, cv, hv⟩ := own_slice hO'
      rw [hv] at hO'
      have HOO := Lib.hid hO'
      have HLT := Lib.hid HAT.out.1
      rw [hv]
      clear hv hO' hkl
      go_wp2
      go_ret2
      exact ⟨Av, cv, rfl, ownU_weak HOO.out (by have := H3.out.1.size; omega), H3.out.1.trans (hBr.out.mono H3.out.1.size)⟩
    | succ gg =>
      have hk : k < ps.length := by omega
      have hkz : (k : Int) < ps.length := by omega
      obtain ⟨c, off, hA, hcB, hc⟩ := vals_elem pcl_len HZ.out (by decide) hk
      have hcp := fun j (hj : j < ps.length) => vals_elem pcl_len HZ.out (by decide) hj
      subst hA
      have hsw : w.heap.size ≤ w3.heap.size := H3.out.1.size
      have hlt3 := lt_of_heap H3.out.2
      have hb0 := fun (W : World) (hW : Below wr.heap.size wr W) => H3.out.1.trans ((hBr.out.trans (hW.mono hws)).mono hsw)
      have hc' : ∀ j u, (pcl ps[k])[j]? = some u → wr.cell? ⟨c, off + k * 12 + j, none⟩ = some u := fun j u hu => ((hb0 wr (Below.refl _ _)).cell (p := ⟨c, off + k * 12 + j, none⟩) (by simp; omega)).trans (hc j u hu)
      have hel : ∀ j (hj : j < ps.length) (W : World), Below wr.heap.size wr W → ∀ i u, (pcl ps[j])[i]? = some u → W.cell? ⟨c, off + j * 12 + i, none⟩ = some u := fun j hj W hW i u hu => by
        obtain ⟨c', off', hA', hcB', hc'⟩ := hcp j hj
        simp only [Option.some.injEq, Addr.mk.injEq, and_true] at hA'
        obtain ⟨rfl, rfl⟩ := hA'
        exact ((hb0 W hW).cell (p := ⟨c, off + j * 12 + i, none⟩) (by simp; omega)).trans (hc' i u hu)
      have hst := HAT.out.2 k hk
      have hcs := fun j hj => cntO_step ps (orgP ps[k]) j hj
      have hkn : knT l ps ps[k] = if culmsL l (orgP ps[k]) = 0 then 0 else if culmsL l (orgP ps[k]) < (cntO ps (orgP ps[k]) : Int) then 1 else 2 := rfl
      rw [hkn] at hst
      generalize ps[k] = p at hc' hst hcs
      have hcut := HCUT.out p
      generalize culmsL l (orgP p) = C at hst hcut
      have HC := Lib.hid hc'
      have HEL := Lib.hid hel
      have HST := Lib.hid hst
      have HCS := Lib.hid hcs
      have HCT := Lib.hid hcut
      have HSH := Lib.hid hsh
      have HB0 := Lib.hid hb0
      clear hc hc' hcp hel hst hcs hkn hcut hsh hb0
      go_wp2_with (first
        | (show wpList _ _ _ (Oper.mk (some 37) _ _ _ _ _ :: _) _ _
           refine wpList_load_at 56 (.tmp 36) rfl rfl rfl (pcl p) HC.out rowPole ?_)
        | (show wpList _ _ _ (Oper.mk none (Op.store _ (Operand.tmp 11) (Operand.tmp 37)) _ _ _ _ :: _) _ _
           refine wpList_store_blk 56 (.tmp 11) (.tmp 37) (cs := pcl p) (L := [.int .i64 0, .int .i64 0, .int .i64 0, .int .i64 0, .int .i64 0, .int .i64 0, .int .i64 0, .int .i64 0, .int .i64 0, .int .i64 0, .int .i64 0, .int .i64 0]) rfl rfl rfl rfl rfl (alloc_at0 _ _) (by simp [pcl_len]) (fun u hu => pcl_one [p] u (by simpa using hu)) rowPole ?_
           intro w4 hP4 hM4
           rw [splice_whole (by simp [pcl_len])] at hM4
           have hs4 := hP4.size
           simp only [World.size_alloc] at hs4
           have hb4 : Below wr.heap.size wr w4 := (grow1 wr _).trans (hP4.below (Nat.le_refl _))
           have f4 := HSH.out w4 hb4
           have H4 := Lib.hid (And.intro hb4 (And.intro hM4 hs4))
           clear hP4 hM4 hs4 hb4 f9))
      obtain ⟨wo, rfl⟩ : ∃ wo : World, wo = wr := ⟨_, rfl⟩
      have hc0 : ((cntO (ps.take 0) (orgP p) : Nat) : Int) = 0 := by simp [cntO]
      go_loopg [12, 13] ps.length (fun gh s12 s13 wz => ∃ j : Nat, j + gh = ps.length ∧ s12 = .int .i64 ((cntO (ps.take j) (orgP p) : Nat) : Int) ∧ s13 = .int .i64 j ∧ Hid (Below w4.heap.size w4 wz))
      case atStart => exact ⟨0, by omega, by rw [hc0], rfl, Below.refl _ _⟩
      case round =>
        obtain ⟨j, hjg, rfl, rfl, hBj⟩ := hrel
        clear hc0 f4
        have hwz := hBj.out.size
        have hb4w := fun (W : World) (hW : Below wr.heap.size wr W) => H4.out.1.trans ((hBj.out.trans (hW.mono hwz)).mono H4.out.1.size)
        have f5 := HSH.out wr (hb4w wr (Below.refl _ _))
        cases gk with
        | zero =>
          have hjl : j = ps.length := by omega
          have hjn : ¬ (j : Int) < ps.length := by omega
          have hM4 := (hBj.out.block _ (lt_of_heap H4.out.2.1)).trans H4.out.2.1
          rw [hjl, List.take_of_length_le (Nat.le_refl _)]
          obtain ⟨n, hn⟩ : ∃ n, n = cntO ps (orgP p) := ⟨_, rfl⟩
          have hst := HST.out
          rw [← hn] at hst
          rw [← hn]
          have HST2 := Lib.hid hst
          have HM4 := Lib.hid hM4
          have HBR := Lib.hid (hb4w wr (Below.refl _ _))
          clear hn hst hM4 hjl hb4w
          by_cases hC0 : C = 0
          · have e1 : decide (C = 0) = true := decide_eq_true hC0
            have e2 : (C == 0) = true := by simp [hC0]
            have HC0 := Lib.hid hC0
            clear hC0
            go_wp2_with (first
              | (at_builtin
                 obtain ⟨wx, hwx⟩ : ∃ wx, w5.alloc (.cells #[.int .u8 0] 5) = wx := ⟨_, rfl⟩
                 have hbx : Below w5.heap.size w5 wx := by rw [← hwx]; exact grow1 _ _
                 have hvn : Vals wx (w5.heap.size + 1) (some ⟨w5.heap.size, 0, none⟩) (u8s [0]) := by rw [← hwx]; exact vals_new (alloc_at0 _ _) (by omega)
                 have h5s := H5.out.size
                 have hox := own_grows hO.out (H5.out.trans (hbx.mono h5s))
                 rw [hwx]
                 refine wpl_app (by rfl) (.tmp 79) (.tmp 81) 34 (by rfl) w3.heap.size 5 i0 _ 1 1 Tryz.underlying34 HI.out.1 HI.out.2.1 HI.out.2.2.1 HI.out.2.2.2 rfl (by omega) v (T.take k).length (u8s (T.take k)) (by rfl) hox
                   (w5.heap.size + 1) (some ⟨w5.heap.size, 0, none⟩) 1 1 (u8s [0]) (by rfl) hvn rfl (by simp [u8s, Value.oneCell']) (by rw [List.length_take]; simp only [maxLen]; omega) (by rw [List.length_take]; omega) (by have := hbx.size; omega) ?_
                 intro v9 w9 hown hgrow _
                 have hB9 : Below w3.heap.size w3 w9 := (hBr.out.trans ((H5.out.trans (hbx.mono h5s)).mono hws)).grown hgrow (by have := hbx.size; omega) (fun k' e => own_blockL1 hox k' e)
                 have H9 := Lib.hid (And.intro hown hB9)
                 clear hown hgrow hB9 hbx hvn hox hwx h5s)
              | (show wpList _ _ _ (Oper.mk (some 72) _ _ _ _ _ :: _) _ _
                 refine wpList_load_blk 56 (.tmp 11) rfl rfl rfl HM4.out (pcl p) at0 rowPole ?_)
              | (go_at_call 47
                 refine (HCT.out wr (HB0.out wr HBR.out)).mono ?_
                 rintro e w5 ⟨rfl, hB5⟩
                 have H5 := Lib.hid (HBR.out.trans (hB5.mono HBR.out.size))
                 clear hB5))
            go_roundg gg
            case measure => omega
            case rel =>
              refine ⟨k + 1, v9, by omega, rfl, by go_num, ?_, H9.out.2⟩
              show OwnU _ _ _ _
              rw [HST2.out, if_pos HC0.out]
              unfold OwnU
              rw [List.length_append, show u8s (T.take k ++ [0]) = u8s (T.take k) ++ u8s [0] by simp [u8s]]
              exact H9.out.1
          have e1 : decide (C = 0) = false := decide_eq_false hC0
          have e2 : (C == 0) = false := by simp [hC0]
          by_cases hCn : C < (n : Int)
          · have e3 : decide ((n : Int) ≤ C) = false := decide_eq_false (by omega)
            have HC0 := Lib.hid (And.intro hC0 hCn)
            clear hC0
            go_wp2_with (first
              | (at_builtin
                 obtain ⟨wx, hwx⟩ : ∃ wx, w5.alloc (.cells #[.int .u8 1] 5) = wx := ⟨_, rfl⟩
                 have hbx : Below w5.heap.size w5 wx := by rw [← hwx]; exact grow1 _ _
                 have hvn : Vals wx (w5.heap.size + 1) (some ⟨w5.heap.size, 0, none⟩) (u8s [1]) := by rw [← hwx]; exact vals_new (alloc_at0 _ _) (by omega)
                 have h5s := H5.out.size
                 have hox := own_grows hO.out (H5.out.trans (hbx.mono h5s))
                 rw [hwx]
                 refine wpl_app (by rfl) (.tmp 79) (.tmp 81) 34 (by rfl) w3.heap.size 5 i0 _ 1 1 Tryz.underlying34 HI.out.1 HI.out.2.1 HI.out.2.2.1 HI.out.2.2.2 rfl (by omega) v (T.take k).length (u8s (T.take k)) (by rfl) hox
                   (w5.heap.size + 1) (some ⟨w5.heap.size, 0, none⟩) 1 1 (u8s [1]) (by rfl) hvn rfl (by simp [u8s, Value.oneCell']) (by rw [List.length_take]; simp only [maxLen]; omega) (by rw [List.length_take]; omega) (by have := hbx.size; omega) ?_
                 intro v9 w9 hown hgrow _
                 have hB9 : Below w3.heap.size w3 w9 := (hBr.out.trans ((H5.out.trans (hbx.mono h5s)).mono hws)).grown hgrow (by have := hbx.size; omega) (fun k' e => own_blockL1 hox k' e)
                 have H9 := Lib.hid (And.intro hown hB9)
                 clear hown hgrow hB9 hbx hvn hox hwx h5s)
              | (show wpList _ _ _ (Oper.mk (some 72) _ _ _ _ _ :: _) _ _
                 refine wpList_load_blk 56 (.tmp 11) rfl rfl rfl HM4.out (pcl p) at0 rowPole ?_)
              | (go_at_call 47
                 refine (HCT.out wr (HB0.out wr HBR.out)).mono ?_
                 rintro e w5 ⟨rfl, hB5⟩
                 have H5 := Lib.hid (HBR.out.trans (hB5.mono HBR.out.size))
                 clear hB5))
            go_roundg gg
            case measure => omega
            case rel =>
              refine ⟨k + 1, v9, by omega, rfl, by go_num, ?_, H9.out.2⟩
              show OwnU _ _ _ _
              rw [HST2.out, if_neg HC0.out.1, if_pos HC0.out.2]
              unfold OwnU
              rw [List.length_append, show u8s (T.take k ++ [1]) = u8s (T.take k) ++ u8s [1] by simp [u8s]]
              exact H9.out.1
          · have e3 : decide ((n : Int) ≤ C) = true := decide_eq_true (by omega)
            have HC0 := Lib.hid (And.intro hC0 hCn)
            clear hC0
            go_wp2_with (first
              | (at_builtin
                 obtain ⟨wx, hwx⟩ : ∃ wx, w5.alloc (.cells #[.int .u8 2] 5) = wx := ⟨_, rfl⟩
                 have hbx : Below w5.heap.size w5 wx := by rw [← hwx]; exact grow1 _ _
                 have hvn : Vals wx (w5.heap.size + 1) (some ⟨w5.heap.size, 0, none⟩) (u8s [2]) := by rw [← hwx]; exact vals_new (alloc_at0 _ _) (by omega)
                 have h5s := H5.out.size
                 have hox := own_grows hO.out (H5.out.trans (hbx.mono h5s))
                 rw [hwx]
                 refine wpl_app (by rfl) (.tmp 79) (.tmp 81) 34 (by rfl) w3.heap.size 5 i0 _ 1 1 Tryz.underlying34 HI.out.1 HI.out.2.1 HI.out.2.2.1 HI.out.2.2.2 rfl (by omega) v (T.take k).length (u8s (T.take k)) (by rfl) hox
                   (w5.heap.size + 1) (some ⟨w5.heap.size, 0, none⟩) 1 1 (u8s [2]) (by rfl) hvn rfl (by simp [u8s, Value.oneCell']) (by rw [List.length_take]; simp only [maxLen]; omega) (by rw [List.length_take]; omega) (by have := hbx.size; omega) ?_
                 intro v9 w9 hown hgrow _
                 have hB9 : Below w3.heap.size w3 w9 := (hBr.out.trans ((H5.out.trans (hbx.mono h5s)).mono hws)).grown hgrow (by have := hbx.size; omega) (fun k' e => own_blockL1 hox k' e)
                 have H9 := Lib.hid (And.intro hown hB9)
                 clear hown hgrow hB9 hbx hvn hox hwx h5s)
              | (show wpList _ _ _ (Oper.mk (some 72) _ _ _ _ _ :: _) _ _
                 refine wpList_load_blk 56 (.tmp 11) rfl rfl rfl HM4.out (pcl p) at0 rowPole ?_)
              | (go_at_call 47
                 refine (HCT.out wr (HB0.out wr HBR.out)).mono ?_
                 rintro e w5 ⟨rfl, hB5⟩
                 have H5 := Lib.hid (HBR.out.trans (hB5.mono HBR.out.size))
                 clear hB5))
            go_roundg gg
            case measure => omega
            case rel =>
              refine ⟨k + 1, v9, by omega, rfl, by go_num, ?_, H9.out.2⟩
              show OwnU _ _ _ _
              rw [HST2.out, if_neg HC0.out.1, if_neg (show ¬ C < ((n : Nat) : Int) from by have := HC0.out.2; omega)]
              unfold OwnU
              rw [List.length_append, show u8s (T.take k ++ [2]) = u8s (T.take k) ++ u8s [2] by simp [u8s]]
              exact H9.out.1
        | succ gh =>
          have hj : j < ps.length := by omega
          have hjz : (j : Int) < ps.length := by omega
          have hq := HEL.out j hj wr (hb4w wr (Below.refl _ _))
          have hcs := HCS.out j hj
          have hcl : cntO (ps.take j) (orgP p) ≤ 12 := by
            have h1 := cntO_le (ps.take j) (orgP p)
            rw [List.length_take] at h1
            omega
          generalize ps[j] = q at hq hcs
          generalize hcn : cntO (ps.take j) (orgP p) = n at hcs hcl ⊢
          have hM4 := fun W (hW : Below wr.heap.size wr W) => ((hBj.out.trans (hW.mono hwz)).block _ (lt_of_heap H4.out.2.1)).trans H4.out.2.1
          have hog : ogEq (orgP q) (orgP p) = (decide (q.clone = p.clone) && (decide (q.cut = p.cut) && decide (q.shot = p.shot))) := rfl
          rw [hog] at hcs
          have HQ := Lib.hid hq
          have HCS2 := Lib.hid hcs
          have HM4 := Lib.hid hM4
          have HSW := Lib.hid (fun W hW => HSH.out W (hb4w W hW))
          clear hq hcs hM4 hcn hog hb4w
          by_cases h1 : q.clone = p.clone
          · have a1 : decide (q.clone = p.clone) = true := decide_eq_true h1
            have b1 : (q.clone == p.clone) = true := by simp [h1]
            have A1 := Lib.hid a1
            clear h1
            by_cases h2 : q.cut = p.cut
            · have a2 : decide (q.cut = p.cut) = true := decide_eq_true h2
              have b2 : (q.cut == p.cut) = true := by simp [h2]
              have A2 := Lib.hid a2
              clear h2
              by_cases h3 : q.shot = p.shot
              · have a3 : decide (q.shot = p.shot) = true := decide_eq_true h3
                have b3 : (q.shot == p.shot) = true := by simp [h3]
                have A3 := Lib.hid a3
                clear h3
                go_wp2_with (first
                  | (show wpList _ _ _ (Oper.mk (some 49) _ _ _ _ _ :: _) _ _
                     refine wpList_load_at 56 (.tmp 48) rfl rfl rfl (pcl q) HQ.out rowPole ?_)
                  | (show wpList _ _ _ (Oper.mk none (Op.store _ (Operand.tmp 14) (Operand.tmp 49)) _ _ _ _ :: _) _ _
                     refine wpList_store_blk 56 (.tmp 14) (.tmp 49) (cs := pcl q) (L := [.int .i64 0, .int .i64 0, .int .i64 0, .int .i64 0, .int .i64 0, .int .i64 0, .int .i64 0, .int .i64 0, .int .i64 0, .int .i64 0, .int .i64 0, .int .i64 0]) rfl rfl rfl rfl rfl (alloc_at0 _ _) (by simp [pcl_len]) (fun u hu => pcl_one [q] u (by simpa using hu)) rowPole ?_
                     intro w6 hP6 hM6
                     rw [splice_whole (by simp [pcl_len])] at hM6
                     have hb6 : Below wr.heap.size wr w6 := (grow1 wr _).trans (hP6.below (Nat.le_refl _))
                     have g1 := cell_of_row w6 wr.heap.size 1 _ _ _ hM6
                     have g2 := cell_of_row w6 wr.heap.size 2 _ _ _ hM6
                     have g3 := cell_of_row w6 wr.heap.size 3 _ _ _ hM6
                     have g4 := cell_of_row w6 wo.heap.size 1 _ _ _ (HM4.out w6 hb6)
                     have g5 := cell_of_row w6 wo.heap.size 2 _ _ _ (HM4.out w6 hb6)
                     have g6 := cell_of_row w6 wo.heap.size 3 _ _ _ (HM4.out w6 hb6)
                     unfold pcl at g1 g2 g3 g4 g5 g6
                     have H6 := Lib.hid hb6
                     clear hP6 hM6 hb6 f5))
                go_roundg gh
                case measure => omega
                case rel => exact ⟨j + 1, by omega, by rw [HCS2.out, A1.out, A2.out, A3.out]; rfl, by go_num, hBj.out.trans (H6.out.mono hwz)⟩
              · have a3 : decide (q.shot = p.shot) = false := decide_eq_false h3
                have b3 : (q.shot == p.shot) = false := by simp [h3]
                have A3 := Lib.hid a3
                clear h3
                go_wp2_with (first
                  | (show wpList _ _ _ (Oper.mk (some 49) _ _ _ _ _ :: _) _ _
                     refine wpList_load_at 56 (.tmp 48) rfl rfl rfl (pcl q) HQ.out rowPole ?_)
                  | (show wpList _ _ _ (Oper.mk none (Op.store _ (Operand.tmp 14) (Operand.tmp 49)) _ _ _ _ :: _) _ _
                     refine wpList_store_blk 56 (.tmp 14) (.tmp 49) (cs := pcl q) (L := [.int .i64 0, .int .i64 0, .int .i64 0, .int .i64 0, .int .i64 0, .int .i64 0, .int .i64 0, .int .i64 0, .int .i64 0, .int .i64 0, .int .i64 0, .int .i64 0]) rfl rfl rfl rfl rfl (alloc_at0 _ _) (by simp [pcl_len]) (fun u hu => pcl_one [q] u (by simpa using hu)) rowPole ?_
                     intro w6 hP6 hM6
                     rw [splice_whole (by simp [pcl_len])] at hM6
                     have hb6 : Below wr.heap.size wr w6 := (grow1 wr _).trans (hP6.below (Nat.le_refl _))
                     have g1 := cell_of_row w6 wr.heap.size 1 _ _ _ hM6
                     have g2 := cell_of_row w6 wr.heap.size 2 _ _ _ hM6
                     have g3 := cell_of_row w6 wr.heap.size 3 _ _ _ hM6
                     have g4 := cell_of_row w6 wo.heap.size 1 _ _ _ (HM4.out w6 hb6)
                     have g5 := cell_of_row w6 wo.heap.size 2 _ _ _ (HM4.out w6 hb6)
                     have g6 := cell_of_row w6 wo.heap.size 3 _ _ _ (HM4.out w6 hb6)
                     unfold pcl at g1 g2 g3 g4 g5 g6
                     have H6 := Lib.hid hb6
                     clear hP6 hM6 hb6 f5))
                go_roundg gh
                case measure => omega
                case rel => exact ⟨j + 1, by omega, by rw [HCS2.out, A1.out, A2.out, A3.out]; rfl, by go_num, hBj.out.trans (H6.out.mono hwz)⟩
            · have a2 : decide (q.cut = p.cut) = false := decide_eq_false h2
              have b2 : (q.cut == p.cut) = false := by simp [h2]
              have A2 := Lib.hid a2
              clear h2
              go_wp2_with (first
                | (show wpList _ _ _ (Oper.mk (some 49) _ _ _ _ _ :: _) _ _
                   refine wpList_load_at 56 (.tmp 48) rfl rfl rfl (pcl q) HQ.out rowPole ?_)
                | (show wpList _ _ _ (Oper.mk none (Op.store _ (Operand.tmp 14) (Operand.tmp 49)) _ _ _ _ :: _) _ _
                   refine wpList_store_blk 56 (.tmp 14) (.tmp 49) (cs := pcl q) (L := [.int .i64 0, .int .i64 0, .int .i64 0, .int .i64 0, .int .i64 0, .int .i64 0, .int .i64 0, .int .i64 0, .int .i64 0, .int .i64 0, .int .i64 0, .int .i64 0]) rfl rfl rfl rfl rfl (alloc_at0 _ _) (by simp [pcl_len]) (fun u hu => pcl_one [q] u (by simpa using hu)) rowPole ?_
                   intro w6 hP6 hM6
                   rw [splice_whole (by simp [pcl_len])] at hM6
                   have hb6 : Below wr.heap.size wr w6 := (grow1 wr _).trans (hP6.below (Nat.le_refl _))
                   have g1 := cell_of_row w6 wr.heap.size 1 _ _ _ hM6
                   have g2 := cell_of_row w6 wr.heap.size 2 _ _ _ hM6
                   have g3 := cell_of_row w6 wr.heap.size 3 _ _ _ hM6
                   have g4 := cell_of_row w6 wo.heap.size 1 _ _ _ (HM4.out w6 hb6)
                   have g5 := cell_of_row w6 wo.heap.size 2 _ _ _ (HM4.out w6 hb6)
                   have g6 := cell_of_row w6 wo.heap.size 3 _ _ _ (HM4.out w6 hb6)
                   unfold pcl at g1 g2 g3 g4 g5 g6
                   have H6 := Lib.hid hb6
                   clear hP6 hM6 hb6 f5))
              go_roundg gh
              case measure => omega
              case rel => exact ⟨j + 1, by omega, by rw [HCS2.out, A1.out, A2.out]; rfl, by go_num, hBj.out.trans (H6.out.mono hwz)⟩
          · have a1 : decide (q.clone = p.clone) = false := decide_eq_false h1
            have b1 : (q.clone == p.clone) = false := by simp [h1]
            have A1 := Lib.hid a1
            clear h1
            go_wp2_with (first
              | (show wpList _ _ _ (Oper.mk (some 49) _ _ _ _ _ :: _) _ _
                 refine wpList_load_at 56 (.tmp 48) rfl rfl rfl (pcl q) HQ.out rowPole ?_)
              | (show wpList _ _ _ (Oper.mk none (Op.store _ (Operand.tmp 14) (Operand.tmp 49)) _ _ _ _ :: _) _ _
                 refine wpList_store_blk 56 (.tmp 14) (.tmp 49) (cs := pcl q) (L := [.int .i64 0, .int .i64 0, .int .i64 0, .int .i64 0, .int .i64 0, .int .i64 0, .int .i64 0, .int .i64 0, .int .i64 0, .int .i64 0, .int .i64 0, .int .i64 0]) rfl rfl rfl rfl rfl (alloc_at0 _ _) (by simp [pcl_len]) (fun u hu => pcl_one [q] u (by simpa using hu)) rowPole ?_
                 intro w6 hP6 hM6
                 rw [splice_whole (by simp [pcl_len])] at hM6
                 have hb6 : Below wr.heap.size wr w6 := (grow1 wr _).trans (hP6.below (Nat.le_refl _))
                 have g1 := cell_of_row w6 wr.heap.size 1 _ _ _ hM6
                 have g2 := cell_of_row w6 wr.heap.size 2 _ _ _ hM6
                 have g3 := cell_of_row w6 wr.heap.size 3 _ _ _ hM6
                 have g4 := cell_of_row w6 wo.heap.size 1 _ _ _ (HM4.out w6 hb6)
                 have g5 := cell_of_row w6 wo.heap.size 2 _ _ _ (HM4.out w6 hb6)
                 have g6 := cell_of_row w6 wo.heap.size 3 _ _ _ (HM4.out w6 hb6)
                 unfold pcl at g1 g2 g3 g4 g5 g6
                 have H6 := Lib.hid hb6
                 clear hP6 hM6 hb6 f5))
            go_roundg gh
            case measure => omega
            case rel => exact ⟨j + 1, by omega, by rw [HCS2.out, A1.out]; rfl, by go_num, hBj.out.trans (H6.out.mono hwz)⟩
end Go.Proofs.YtpnnlmaipcjkmaaGreat
