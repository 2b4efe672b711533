/-
  The sticks of trunks, or the error (the reference's).
-/
import Derived.Test.YtepkkhdfobhhjaaStJ
namespace Go.Proofs.Ytepkkhdfobhhjaa
open Go.RowKit

def toJ (n : Int) (zs : List Int) (j : Nat) : Int := if j < zs.length then zs[j]?.getD 0 else n
def frX (n saw : Int) (zs : List Int) : Nat → Int
  | 0 => 0
  | j + 1 => toJ n zs j + saw
def pcX (n saw : Int) (zs : List Int) (j : Nat) : List Int := (List.range j).map fun i => toJ n zs i - frX n saw zs i
theorem pcX_succ (n saw : Int) (zs : List Int) (j : Nat) : pcX n saw zs (j + 1) = pcX n saw zs j ++ [toJ n zs j - frX n saw zs j] := by simp [pcX, List.range_succ]
theorem pcX_len (n saw : Int) (zs : List Int) (j : Nat) : (pcX n saw zs j).length = j := by simp [pcX]
theorem frX_eq (n saw : Int) (zs : List Int) : ∀ j, j ≤ zs.length → frX n saw zs j = frm zs saw j
  | 0, _ => rfl
  | j + 1, h => by simp only [frX, frm, toJ, if_pos (show j < zs.length by omega)]
theorem pcX_end (n saw : Int) (zs : List Int) : pcX n saw zs (zs.length + 1) = pcs n saw zs := by
  rw [pcX_succ, pcs, frX_eq n saw zs _ (Nat.le_refl _), toJ, if_neg (by omega)]
  congr 1
  simp only [pcX, pcK]
  refine List.map_congr_left fun i hi => ?_
  have hi' := List.mem_range.1 hi
  rw [frX_eq n saw zs i (by omega), toJ, if_pos hi']
theorem toJ_bnd {n : Int} {zs : List Int} (h1 : 0 ≤ n) (h2 : n ≤ 20000) (hz : ∀ z ∈ zs, 0 ≤ z ∧ z ≤ 20000) (j : Nat) : 0 ≤ toJ n zs j ∧ toJ n zs j ≤ 20000 := by
  unfold toJ
  split
  · rename_i h
    have e : zs[j]?.getD 0 = zs[j] := by simp [h]
    rw [e]
    exact hz _ (List.getElem_mem h)
  · exact ⟨h1, h2⟩
theorem frX_bnd {n saw : Int} {zs : List Int} (h0 : 0 ≤ saw) (h5 : saw ≤ 50) (h1 : 0 ≤ n) (h2 : n ≤ 20000) (hz : ∀ z ∈ zs, 0 ≤ z ∧ z ≤ 20000) : ∀ j, 0 ≤ frX n saw zs j ∧ frX n saw zs j ≤ 20050
  | 0 => by simp [frX]
  | j + 1 => by
    have := toJ_bnd h1 h2 hz j
    simp only [frX]
    omega

theorem st_own_bt2 {W : World} {base : Nat} {e : TypeId} {size n : Nat} {v : Value} {xs : List Value} (h : W.ownsRow base e size v n xs) {b : Nat} (hb : v.ownBlock = some b) : ∃ cur, W.heap[b]? = some (.cells cur e (0, 0)) ∧ base ≤ b := by
  rcases h.2 with ⟨rfl, _⟩ | ⟨g, cap, cur, rfl, h2, h3, _⟩
  · cases hb
  · simp only [Value.ownBlock, Option.some.injEq] at hb
    subst hb
    exact ⟨cur, h3, h2⟩

set_option maxRecDepth 100000 in
set_option maxHeartbeats 8000000 in
theorem refSaw_any (A : Option Addr) (cap : Nat) (l : List Tk) (saw : Int) (B : Nat) (w : World) (hB : B ≤ w.heap.size) (hz : TksAt w B l A) (hl : smallT l) :
    Calls Try.prog 14 #[.slice A l.length cap, .int .i64 saw] w (SawPost w (sawS (l.map tkE) saw) (sawE (l.map tkE) saw)) := by
  have hv := refTrunks_any A cap l B w hB hz hl
  have hw := fun W => refWithin7_any saw 0 50 W
  have hal : allB 0 50 [saw] = inR saw 0 50 := by simp [allB]
  have hoks := fun (h : okTks (l.map tkE) = true) => (okTks_all h).2
  have hrec : ∀ k (hk : k < l.length), sawF saw k ((l.map tkE).drop k) = stk k l[k].g (pcs l[k].n saw l[k].zs) ++ sawF saw (k + 1) ((l.map tkE).drop (k + 1)) := fun k hk => by
    have h := sawF_drop saw (l.map tkE) k (by simpa using hk)
    simp only [List.getElem_map] at h
    exact h
  have hend : sawF saw l.length ((l.map tkE).drop l.length) = [] := by rw [List.drop_of_length_le (by simp)]; rfl
  unfold sawS sawE
  rw [hal]
  generalize hgE : l.map tkE = E at hv hoks hrec hend ⊢
  have hbs : inR saw 0 50 = true → 0 ≤ saw ∧ saw ≤ 50 := fun h => inR_iff.1 h
  generalize inR saw 0 50 = v2 at hw hbs ⊢
  generalize okTks E = v1 at hv hoks ⊢
  have HV := Lib.hid hv
  have HW := Lib.hid hw
  have HZ := Lib.hid hz
  have HB := Lib.hid hbs
  have hll := hl.1
  have HL := Lib.hid (And.intro hl hoks)
  have HR := Lib.hid (And.intro hrec hend)
  clear hv hw hal hz hl hbs hgE hoks hrec hend
  cases v1
  · simp only [Bool.false_eq_true, if_false, show ((70 : Int) = 0) = False by simp]
    go_enter Try.func14, Try.ntmps14
    go_wp2_with (go_at_call 36; refine HV.out.mono ?_; rintro e W1 ⟨rfl, hB1⟩; have H1 := Lib.hid hB1; clear hB1)
    refine bodyPost_ret (v := .tuple #[.slice none 0 0, .int .i64 70]) (by simp [results, Try.results14, go_sem]) rfl ?_
    exact SawPost.nil H1.out
  cases v2
  · simp only [if_true, Bool.false_eq_true, if_false, show ((2 : Int) = 0) = False by simp]
    go_enter Try.func14, Try.ntmps14
    go_wp2_with (first
      | (go_at_call 41; refine (HW.out _).mono ?_; rintro e W2 ⟨rfl, rfl⟩)
      | (go_at_call 36; refine HV.out.mono ?_; rintro e W1 ⟨rfl, hB1⟩; have H1 := Lib.hid hB1; clear hB1))
    refine bodyPost_ret (v := .tuple #[.slice none 0 0, .int .i64 2]) (by simp [results, Try.results14, go_sem]) rfl ?_
    exact SawPost.nil H1.out
  obtain ⟨h0, h50⟩ := HB.out rfl
  have HOK := Lib.hid (HL.out.2 rfl)
  obtain ⟨i0, hi, hz0, hz1, hz2⟩ := info_parts infoStick
  have HF := Lib.hid (And.intro hi (And.intro hz0 (And.intro hz1 hz2)))
  clear hi hz0 hz1 hz2
  simp only [if_true]
  obtain ⟨er, her⟩ : ∃ er : Int, er = if (sawF saw 0 E).length ≤ 16 then 0 else 71 := ⟨_, rfl⟩
  rw [← her]
  obtain ⟨Ls, hLs⟩ : ∃ Ls, Ls = if er = 0 then sawF saw 0 E else [] := ⟨_, rfl⟩
  rw [← hLs]
  have HEL := Lib.hid (And.intro her hLs)
  clear her hLs
  go_enter Try.func14, Try.ntmps14
  go_wp2_with (first
    | (go_at_call 41; refine (HW.out _).mono ?_; rintro e W2 ⟨rfl, rfl⟩)
    | (go_at_call 36; refine HV.out.mono ?_; rintro e W1 ⟨rfl, hB1⟩; have H1 := Lib.hid hB1; clear hB1))
  go_loopg [6, 7] l.length (fun gg s6 s7 wx => ∃ (k : Nat) (L : List T3) (v : Value), k + gg = l.length ∧ s6 = v ∧ s7 = .int .i64 k ∧ Hid (L ++ sawF saw k (E.drop k) = sawF saw 0 E) ∧ Hid (L.length ≤ k * 2000) ∧ Hid (wx.ownsRow w.heap.size 61 3 v L.length (L.flatMap t3)) ∧ Hid (Below w.heap.size w wx))
  case atStart => exact ⟨0, [], _, by omega, rfl, rfl, rfl, Nat.le_refl _, World.ownsRow_nil _ _ _ _, H1.out⟩
  case round =>
    obtain ⟨k, L, v, hkg, hs6, rfl, hacc, hLl, hrow, hBr⟩ := hrel
    obtain rfl := hs6.symm
    cases gk with
    | zero =>
      have hkl : k = l.length := by omega
      have hkn : ¬ (k : Int) < l.length := by omega
      have hacc' := hacc.out
      rw [hkl, HR.out.2, List.append_nil] at hacc'
      have HA := Lib.hid hacc'
      have hLl' := hLl.out
      clear hacc' hkl
      obtain ⟨Av, cv, hv⟩ := own_slice hrow.out
      have HVV := Lib.hid hv
      rw [hv]
      clear hv
      by_cases h16 : L.length ≤ 16
      · have hLd : decide ((16 : Int) < (L.length : Int)) = false := decide_eq_false (by omega)
        have hLi : ((L.length : Nat) : Int) ≤ 16 := by omega
        obtain ⟨her, hLs⟩ := HEL.out
        rw [← HA.out, if_pos h16] at her
        rw [her, if_pos rfl, ← HA.out] at hLs
        have HEL2 := Lib.hid (And.intro her hLs)
        clear h16 her hLs
        go_wp2
        rw [HEL2.out.1, HEL2.out.2]
        refine bodyPost_ret (v := .tuple #[.slice Av L.length cv, .int .i64 0]) (by simp [results, Try.results14, go_sem]) rfl ?_
        exact ⟨Av, cv, rfl, Vals.own (by rw [← HVV.out]; exact hrow.out), hBr.out⟩
      · have hLd : decide ((16 : Int) < (L.length : Int)) = true := decide_eq_true (by omega)
        have hLi : (16 : Int) < ((L.length : Nat) : Int) := by omega
        obtain ⟨her, hLs⟩ := HEL.out
        rw [← HA.out, if_neg h16] at her
        rw [her, if_neg (by decide)] at hLs
        have HEL2 := Lib.hid (And.intro her hLs)
        clear h16 her hLs
        go_wp2
        rw [HEL2.out.1, HEL2.out.2]
        refine bodyPost_ret (v := .tuple #[.slice none 0 0, .int .i64 71]) (by simp [results, Try.results14, go_sem]) rfl ?_
        exact SawPost.nil hBr.out
    | succ gg =>
      have hk : k < l.length := by omega
      have hkz : (k : Int) < l.length := by omega
      have hws := hBr.out.size
      obtain ⟨c, off, hA, hcB, hc⟩ := vals_elem tkc_len HZ.out.v (by decide) hk
      subst hA
      have hc' : ∀ j u, (tkc l[k])[j]? = some u → ∀ W, Below w.heap.size w W → W.cell? ⟨c, off + k * 3 + j, none⟩ = some u := fun j u hu W hW => (hW.cell (p := ⟨c, off + k * 3 + j, none⟩) (by simp; omega)).trans (hc j u hu)
      have hin := HZ.out.r _ (List.getElem_mem hk)
      have hzl := HL.out.1.2 _ (List.getElem_mem hk)
      have hok := okTk_bnd (HOK.out _ (List.getElem_mem hk))
      have hre := HR.out.1 k hk
      generalize l[k] = y at hc' hin hok hre hzl
      have h0c := hc' 0 _ rfl
      have h1c := hc' 1 _ rfl
      have h2c := hc' 2 _ rfl
      rw [Nat.add_zero] at h0c
      have HC := Lib.hid (And.intro h0c (And.intro h1c h2c))
      have HIN := Lib.hid hin
      have hn1 := hok.1
      have hn2 := hok.2.1
      have HBND := Lib.hid (And.intro (toJ_bnd (by omega) hn2 hok.2.2) (frX_bnd h0 h50 (by omega) hn2 hok.2.2))
      have HRE := Lib.hid hre
      clear hc hc' h0c h1c h2c hin hok hre
      go_wp2
      obtain ⟨wo, rfl⟩ : ∃ wo : World, wo = wr := ⟨_, rfl⟩
      go_loopg [6, 8, 9] (y.zs.length + 1) (fun gh s6 s8 s9 wz => ∃ (j : Nat) (M : List T3) (u : Value), j + gh = y.zs.length + 1 ∧ s6 = u ∧ s8 = .int .i64 (frX y.n saw y.zs j) ∧ s9 = .int .i64 j ∧ Hid (M = L ++ stk k y.g (pcX y.n saw y.zs j)) ∧ Hid (wz.ownsRow w.heap.size 61 3 u M.length (M.flatMap t3)) ∧ Hid (Below w.heap.size w wz))
      case atStart => exact ⟨0, L, _, by omega, rfl, rfl, rfl, by simp [Hid, pcX, stk], hrow.out, hBr.out⟩
      case round =>
        obtain ⟨j, M, u, hjg, hs6, rfl, rfl, hM, hrowM, hBj⟩ := hrel
        obtain rfl := hs6.symm
        have hcc0 := HC.out.1 wr hBj.out
        have hcc1 := HC.out.2.1 wr hBj.out
        have hcc2 := HC.out.2.2 wr hBj.out
        have hwz := hBj.out.size
        cases gk with
        | zero =>
          have hj : j = y.zs.length + 1 := by omega
          have hjn : ¬ (j : Int) ≤ y.zs.length := by omega
          have hM' := hM.out
          rw [hj, pcX_end] at hM'
          have HM := Lib.hid hM'
          clear hM' hj
          go_wp2
          go_roundg gg
          case measure => omega
          case rel =>
            refine ⟨k + 1, M, u, by omega, rfl, by go_num, ?_, ?_, hrowM.out, hBj.out⟩
            · show _ = _
              rw [HM.out, List.append_assoc, ← HRE.out]
              exact hacc.out
            · show _ ≤ _
              have h1 := stk_len k y.g (pcs y.n saw y.zs)
              have h2 : (pcs y.n saw y.zs).length = y.zs.length + 1 := by simp [pcs, pcK_len]
              have h3 := hLl.out
              rw [HM.out, List.length_append, Nat.succ_mul]
              omega
        | succ gh =>
          have hj : j ≤ y.zs.length := by omega
          have hjz : (j : Int) ≤ y.zs.length := by omega
          have hps := pcX_succ y.n saw y.zs j
          have hfs : frX y.n saw y.zs (j + 1) = toJ y.n y.zs j + saw := rfl
          have htb := HBND.out.1 j
          have hfb := HBND.out.2 j
          have hpl := stk_len k y.g (pcX y.n saw y.zs j)
          rw [pcX_len] at hpl
          have hMl : M.length ≤ 3000000 := by
            have h3 := hLl.out
            rw [hM.out, List.length_append]
            omega
          have hto : toJ y.n y.zs j = if j < y.zs.length then y.zs[j]?.getD 0 else y.n := rfl
          generalize frX y.n saw y.zs j = F at hps hfb ⊢
          generalize toJ y.n y.zs j = T at hps hfs htb hto
          have HPS := Lib.hid hps
          have HFS := Lib.hid hfs
          have HMM := Lib.hid hM.out
          clear hps hfs hpl
          by_cases hjl : j < y.zs.length
          · have hjlz : (j : Int) < y.zs.length := by omega
            obtain ⟨d, p, hD, hdB, hd⟩ := HIN.out (by omega)
            have hcz : wr.cell? ⟨d, p + j, none⟩ = some (.int .i64 T) := by
              rw [hto, if_pos hjl]
              exact (hBj.out.cell (p := ⟨d, p + j, none⟩) (by simp; omega)).trans (hd j hjl)
            rw [hD] at hcc2
            clear hd hto
            by_cases hp : 100 ≤ T - F
            · have hpd : ¬ T - F < 100 := by omega
              obtain ⟨wx, hwx⟩ : ∃ wx, wr.alloc (.cells #[.int .i64 (k : Int), .int .i64 (T - F), .int .i64 y.g] 61) = wx := ⟨_, rfl⟩
              have hbx : Below wr.heap.size wr wx := by rw [← hwx]; exact grow1 _ _
              have hvn : Vals wx (wr.heap.size + 1) (some ⟨wr.heap.size, 0, none⟩) [.int .i64 (k : Int), .int .i64 (T - F), .int .i64 y.g] := by rw [← hwx]; exact vals_new (alloc_at0 _ _) (by omega)
              have hox := own_grows hrowM.out hbx
              have HX := Lib.hid (And.intro hbx (And.intro hvn hox))
              clear hbx hvn hox
              go_wp2_with
                (at_builtin
                 refine wpl_app (by rfl) (.tmp 58) (.tmp 69) 25 (by rfl) w.heap.size 61 i0 _ 3 24 Try.underlying25 HF.out.1 HF.out.2.1 HF.out.2.2.1 HF.out.2.2.2 rfl (by omega) u M.length (M.flatMap t3) (by rfl) HX.out.2.2
                   (wr.heap.size + 1) (some ⟨wr.heap.size, 0, none⟩) 1 1 [.int .i64 (k : Int), .int .i64 (T - F), .int .i64 y.g] (by rfl) HX.out.2.1 rfl (by simp [Value.oneCell']) (by simp only [maxLen]; omega) (by omega) (by have := HX.out.1.size; omega) ?_
                 intro v9 w9 hown hgrow _
                 have hB9 : Below w.heap.size w w9 := (hBj.out.trans (HX.out.1.mono hwz)).grown hgrow (by have := HX.out.1.size; omega) (fun k' e => (st_own_bt2 HX.out.2.2 e).choose_spec.2)
                 have H9 := Lib.hid (And.intro hown hB9)
                 clear hown hgrow hB9)
              go_roundg gh
              case measure => omega
              case rel =>
                refine ⟨j + 1, M ++ [⟨k, T - F, y.g⟩], v9, by omega, rfl, by rw [HFS.out], by go_num, ?_, ?_, H9.out.2⟩
                · show _ = _
                  rw [HPS.out, stk_app, HMM.out, List.append_assoc]
                  congr 2
                  simp [stk, hp]
                · have h := H9.out.1
                  rw [List.length_append, List.flatMap_append]
                  exact h
            · have hpd : T - F < 100 := by omega
              go_wp2
              go_roundg gh
              case measure => omega
              case rel =>
                refine ⟨j + 1, M, u, by omega, rfl, by rw [HFS.out], by go_num, ?_, hrowM.out, hBj.out⟩
                show _ = _
                rw [HPS.out, stk_app, HMM.out]
                simp [stk, hp]
          · have hjlz : ¬ (j : Int) < y.zs.length := by omega
            rw [if_neg hjl] at hto
            subst hto
            by_cases hp : 100 ≤ y.n - F
            · have hpd : ¬ y.n - F < 100 := by omega
              obtain ⟨wx, hwx⟩ : ∃ wx, wr.alloc (.cells #[.int .i64 (k : Int), .int .i64 (y.n - F), .int .i64 y.g] 61) = wx := ⟨_, rfl⟩
              have hbx : Below wr.heap.size wr wx := by rw [← hwx]; exact grow1 _ _
              have hvn : Vals wx (wr.heap.size + 1) (some ⟨wr.heap.size, 0, none⟩) [.int .i64 (k : Int), .int .i64 (y.n - F), .int .i64 y.g] := by rw [← hwx]; exact vals_new (alloc_at0 _ _) (by omega)
              have hox := own_grows hrowM.out hbx
              have HX := Lib.hid (And.intro hbx (And.intro hvn hox))
              clear hbx hvn hox
              go_wp2_with
                (at_builtin
                 refine wpl_app (by rfl) (.tmp 58) (.tmp 69) 25 (by rfl) w.heap.size 61 i0 _ 3 24 Try.underlying25 HF.out.1 HF.out.2.1 HF.out.2.2.1 HF.out.2.2.2 rfl (by omega) u M.length (M.flatMap t3) (by rfl) HX.out.2.2
                   (wr.heap.size + 1) (some ⟨wr.heap.size, 0, none⟩) 1 1 [.int .i64 (k : Int), .int .i64 (y.n - F), .int .i64 y.g] (by rfl) HX.out.2.1 rfl (by simp [Value.oneCell']) (by simp only [maxLen]; omega) (by omega) (by have := HX.out.1.size; omega) ?_
                 intro v9 w9 hown hgrow _
                 have hB9 : Below w.heap.size w w9 := (hBj.out.trans (HX.out.1.mono hwz)).grown hgrow (by have := HX.out.1.size; omega) (fun k' e => (st_own_bt2 HX.out.2.2 e).choose_spec.2)
                 have H9 := Lib.hid (And.intro hown hB9)
                 clear hown hgrow hB9)
              go_roundg gh
              case measure => omega
              case rel =>
                refine ⟨j + 1, M ++ [⟨k, y.n - F, y.g⟩], v9, by omega, rfl, by rw [HFS.out], by go_num, ?_, ?_, H9.out.2⟩
                · show _ = _
                  rw [HPS.out, stk_app, HMM.out, List.append_assoc]
                  congr 2
                  simp [stk, hp]
                · have h := H9.out.1
                  rw [List.length_append, List.flatMap_append]
                  exact h
            · have hpd : y.n - F < 100 := by omega
              go_wp2
              go_roundg gh
              case measure => omega
              case rel =>
                refine ⟨j + 1, M, u, by omega, rfl, by rw [HFS.out], by go_num, ?_, hrowM.out, hBj.out⟩
                show _ = _
                rw [HPS.out, stk_app, HMM.out]
                simp [stk, hp]

end Go.Proofs.Ytepkkhdfobhhjaa
