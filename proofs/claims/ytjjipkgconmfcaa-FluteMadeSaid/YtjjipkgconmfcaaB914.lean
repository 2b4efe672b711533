/-
  Texts laid together: FuY, FuZ, FwA.
-/
import Derived.Laws.AppendOwn
import Derived.Outline
import Derived.Test.YtjjipkgconmfcaaB913
set_option linter.all false
namespace Go.Proofs.Ytjjipkgconmfcaa
open Go.RowKit Go.Shelf
open R6 (done done_ne done_me upd_ne upd_me)

attribute [local go_sem] gives

section
variable {P : Program} {ops : Array Oper} {rest : List Oper} {o : Oper} {a : Act} {w : World} {Q : Exit → Act → World → Prop}
theorem wpList_store_v5 (ty : TypeId) (x y : Operand) (hgd : o.guard = none) (ho : o.op = .store ty x y) (hd : o.dst = none) {b f : Nat} (hx : a.eval x = .pointer (some ⟨b, f, none⟩)) {v : Value} (hy : a.eval y = v) (hv : v.cells = #[v]) (h1 : v.oneCell' = true)
    {L : List Value} {t : TypeId} (hb : w.heap[b]? = some (.cells L.toArray t (0, 0))) (hfit : f < L.length) (hty : (P.info? ty).map (·.size) = some 1)
    (h : ∀ w', Put w w' b → w'.heap[b]? = some (.cells (L.set f v).toArray t (0, 0)) → wpList P ops Q rest a w') : wpList P ops Q (o :: rest) a w := by
  refine wpList_plain hgd fun K hK => ?_
  have hrun := run_store_one (P := P) (v := v) hb hfit hv h1 hty
  unfold Oper.wp execOp
  simp only [ho, hx, hy, Sem.run_bind, Sem.run_pure, hrun, Result.andThen_ok]
  refine hK _ _ ?_
  rw [hd]
  refine h _ (put_setCells b [v] f w) ?_
  have := heap_setCell_same w b f _ _ v hb
  rwa [List.setIfInBounds_toArray] at this
end
theorem infoFD : (Try.prog.info? 103).map (·.size) = some 1 := by kernel_rfl
theorem infoInt9 : (Try.prog.info? 3).map (fun i => (i.zero, i.size, i.bytes)) = some (some (.int .i64 0), 1, 8) := by kernel_rfl
def OwnP (W : World) (base : Nat) (v : Value) (zs : List Int) : Prop := W.ownsRow base 3 1 v zs.length (ints zs)
theorem OwnP.ints {W : World} {base : Nat} {A : Option Addr} {c : Nat} {zs : List Int} (h : OwnP W base (.slice A zs.length c) zs) : Ints W W.heap.size A zs := (Vals.own h).ints
theorem own_shape {W : World} {base n size : Nat} {e : TypeId} {v : Value} {xs : List Value} (h : W.ownsRow base e size v n xs) : ∃ A cap, v = .slice A n cap := by
  rcases h.2 with ⟨rfl, h0⟩ | ⟨g, cap, cur, rfl, _⟩
  · exact ⟨none, 0, by rw [h0]⟩
  · exact ⟨_, _, rfl⟩

theorem room_any (b : Bk) (hb : bndR b) (A : Option Addr) (cap : Nat) (ps : List Int) (hps : ∀ p ∈ ps, 50 ≤ p ∧ p ≤ 20000) (hl : ps.length ≤ 100) (B base : Nat) (w : World) (hB : B ≤ w.heap.size) (hz : BkAt w B b) (hown : OwnP w base (.slice A ps.length cap) ps) :
    Calls Try.prog 69 #[.agg (bkc b).toArray, .slice A ps.length cap] w (RoomPost w (roomL b ps.getLast?)) := by
  rcases List.eq_nil_or_concat ps with rfl | ⟨qs, p, rfl⟩
  · exact room_none b A cap w
  · have hI := hown.ints
    rw [List.concat_eq_append] at hI hps hl ⊢
    have hlen : (qs ++ [p]).length = qs.length + 1 := by simp
    obtain ⟨S, off, rfl, hS, hc⟩ := hI (by simp)
    have hcp := hc qs.length (by simp)
    rw [show (qs ++ [p])[qs.length]?.getD 0 = p by simp] at hcp
    rw [List.getLast?_concat, hlen]
    exact room_some b hb S off qs.length cap p (hps p (by simp)) (by omega) B w hB hz hS hcp

def DrlPost (w : World) (r : Option (List Int)) (e : Ending) (w' : World) : Prop := ∃ v, e = .returned (.tuple #[v, .bool r.isSome]) ∧ OwnP w' w.heap.size v (r.getD []) ∧ Below w.heap.size w w'

/-- What lies while places are looked for. -/
structure DrI (b : Bk) (os : List (Int × Int)) (R : Option (List Int)) (w : World) (k : Nat) (ps : List Int) (v : Value) (W : World) : Prop where
  res : drF b (os.drop k) ps = R
  len : ps.length = k
  bd : ∀ p ∈ ps, 50 ≤ p ∧ p ≤ 20000
  b0 : W.heap[w.heap.size]? = some (.cells (bkc b).toArray 34 (0, 0))
  box : Boxed W (w.heap.size + 1) 32 v
  own : OwnP W (w.heap.size + 2) v ps
  bel : Below w.heap.size w W

set_option maxRecDepth 100000 in
set_option maxHeartbeats 8000000 in
theorem drilled_any (b : Bk) (hok : okBk b = true) (A : Option Addr) (cap : Nat) (os : List (Int × Int)) (hl : os.length ≤ 9) (B : Nat) (w : World) (hB : B ≤ w.heap.size) (hz : BkAt w B b) (ho : Vals w B A (pairs os)) :
    Calls Try.prog 50 #[.agg (bkc b).toArray, .slice A os.length cap] w (DrlPost w (drF b os [])) := by
  obtain ⟨hlen, hbb, hbr⟩ := okBk_bnd hok
  have ho' : Vals w B A (os.flatMap sp2) := ho
  have HO := Lib.hid (And.intro ho' (And.intro hB hz))
  have HBN := Lib.hid (And.intro hlen (And.intro hbb hbr))
  obtain ⟨R, hR⟩ : ∃ R, R = drF b os [] := ⟨_, rfl⟩
  unfold DrlPost
  rw [← hR]
  have hR0 : drF b (os.drop 0) [] = R := by rw [hR]; rfl
  have HR0 := Lib.hid hR0
  obtain ⟨w2, hw2⟩ : ∃ w2, (w.alloc (.cells (bkc b).toArray 34)).alloc (.cells #[.slice none 0 0] 32) = w2 := ⟨_, rfl⟩
  have hs2 : w2.heap.size = w.heap.size + 2 := by rw [← hw2]; simp
  have hb2 : Below w.heap.size w w2 := by rw [← hw2]; exact ((Below.refl _ _).alloc (Nat.le_refl _) _).alloc (by simp) _
  have m0 : w2.heap[w.heap.size]? = some (.cells (bkc b).toArray 34 (0, 0)) := by rw [← hw2]; exact alloc2_at0 _ _ _
  have m1 : w2.heap[w.heap.size + 1]? = some (.cells #[.slice none 0 0] 32 (0, 0)) := by rw [← hw2]; exact alloc2_at1 _ _ _
  have H2 := Lib.hid (And.intro hs2 (And.intro hb2 (And.intro m0 m1)))
  clear hok hlen hbb hbr ho ho' hB hz hR hR0 hs2 hb2 m0 m1
  unfold bkc at hw2 ⊢
  go_enter Try.func50, Try.ntmps50
  go_wp2
  go_step3
  go_wp2
  refine wp_label ?_
  go_wp2
  have hI0 : DrI b os R w 0 [] (.slice none 0 0) w2 := ⟨HR0.out, rfl, fun p hp => by simp at hp, H2.out.2.2.1, H2.out.2.2.2, World.ownsRow_nil _ _ _ _, H2.out.2.1⟩
  have HI0 := Lib.hid hI0
  clear hI0
  go_loopg [16] os.length (fun gg s16 wx => ∃ (k : Nat) (ps : List Int) (v : Value), k + gg = os.length ∧ s16 = .int .i64 k ∧ Hid (DrI b os R w k ps v wx))
  case atStart => exact ⟨0, [], _, by omega, by go_num, HI0.out⟩
  case round =>
    obtain ⟨wo, rfl⟩ : ∃ wo : World, wo = wr := ⟨_, rfl⟩
    obtain ⟨k, ps, v, hkg, rfl, hI⟩ := hrel
    obtain ⟨Ap, cp, rfl⟩ := own_shape hI.out.own
    have hvc := hI.out.box.cell
    have hvf := hI.out.box.frozen
    have hc0 := fun i => cell_of_row wo w.heap.size i _ _ _ hI.out.b0
    unfold bkc at hc0
    cases gk with
    | zero =>
      obtain rfl : k = os.length := by omega
      go_wp2
      rw [Exit.noGoto_ret]
      have hres := hI.out.res
      rw [List.drop_length] at hres
      have hres' : R = some ps := hres.symm
      have hcE := fun i => cell_of_row _ (w.heap.size + 1) i _ _ _ (heap_setCell_same wo (w.heap.size + 1) 0 _ _ (.slice Ap ps.length cp) hI.out.box)
      have hown := World.ownsRow.kept hI.out.own (grownBy_setCell' wo (w.heap.size + 1) (.slice Ap ps.length cp)) (.inr (fun e => by have := own_blockL hI.out.own _ e; omega))
      refine bodyPost_ret (v := .tuple #[.slice Ap ps.length cp, .bool true]) (by simp [results, Try.results50, go_sem, hcE]) rfl ⟨_, by rw [hres']; rfl, ?_, hI.out.bel.setCell (by simp) _⟩
      rw [hres']
      exact own_mono hown (by omega)
    | succ gg =>
      have hk : k < os.length := by omega
      have hkz : (k : Int) < os.length := by omega
      obtain ⟨c, off, hA, hcB, hc⟩ := vals_elem sp2_len HO.out.1 (by decide) hk
      subst hA
      have hc' : ∀ j v, (sp2 os[k])[j]? = some v → wo.cell? ⟨c, off + k * 2 + j, none⟩ = some v := fun j v hv => (hI.out.bel.cell (p := ⟨c, off + k * 2 + j, none⟩) (by have := HO.out.2.1; simp; omega)).trans (hc j v hv)
      have HC := Lib.hid hc'
      clear hc hc'
      obtain ⟨oo, hok⟩ : ∃ oo, os[k] = oo := ⟨_, rfl⟩
      rw [hok] at HC
      obtain ⟨o0, o1⟩ := oo
      unfold sp2 at HC
      dsimp only at HC
      have hstep : drF b (os.drop k) ps = match tryS b (ps.length == 0) (o0, o1) (roomL b ps.getLast?) with | some x => drF b (os.drop (k + 1)) (ps ++ [x]) | none => none := by
        rw [List.drop_eq_getElem_cons hk, hok]
        rfl
      rw [hI.out.res] at hstep
      have hps9 : ps.length ≤ 9 := by have := hI.out.len; omega
      have hlast : ∀ p, ps.getLast? = some p → 50 ≤ p ∧ p ≤ 20000 := fun p hp => hI.out.bd p (List.mem_of_getLast? hp)
      have hrb := roomL_bnd b HBN.out.2.2 HBN.out.1 ps.getLast? hlast
      have HRM := Lib.hid (fun W (hW : Below wo.heap.size wo W) => room_any b HBN.out.2.2 Ap cp ps hI.out.bd (by omega) B (w.heap.size + 2) W (Nat.le_trans HO.out.2.1 (Nat.le_trans hI.out.bel.size hW.size)) ((HO.out.2.2.below (hI.out.bel.mono HO.out.2.1)).below (hW.mono (Nat.le_trans HO.out.2.1 hI.out.bel.size))) (own_grows hI.out.own hW))
      have HST := Lib.hid hstep
      have HRB := Lib.hid hrb
      have hwl := lt_of_heap hI.out.box
      have HPL := Lib.hid hps9
      clear hstep hlast hrb hok hps9
      generalize roomL b ps.getLast? = rl at HRM HST HRB
      unfold RoomPost at HRM
      unfold bkc at HRM
      go_wp2_with (first
        | (show wpList _ _ _ (Oper.mk (some 19) _ _ _ _ _ :: _) _ _
           refine wpList_load_at 25 (.tmp 18) rfl rfl rfl [.int .i64 o0, .int .i64 o1] HC.out rowSpan ?_)
        | (show wpList _ _ _ (Oper.mk none (Op.store _ (Operand.tmp 8) (Operand.tmp 20)) _ _ _ _ :: _) _ _
           refine wpList_store_v5 103 (.tmp 8) (.tmp 20) rfl rfl rfl rfl rfl rfl rfl (L := [.nilFunc]) (alloc2_at1 _ _ _) (by decide) infoFD ?_
           intro w4 hP4 hM4
           have hM4' : w4.heap[wo.heap.size + 1]? = some (.cells #[.func (.func 80) #[] #[.pointer (some ⟨w.heap.size, 0, none⟩), .pointer (some ⟨w.heap.size + 1, 0, none⟩)]] 103 (0, 0)) := hM4
           have hb4 : Below wo.heap.size wo w4 := (((Below.refl _ wo).alloc (Nat.le_refl _) _).alloc (by simp) _).trans (hP4.below (by omega))
           have hn4 := (hP4.other wo.heap.size (by omega)).trans (alloc2_at0 wo _ _)
           have hd0 := fun i => cell_of_row w4 w.heap.size i _ _ _ ((hb4.block _ (by omega)).trans hI.out.b0)
           unfold bkc at hd0
           have hd1 := fun i => cell_of_row w4 (w.heap.size + 1) i _ _ _ ((hb4.block _ hwl).trans hI.out.box)
           have H4 := Lib.hid (And.intro hb4 (And.intro hn4 hM4'))
           clear hP4 hM4 hM4' hb4 hn4 hvc hvf hc0)
        | (go_at_call 69
           refine (HRM.out w4 H4.out.1).mono ?_
           rintro e w5 ⟨A5, c5, rfl, hV5, hB5⟩
           have H5 := Lib.hid (And.intro hV5 (And.intro (H4.out.1.trans (hB5.mono H4.out.1.size)) (And.intro ((hB5.block _ (lt_of_heap H4.out.2.1)).trans H4.out.2.1) ((hB5.block _ (lt_of_heap H4.out.2.2)).trans H4.out.2.2))))
           clear hV5 hB5 hd0 hd1))
      obtain ⟨X, hX⟩ : ∃ X, X = tryS b (ps.length == 0) (o0, o1) rl := ⟨_, rfl⟩
      rw [← hX] at HST
      have hX0 : tryS b (ps.length == 0) (o0, o1) (rl.drop 0) = X := by rw [hX]; rfl
      have HX0 := Lib.hid hX0
      clear hX hX0
      have hB5 := H5.out.2.1.size
      have hBw := hI.out.bel.size
      go_loopg [26] rl.length (fun gi s26 wx => ∃ j : Nat, j + gi = rl.length ∧ s26 = .int .i64 j ∧ Hid (tryS b (ps.length == 0) (o0, o1) (rl.drop j) = X) ∧ Hid (Below w5.heap.size w5 wx))
      case atStart => exact ⟨0, by omega, by go_num, HX0.out, Below.refl _ _⟩
      case round =>
        obtain ⟨j, hjg, rfl, hTX, hBi⟩ := hrel
        have hcP := fun i => cell_of_row wr (w.heap.size + 1) i _ _ _ ((hBi.out.block _ (by omega)).trans ((H5.out.2.1.block _ hwl).trans hI.out.box))
        have hfP := fun i => frozen_of_row wr (w.heap.size + 1) i _ _ ((hBi.out.block _ (by omega)).trans ((H5.out.2.1.block _ hwl).trans hI.out.box))
        cases gk with
        | zero =>
          obtain rfl : j = rl.length := by omega
          have hXn := hTX.out
          rw [List.drop_length] at hXn
          have hXn' : X = none := hXn.symm
          rw [hXn'] at HST
          clear hXn hXn'
          go_wp2
          have hres' : R = none := HST.out
          have hcE := fun i => cell_of_row _ (w.heap.size + 1) i _ _ _ (heap_setCell_same wr (w.heap.size + 1) 0 _ _ (.slice none 0 0) ((hBi.out.block _ (by omega)).trans ((H5.out.2.1.block _ hwl).trans hI.out.box)))
          refine bodyPost_ret (v := .tuple #[.slice none 0 0, .bool false]) (by simp [results, Try.results50, go_sem, hcE]) rfl ⟨_, by rw [hres']; rfl, by rw [hres']; exact World.ownsRow_nil _ _ _ _, ((hI.out.bel.trans (H5.out.2.1.mono hBw)).trans (hBi.out.mono (by omega))).setCell (by simp) _⟩
        | succ gi =>
          have hj : j < rl.length := by omega
          have hjz : (j : Int) < rl.length := by omega
          have hj9 : (j : Int) ≤ 20 := by have := HRB.out.2; omega
          have hV5' : Vals w5 w5.heap.size A5 (rl.flatMap sp2) := H5.out.1
          obtain ⟨c2, off2, hA2, hcB2, hc2⟩ := vals_elem sp2_len hV5' (by decide) hj
          subst hA2
          have hc2' : ∀ i v, (sp2 rl[j])[i]? = some v → wr.cell? ⟨c2, off2 + j * 2 + i, none⟩ = some v := fun i v hv => (hBi.out.cell (p := ⟨c2, off2 + j * 2 + i, none⟩) (by simp; omega)).trans (hc2 i v hv)
          have hsb := HRB.out.1 _ (List.getElem_mem hj)
          have htx := hTX.out
          rw [List.drop_eq_getElem_cons hj] at htx
          generalize rl[j] = sp at hc2' hsb htx
          obtain ⟨lo, hi⟩ := sp
          simp only [tryS] at htx
          unfold sp2 at hc2'
          dsimp only at hc2' hsb htx
          have HC2 := Lib.hid hc2'
          have HTX := Lib.hid htx
          clear hc2 hc2' hV5' htx
          have hlo1 := hsb.1
          have hlo2 := hsb.2.1
          have hhi1 := hsb.2.2.1
          have hhi2 := hsb.2.2.2
          have hbr := fun (W : World) (hW : Below w5.heap.size w5 W) => And.intro ((hW.block _ (by omega)).trans ((H5.out.2.1.block _ (by omega)).trans hI.out.b0)) (And.intro ((hW.block _ (by omega)).trans ((H5.out.2.1.block _ hwl).trans hI.out.box)) (And.intro ((hW.block _ (lt_of_heap H5.out.2.2.2)).trans H5.out.2.2.2) ((hW.block _ (lt_of_heap H5.out.2.2.1)).trans H5.out.2.2.1)))
          have HBR := Lib.hid hbr
          have hgr := fun (W : World) (hW : Below w5.heap.size w5 W) => greatest_any (soB b (ps.length == 0) (o0, o1)) lo hi (by omega) (by omega) (fun p q h1 h2 _ h3 => soB_mono b HBN.out.2.1 _ _ p q (by omega) h2 h3)
            (.pointer (some ⟨wo.heap.size + 1, 0, none⟩)) (.pointer (some ⟨wo.heap.size, 0, none⟩)) W
            (fun m W2 hW2 h1 h2 => by
              obtain ⟨q0, q1, q2, q3⟩ := HBR.out W2 (hW.trans (hW2.mono hW.size))
              exact dril2_any b HBN.out.2.1 w.heap.size (w.heap.size + 1) (wo.heap.size + 1) wo.heap.size Ap ps.length cp (by have := HPL.out; omega) (o0, o1) m (by omega) W2 q0 q1 q2 q3)
          have HGR := Lib.hid hgr
          clear hgr hbr
          go_wp2_with (first
            | (show wpList _ _ _ (Oper.mk (some 29) _ _ _ _ _ :: _) _ _
               refine wpList_load_at 25 (.tmp 28) rfl rfl rfl [.int .i64 lo, .int .i64 hi] HC2.out rowSpan ?_)
            | (go_at_call 83
               refine (HGR.out _ (hBi.out.alloc hBi.out.size _)).mono ?_
               rintro e w6 ⟨⟨x, rfl, hx⟩, hB6⟩
               have H6 := Lib.hid (And.intro hx ((hBi.out.alloc hBi.out.size _).trans (hB6.mono (Nat.le_trans hBi.out.size (by simp)))))
               clear hB6 hx hcP hfP))
          have hgf := grF_is H6.out.1
          have hx2 := H6.out.1.2.1
          have hx1 := H6.out.1.1
          have HGF := Lib.hid hgf
          clear hgf
          by_cases hle : lo ≤ x
          · have hgf := HGF.out
            rw [if_pos hle] at hgf
            have htx := HTX.out
            rw [hgf] at htx
            dsimp only at htx
            have HTX2 := Lib.hid htx
            have hxx : 50 ≤ x ∧ x ≤ 20000 := by omega
            have HD1 := Lib.hid (fun W h1 h2 => dril1_any b HBN.out.2.1 w.heap.size (w.heap.size + 1) Ap ps.length cp (by have := HPL.out; omega) x hxx W h1 h2)
            have HIN := Lib.hid (fun W => inside_any o0 o1 (tonB b (ps.length == 0) x).1 (tonB b (ps.length == 0) x).2 W)
            have hio : insB (o0, o1) ((tonB b (ps.length == 0) x).1, (tonB b (ps.length == 0) x).2) = insB (o0, o1) (tonB b (ps.length == 0) x) := rfl
            rw [hio] at HIN
            have hdx : decide (lo ≤ x) = true := decide_eq_true hle
            rw [hdx]
            have HXX := Lib.hid (And.intro hxx hle)
            clear hgf htx hio hdx hle hx1 hx2 hxx
            generalize insB (o0, o1) (tonB b (ps.length == 0) x) = vi at HTX2 HIN
            generalize (tonB b (ps.length == 0) x).1 = t0 at HD1 HIN
            generalize (tonB b (ps.length == 0) x).2 = t1 at HD1 HIN
            cases vi
            · refine R6.wp_walk (C := fun _ _ W => Below w6.heap.size w6 W) 54 (by kernel_rfl) (by kernel_rfl) rfl (Below.refl _ _).drew ?_
              simp only []
              repeat (first
                | (refine' R6.WalkR.det (fun _ => rfl) (fun D ρ W hK hC => ?_) ?_
                   rotate_left
                   · obtain ⟨q0, q1, q2, q3⟩ := HBR.out W (H6.out.2.trans (hC.mono H6.out.2.size))
                     have f2 := fun i => cell_of_row W (wo.heap.size + 1) i _ _ _ q2
                     have f3 := fun i => cell_of_row W wo.heap.size i _ _ _ q3
                     have HQ := Lib.hid (And.intro q0 q1)
                     have HC := Lib.hid hC
                     clear hC hK q0 q1 q2 q3
                     go_simp
                     first
                       | with_reducible exact ⟨rfl, HC.out⟩
                       | (go_at_call 80; refine (HD1.out W HQ.out.1 HQ.out.2).mono ?_; rintro e W1 ⟨rfl, hB1⟩; exact ⟨_, rfl, rfl, HC.out.trans (hB1.mono HC.out.size)⟩)
                       | (go_at_call 78; refine (HIN.out W).mono ?_; rintro e W1 ⟨rfl, hB1⟩; exact ⟨_, rfl, rfl, HC.out.trans (hB1.mono HC.out.size)⟩)
                   simp only [Act.put, List.setIfInBounds_toArray, List.set_cons_succ, List.set_cons_zero])
                | (refine R6.WalkR.un (fun _ => rfl) (fun D ρ W hK hC => hC) ?_
                   simp only [Act.put, List.setIfInBounds_toArray, List.set_cons_succ, List.set_cons_zero]))
              refine R6.WalkR.nil (fun D ρ W hD hC => ?_)
              have H7 := Lib.hid (H6.out.2.trans (hC.mono H6.out.2.size))
              clear hC hD
              go_wp2
              go_roundg gi
              case measure => omega
              case rel => exact ⟨j + 1, by omega, by go_num, Lib.hid (by simpa using HTX2.out), H7.out⟩
            · refine R6.wp_walk (C := fun _ _ W => Below w6.heap.size w6 W) 54 (by kernel_rfl) (by kernel_rfl) rfl (Below.refl _ _).drew ?_
              simp only []
              repeat (first
                | (refine' R6.WalkR.det (fun _ => rfl) (fun D ρ W hK hC => ?_) ?_
                   rotate_left
                   · obtain ⟨q0, q1, q2, q3⟩ := HBR.out W (H6.out.2.trans (hC.mono H6.out.2.size))
                     have f2 := fun i => cell_of_row W (wo.heap.size + 1) i _ _ _ q2
                     have f3 := fun i => cell_of_row W wo.heap.size i _ _ _ q3
                     have HQ := Lib.hid (And.intro q0 q1)
                     have HC := Lib.hid hC
                     clear hC hK q0 q1 q2 q3
                     go_simp
                     first
                       | with_reducible exact ⟨rfl, HC.out⟩
                       | (go_at_call 80; refine (HD1.out W HQ.out.1 HQ.out.2).mono ?_; rintro e W1 ⟨rfl, hB1⟩; exact ⟨_, rfl, rfl, HC.out.trans (hB1.mono HC.out.size)⟩)
                       | (go_at_call 78; refine (HIN.out W).mono ?_; rintro e W1 ⟨rfl, hB1⟩; exact ⟨_, rfl, rfl, HC.out.trans (hB1.mono HC.out.size)⟩)
                   simp only [Act.put, List.setIfInBounds_toArray, List.set_cons_succ, List.set_cons_zero])
                | (refine R6.WalkR.un (fun _ => rfl) (fun D ρ W hK hC => hC) ?_
                   simp only [Act.put, List.setIfInBounds_toArray, List.set_cons_succ, List.set_cons_zero]))
              refine R6.WalkR.nil (fun D ρ W hD hC => ?_)
              have H7 := Lib.hid (H6.out.2.trans (hC.mono H6.out.2.size))
              clear hC hD
              have hXs : some x = X := by simpa using HTX2.out
              have hst := HST.out
              rw [← hXs] at hst
              dsimp only at hst
              have HST2 := Lib.hid hst
              obtain ⟨q0, q1, q2, q3⟩ := HBR.out W H7.out
              have hown7 : OwnP W (w.heap.size + 2) (.slice Ap ps.length cp) ps := own_grows hI.out.own (H5.out.2.1.trans (H7.out.mono H5.out.2.1.size))
              have hcP := fun i => cell_of_row W (w.heap.size + 1) i _ _ _ q1
              have HQ := Lib.hid (And.intro q0 (And.intro q1 hown7))
              obtain ⟨i0, hi0, hz0⟩ := Option.map_eq_some_iff.1 infoInt9
              simp only [Prod.mk.injEq] at hz0
              have HI0 := Lib.hid (And.intro hi0 hz0)
              clear hXs hst q0 q1 q2 q3 hown7 hi0 hz0
              go_wp2_with
                (at_builtin
                 refine wpList_append_own _ rfl (.tmp 47) (.tmp 49) 32 rfl (w.heap.size + 2) 3 i0 _ 1 8 Try.underlying32 HI0.out.1 HI0.out.2.1 HI0.out.2.2.1 HI0.out.2.2.2 rfl (by decide) (.slice Ap ps.length cp) ps.length (ints ps) rfl (own_grows HQ.out.2.2 (grow1 _ _))
                   ⟨W.heap.size, 0, none⟩ 1 1 [.int .i64 x] rfl rfl (fun i v hv => by rw [Addr.add_mid, Nat.zero_add, cell_of_row _ W.heap.size i _ _ _ (alloc_at0 W _)]; simpa using hv) (by simp [Value.oneCell']) (by have := HPL.out; simp only [maxLen]; omega) (by have := HPL.out; omega) (by simp; have := H7.out.size; omega) ?_
                 intro v' w8 hown' hgrow _
                 obtain ⟨g', cap', rfl⟩ := ownsRow_succ hown'
                 have hk8 : ∀ i, i < w.heap.size + 2 → w8.heap[i]? = W.heap[i]? := fun i hi => (hgrow.block i (by have := H7.out.size; simp; omega) (fun e => by have := own_blockL HQ.out.2.2 _ e.symm; omega)).trans (Below.heap_alloc _ _ _ (by have := H7.out.size; omega))
                 have hc8 := fun i => cell_of_row w8 (w.heap.size + 1) i _ _ _ ((hk8 _ (by omega)).trans HQ.out.2.1)
                 have hf8 := fun i => frozen_of_row w8 (w.heap.size + 1) i _ _ ((hk8 _ (by omega)).trans HQ.out.2.1)
                 have H8 := Lib.hid (And.intro hown' (And.intro hgrow hk8))
                 clear hown' hgrow hk8 hcP)
              have hbW : Below w.heap.size w W := (hI.out.bel.trans (H5.out.2.1.mono hBw)).trans (H7.out.mono (by omega))
              have hs7 := H7.out.size
              have hb8 : Below w.heap.size w w8 := (hbW.alloc hbW.size _).grown H8.out.2.1 (by have := hbW.size; simp; omega) (fun i e => by have := own_blockL HQ.out.2.2 _ e; omega)
              have hbx8 : Boxed w8 (w.heap.size + 1) 32 (.slice Ap ps.length cp) := (H8.out.2.2 _ (by omega)).trans HQ.out.2.1
              have hown8 := World.ownsRow.kept H8.out.1 (grownBy_setCell' w8 (w.heap.size + 1) (.slice (some ⟨g', 0, none⟩) (ps.length + 1) cap')) (.inr (fun e => by have := own_blockL H8.out.1 _ e; omega))
              have hin : ints (ps ++ [x]) = ints ps ++ [.int .i64 x] := by simp [ints]
              have hln : (ps ++ [x]).length = ps.length + 1 := by simp
              go_roundg gg
              case measure => omega
              case rel =>
                refine ⟨k + 1, ps ++ [x], .slice (some ⟨g', 0, none⟩) (ps.length + 1) cap', by omega, by go_num, ⟨HST2.out.symm, by rw [hln, hI.out.len], fun p hp => ?_, (Below.heap_setCell _ _ _ _ (by simp)).trans ((H8.out.2.2 _ (by omega)).trans HQ.out.1), hbx8.set _, ?_, hb8.setCell (by simp) _⟩⟩
                · rcases List.mem_append.1 hp with hp | hp
                  · exact hI.out.bd p hp
                  · rw [List.mem_singleton] at hp; rw [hp]; exact HXX.out.1
                · unfold OwnP
                  rw [hin, hln]
                  exact hown8
          · have hgf := HGF.out
            rw [if_neg hle] at hgf
            have htx := HTX.out
            rw [hgf] at htx
            dsimp only at htx
            have HTX2 := Lib.hid htx
            have HD1 := Lib.hid True.intro
            have HIN := Lib.hid True.intro
            have hdx : decide (lo ≤ x) = false := decide_eq_false hle
            rw [hdx]
            clear hgf htx hdx hle hx1 hx2
            refine R6.wp_walk (C := fun _ _ W => Below w6.heap.size w6 W) 54 (by kernel_rfl) (by kernel_rfl) rfl (Below.refl _ _).drew ?_
            simp only []
            repeat (first
              | (refine' R6.WalkR.det (fun _ => rfl) (fun D ρ W hK hC => ?_) ?_
                 rotate_left
                 · obtain ⟨q0, q1, q2, q3⟩ := HBR.out W (H6.out.2.trans (hC.mono H6.out.2.size))
                   have f2 := fun i => cell_of_row W (wo.heap.size + 1) i _ _ _ q2
                   have f3 := fun i => cell_of_row W wo.heap.size i _ _ _ q3
                   have HQ := Lib.hid (And.intro q0 q1)
                   have HC := Lib.hid hC
                   clear hC hK q0 q1 q2 q3
                   go_simp
                   first
                     | with_reducible exact ⟨rfl, HC.out⟩
                     | (go_at_call 80; refine (HD1.out W HQ.out.1 HQ.out.2).mono ?_; rintro e W1 ⟨rfl, hB1⟩; exact ⟨_, rfl, rfl, HC.out.trans (hB1.mono HC.out.size)⟩)
                     | (go_at_call 78; refine (HIN.out W).mono ?_; rintro e W1 ⟨rfl, hB1⟩; exact ⟨_, rfl, rfl, HC.out.trans (hB1.mono HC.out.size)⟩)
                 simp only [Act.put, List.setIfInBounds_toArray, List.set_cons_succ, List.set_cons_zero])
              | (refine R6.WalkR.un (fun _ => rfl) (fun D ρ W hK hC => hC) ?_
                 simp only [Act.put, List.setIfInBounds_toArray, List.set_cons_succ, List.set_cons_zero]))
            refine R6.WalkR.nil (fun D ρ W hD hC => ?_)
            have H7 := Lib.hid (H6.out.2.trans (hC.mono H6.out.2.size))
            clear hC hD
            go_wp2
            go_roundg gi
            case measure => omega
            case rel => exact ⟨j + 1, by omega, by go_num, HTX2.out, H7.out⟩

end Go.Proofs.Ytjjipkgconmfcaa

namespace Go.Proofs.Ytjjipkgconmfcaa
open Go.RowKit
open R6 (done done_ne done_me upd_ne upd_me)

attribute [local go_sem] gives

def driL (b : Bk) (os : List (Int × Int)) : List Int := if okBk b = true then (if okNos os = true then (drF b os []).getD [] else []) else []
def driE (b : Bk) (os : List (Int × Int)) : Int := if okBk b = true then (if okNos os = true then (if (drF b os []).isSome = true then 0 else 6) else 91) else 92
def DriPost (w : World) (b : Bk) (os : List (Int × Int)) (e : Ending) (w' : World) : Prop := ∃ v, e = .returned (.tuple #[v, .int .i64 (driE b os)]) ∧ OwnP w' w.heap.size v (driL b os) ∧ Below w.heap.size w w'
theorem ownP_less {W : World} {base base' : Nat} {v : Value} {zs : List Int} (h : OwnP W base v zs) (hb : base' ≤ base) : OwnP W base' v zs := own_mono h hb
theorem ownP_none (W : World) (b : Nat) : OwnP W b (.slice none 0 0) [] := World.ownsRow_nil _ _ _ _

set_option maxRecDepth 100000 in
set_option maxHeartbeats 4000000 in
theorem drill_any (b : Bk) (hlz : b.zs.length ≤ 1000000) (A : Option Addr) (cap : Nat) (os : List (Int × Int)) (hlo : os.length ≤ 1000000) (B : Nat) (w : World) (hB : B ≤ w.heap.size) (hz : BkAt w B b) (ho : Vals w B A (pairs os)) :
    Calls Try.prog 23 #[.agg (bkc b).toArray, .slice A os.length cap] w (DriPost w b os) := by
  unfold DriPost driE driL
  obtain ⟨w1, hw1⟩ : ∃ w1, w.alloc (.cells (bkc b).toArray 34) = w1 := ⟨_, rfl⟩
  have hb1 : Below w.heap.size w w1 := by rw [← hw1]; exact grow1 _ _
  have m1 : w1.heap[w.heap.size]? = some (.cells (bkc b).toArray 34 (0, 0)) := by rw [← hw1]; exact alloc_at0 _ _
  have hBW := fun (W : World) (hW : Below w1.heap.size w1 W) => Nat.le_trans hB (Nat.le_trans hb1.size hW.size)
  have hzW := fun (W : World) (hW : Below w1.heap.size w1 W) => (hz.below (hb1.mono hB)).below (hW.mono (Nat.le_trans hB hb1.size))
  have hoW := fun (W : World) (hW : Below w1.heap.size w1 W) => (Vals.below ho (hb1.mono hB)).below (hW.mono (Nat.le_trans hB hb1.size))
  have hcf := fun (W : World) (hW : Below w1.heap.size w1 W) i => cell_of_row W w.heap.size i _ _ _ ((hW.block _ (lt_of_heap m1)).trans m1)
  have hvb := fun W hW => validBlank_any b hlz B W (hBW W hW) (hzW W hW)
  have hvn := fun W hW => validNotes_any A cap os hlo B W (hBW W hW) (hoW W hW)
  have hdr := fun (hk : okBk b = true) (hn : okNos os = true) W hW => drilled_any b hk A cap os (by simp only [okNos, Bool.and_eq_true, decide_eq_true_eq] at hn; omega) B W (hBW W hW) (hzW W hW) (hoW W hW)
  have H1 := Lib.hid hb1
  clear hz ho hb1 m1 hBW hzW hoW
  unfold DrlPost at hdr
  unfold bkc at hw1 hcf hvb hdr ⊢
  have HCF := Lib.hid hcf
  have hc1 := HCF.out w1 (Below.refl _ _)
  clear hcf
  generalize drF b os [] = R at hdr ⊢
  generalize okNos os = v2 at hvn hdr ⊢
  generalize okBk b = v1 at hvb hdr ⊢
  have HVB := Lib.hid hvb
  have HVN := Lib.hid hvn
  have HDR := Lib.hid hdr
  clear hvb hvn hdr
  cases v1
  · go_enter Try.func23, Try.ntmps23
    go_wp2_with (go_at_call 42; refine (HVB.out w1 (Below.refl _ _)).mono ?_; rintro e w2 ⟨rfl, hB2⟩; have H2 := Lib.hid hB2; clear hB2 hc1)
    go_ret2
    exact ⟨_, rfl, ownP_none _ _, H1.out.trans (H2.out.mono H1.out.size)⟩
  cases v2
  · go_enter Try.func23, Try.ntmps23
    go_wp2_with (first
      | (go_at_call 42; refine (HVB.out w1 (Below.refl _ _)).mono ?_; rintro e w2 ⟨rfl, hB2⟩; have H2 := Lib.hid hB2; clear hB2 hc1)
      | (go_at_call 49; refine (HVN.out w2 H2.out).mono ?_; rintro e w3 ⟨rfl, hB3⟩; have H3 := Lib.hid (H2.out.trans (hB3.mono H2.out.size)); clear hB3))
    go_ret2
    exact ⟨_, rfl, ownP_none _ _, H1.out.trans (H3.out.mono H1.out.size)⟩
  cases R with
  | none =>
    go_enter Try.func23, Try.ntmps23
    go_wp2_with (first
      | (go_at_call 42; refine (HVB.out w1 (Below.refl _ _)).mono ?_; rintro e w2 ⟨rfl, hB2⟩; have H2 := Lib.hid hB2; clear hB2 hc1)
      | (go_at_call 49; refine (HVN.out w2 H2.out).mono ?_; rintro e w3 ⟨rfl, hB3⟩; have H3 := Lib.hid (H2.out.trans (hB3.mono H2.out.size)); have hc3 := HCF.out w3 H3.out; clear hB3)
      | (go_at_call 50; refine (HDR.out (by first | trivial | rfl) (by first | trivial | rfl) w3 H3.out).mono ?_; rintro e w4 ⟨v, rfl, hO, hB4⟩; have H4 := Lib.hid (And.intro hO (H3.out.trans (hB4.mono H3.out.size))); clear hB4 hO hc3))
    go_ret2
    exact ⟨_, rfl, ownP_none _ _, H1.out.trans (H4.out.2.mono H1.out.size)⟩
  | some ps =>
    go_enter Try.func23, Try.ntmps23
    go_wp2_with (first
      | (go_at_call 42; refine (HVB.out w1 (Below.refl _ _)).mono ?_; rintro e w2 ⟨rfl, hB2⟩; have H2 := Lib.hid hB2; clear hB2 hc1)
      | (go_at_call 49; refine (HVN.out w2 H2.out).mono ?_; rintro e w3 ⟨rfl, hB3⟩; have H3 := Lib.hid (H2.out.trans (hB3.mono H2.out.size)); have hc3 := HCF.out w3 H3.out; clear hB3)
      | (go_at_call 50; refine (HDR.out (by first | trivial | rfl) (by first | trivial | rfl) w3 H3.out).mono ?_; rintro e w4 ⟨v, rfl, hO, hB4⟩; have H4 := Lib.hid (And.intro hO (H3.out.trans (hB4.mono H3.out.size))); clear hB4 hO hc3))
    go_ret2
    exact ⟨v, rfl, ownP_less H4.out.1 (Nat.le_trans H1.out.size H3.out.size), H1.out.trans (H4.out.2.mono H1.out.size)⟩

end Go.Proofs.Ytjjipkgconmfcaa

namespace Go.Proofs.Ytjjipkgconmfcaa
open Go.RowKit Go.Shelf
open R6 (done done_ne done_me upd_ne upd_me)

attribute [local go_sem] gives

theorem place1_any (s : Int × Int) (p : Int) (t : Nat) (w : World) (ht : w.heap[t]? = some (.cells #[.int .i64 p] 3 (0, 0))) :
    Calls Try.prog 70 #[.agg (sp2 s).toArray, .pointer (some ⟨t, 0, none⟩)] w fun e w' => e = .returned (.bool (allB s.1 s.2 [p])) ∧ Below w.heap.size w w' := by
  obtain ⟨s0, s1⟩ := s
  have HW := Lib.hid (fun W g hg => within_new s0 s1 [p] W g 1 1 rfl hg (by simp))
  obtain ⟨w1, hw1⟩ : ∃ w1, w.alloc (.cells #[.int .i64 s0, .int .i64 s1] 25) = w1 := ⟨_, rfl⟩
  have hb1 : Below w.heap.size w w1 := by rw [← hw1]; exact grow1 _ _
  have hc1 := fun i => cell_of_row w1 t i _ _ _ ((hb1.block _ (lt_of_heap ht)).trans ht)
  have m1 : w1.heap[w.heap.size]? = some (.cells #[.int .i64 s0, .int .i64 s1] 25 (0, 0)) := by rw [← hw1]; exact alloc_at0 _ _
  have hc0 := fun i => cell_of_row w1 w.heap.size i _ _ _ m1
  have H1 := Lib.hid hb1
  clear hb1 ht m1
  unfold sp2
  dsimp only
  generalize allB s0 s1 [p] = v at HW ⊢
  go_enter Try.func70, Try.ntmps70
  go_wp2_with (go_at_call 64; refine (HW.out _ _ (alloc_at0 w1 _)).mono ?_; rintro e w3 ⟨rfl, hB3⟩; have H3 := Lib.hid ((grow1 w1 _).trans (hB3.mono (grow1 w1 _).size)); clear hB3)
  go_ret
  exact ⟨rfl, H1.out.trans (H3.out.mono H1.out.size)⟩

theorem room_of (b : Bk) (hb : bndR b) (A : Option Addr) (cap : Nat) (ps : List Int) (i : Nat) (hi : i ≤ ps.length) (hps : ∀ p ∈ ps.take i, 50 ≤ p ∧ p ≤ 20000) (hl : i ≤ 100) (B : Nat) (w : World) (hB : B ≤ w.heap.size) (hz : BkAt w B b) (hI : Ints w B A ps) :
    Calls Try.prog 69 #[.agg (bkc b).toArray, .slice A i cap] w (RoomPost w (roomL b (ps.take i).getLast?)) := by
  cases i with
  | zero => exact room_none b A cap w
  | succ k =>
    have hk : k < ps.length := by omega
    obtain ⟨S, off, rfl, hS, hc⟩ := hI (by omega)
    have hcp := hc k hk
    have hg : ps[k]?.getD 0 = ps[k] := by simp [hk]
    have hlast : (ps.take (k + 1)).getLast? = some ps[k] := by rw [List.take_succ_eq_append_getElem hk, List.getLast?_concat]
    have hmem : ps[k] ∈ ps.take (k + 1) := by rw [List.take_succ_eq_append_getElem hk]; exact List.mem_append_right _ (List.mem_singleton.2 rfl)
    rw [hg] at hcp
    rw [hlast]
    exact room_some b hb S off k cap ps[k] (hps _ hmem) (by omega) B w hB hz (Nat.lt_of_lt_of_le hS hB) hcp

/-- Whether a place is in the room behind others. -/
def inRm (b : Bk) (ps : List Int) (i : Nat) : Bool := (roomL b (ps.take i).getLast?).any fun s => allB s.1 s.2 [ps[i]?.getD 0]
def okPl (b : Bk) (ps : List Int) : Bool := decide (1 ≤ ps.length) && decide (ps.length ≤ 9) && (List.range ps.length).all (inRm b ps)
theorem inRm_bnd (b : Bk) (hb : bndR b) (hl : 50 ≤ b.len ∧ b.len ≤ 20000) (ps : List Int) (i : Nat) (hps : ∀ p ∈ ps.take i, 50 ≤ p ∧ p ≤ 20000) (h : inRm b ps i = true) : 50 ≤ ps[i]?.getD 0 ∧ ps[i]?.getD 0 ≤ 20000 := by
  have hr := (roomL_bnd b hb hl (ps.take i).getLast? (fun p hp => hps p (List.mem_of_getLast? hp))).1
  obtain ⟨s, hs, hin⟩ := List.any_eq_true.1 h
  have := hr s hs
  rw [allB_one, inR_iff] at hin
  omega

end Go.Proofs.Ytjjipkgconmfcaa
