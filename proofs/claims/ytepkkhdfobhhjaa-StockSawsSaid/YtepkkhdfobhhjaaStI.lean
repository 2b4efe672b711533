/-
  The reference's copy of trunks, and which are valid.
-/
import Derived.Test.YtepkkhdfobhhjaaStH
namespace Go.Proofs.Ytepkkhdfobhhjaa
open Go.RowKit
open R6 (done done_ne done_me upd_ne upd_me)

attribute [local go_sem] gives

section
variable {P : Program} {ops : Array Oper} {rest : List Oper} {op : Oper} {a : Act} {w : World} {Q : Exit → Act → World → Prop}
theorem wpList_store_valS (ty : TypeId) (x y : Operand) (hgd : op.guard = none) (ho : op.op = .store ty x y) (hd : op.dst = none) {b o : Nat} (hx : a.eval x = .pointer (some ⟨b, o, none⟩)) {v : Value} (hy : a.eval y = v) (hv : v.cells = #[v]) (h1 : v.oneCell' = true)
    {L : List Value} {t : TypeId} (hb : w.heap[b]? = some (.cells L.toArray t (0, 0))) (hfit : o < L.length) (hty : (P.info? ty).map (·.size) = some 1)
    (h : ∀ w', Put w w' b → w'.heap[b]? = some (.cells (L.set o v).toArray t (0, 0)) → wpList P ops Q rest a w') : wpList P ops Q (op :: rest) a w := by
  refine wpList_plain hgd fun K hK => ?_
  have hrun := run_store_one (P := P) (v := v) hb hfit hv h1 hty
  unfold Oper.wp execOp
  simp only [ho, hx, hy, Sem.run_bind, Sem.run_pure, hrun, Result.andThen_ok]
  refine hK _ _ ?_
  rw [hd]
  refine h _ (put_setCells b [v] o w) ?_
  have := heap_setCell_same w b o _ _ v hb
  rwa [List.setIfInBounds_toArray] at this
end

theorem infoTrunk : (Try.prog.info? 59).map (fun i => (i.zero, i.size, i.bytes)) = some (some (.agg #[.int .i64 0, .int .i64 0, .slice none 0 0]), 3, 40) := by kernel_rfl
theorem infoIntS : (Try.prog.info? 3).map (fun i => (i.zero, i.size, i.bytes)) = some (some (.int .i64 0), 1, 8) := by kernel_rfl
theorem sizeSlS : (Try.prog.info? 35).map (·.size) = some 1 := by kernel_rfl

theorem flat_set {α : Type} {f : α → List Value} {n : Nat} (hf : ∀ x, (f x).length = n) : ∀ (a b : List α) (y : α) (j : Nat) (v : Value), j < n → ((a ++ y :: b).flatMap f).set (a.length * n + j) v = a.flatMap f ++ ((f y).set j v ++ b.flatMap f)
  | [], b, y, j, v, hj => by
    simp only [List.nil_append, List.flatMap_cons, List.length_nil, Nat.zero_mul, Nat.zero_add, List.flatMap_nil]
    rw [List.set_append_left _ _ (by rw [hf]; exact hj)]
  | x :: a, b, y, j, v, hj => by
    have ih := flat_set hf a b y j v hj
    simp only [List.cons_append, List.flatMap_cons, List.length_cons]
    rw [List.set_append_right _ _ (by rw [hf, Nat.succ_mul]; omega), hf, Nat.succ_mul, show a.length * n + n + j - n = a.length * n + j by omega, ih, List.append_assoc]

theorem twin_set (ls l : List Tk) (R : List Value) (k : Nat) (hk : k < l.length) (hlk : ls.length = k) (A' : Option Addr) (c' : Nat) :
    ((ls ++ l.drop k).flatMap tkc ++ R).set (k * 3 + 2) (.slice A' l[k].zs.length c') = ((ls ++ [Tk.mk l[k].n l[k].g A' c' l[k].zs]) ++ l.drop (k + 1)).flatMap tkc ++ R := by
  subst hlk
  rw [List.drop_eq_getElem_cons hk]
  have h := flat_set tkc_len ls (l.drop (ls.length + 1)) l[ls.length] 2 (.slice A' l[ls.length].zs.length c') (by omega)
  rw [List.set_append_left _ _ (by rw [flat_len tkc_len]; simp; omega), h]
  simp [tkc]
theorem twin_at (ls l : List Tk) (R : List Value) (k : Nat) (hk : k < l.length) (hlk : ls.length = k) (j : Nat) (hj : j < 3) : ((ls ++ l.drop k).flatMap tkc ++ R).toArray[k * 3 + j]? = (tkc l[k])[j]? := by
  subst hlk
  rw [List.getElem?_toArray, List.getElem?_append_left (by rw [flat_len tkc_len]; simp; omega)]
  have h := flat_at tkc_len (ls ++ l.drop ls.length) ls.length (by simp; omega) j hj
  rw [h]
  congr 1
  rw [List.getElem_append_right (Nat.le_refl _)]
  simp
/-- A copy of trunks in new memory. -/
def TwinPostS (w : World) (E : List (Int × Int × List Int)) (n : Nat) (e : Ending) (w' : World) : Prop := ∃ A c l, l.length = n ∧ l.map tkE = E ∧ e = .returned (.slice A n c) ∧ TksAt w' w'.heap.size l A ∧ Below w.heap.size w w'

set_option maxRecDepth 100000 in
set_option maxHeartbeats 8000000 in
theorem twinTrunks_any (A : Option Addr) (cap : Nat) (l : List Tk) (B : Nat) (w : World) (hB : B ≤ w.heap.size) (hz : TksAt w B l A) (hl : smallT l) :
    Calls Try.prog 12 #[.slice A l.length cap] w (TwinPostS w (l.map tkE) l.length) := by
  obtain ⟨i0, hi, hz0, hz1, hz2⟩ := info_parts infoTrunk
  obtain ⟨i1, hi', hz0', hz1', hz2'⟩ := info_parts infoIntS
  have HI := Lib.hid (And.intro hi (And.intro hz0 (And.intro hz1 hz2)))
  have HI' := Lib.hid (And.intro hi' (And.intro hz0' (And.intro hz1' hz2')))
  obtain ⟨w1, hw1⟩ : ∃ w1, w.alloc (.cells #[] 59) = w1 := ⟨_, rfl⟩
  have hb1 : Below w.heap.size w w1 := by rw [← hw1]; exact grow1 _ _
  have m1 : w1.heap[w.heap.size]? = some (.cells #[] 59 (0, 0)) := by rw [← hw1]; exact alloc_at0 _ _
  have hv1 := (hz.v.mono hB).below hb1
  have hfl : (l.flatMap tkc).length = l.length * 3 := flat_len tkc_len l
  have H1 := Lib.hid (And.intro hb1 (And.intro m1 (And.intro hv1 hfl)))
  have HZ := Lib.hid hz
  have HL := Lib.hid hl
  have hll := hl.1
  clear hi hz0 hz1 hz2 hi' hz0' hz1' hz2' hb1 m1 hv1 hfl hz hl
  go_enter Try.func12, Try.ntmps12
  go_wp2_with
    (at_builtin
     refine wpl_clone (by rfl) (.tmp 5) (.tmp 6) _ (by rfl) w.heap.size 59 i0 _ 3 40 Try.underlying22 HI.out.1 HI.out.2.1 HI.out.2.2.1 HI.out.2.2.2 rfl (by omega) _ (by rfl) H1.out.2.1 (Nat.le_refl _)
       w.heap.size A l.length cap (l.flatMap tkc) (by rfl) H1.out.2.2.1 H1.out.2.2.2 (tkc_one l) (by simp only [maxLen]; omega) (by omega) ?_
     intro g c1 w3 hown hgrow hat hg1 hg1s
     have hB3 : Below w.heap.size w w3 := Below.ofGrown H1.out.1 hgrow (by have := H1.out.1.size; omega) (Nat.le_refl _)
     have H3 := Lib.hid (And.intro hown (And.intro hB3 (And.intro hg1 hg1s)))
     clear hown hgrow hat hg1 hg1s hB3)
  obtain ⟨R, hR⟩ : ∃ R : List Value, w3.heap[g]? = some (.cells (l.flatMap tkc ++ R).toArray 59 (0, 0)) := by
    rcases H3.out.1.2 with ⟨e, _⟩ | ⟨g', cap', cur, hv, _, hh, _, _, _, hcs⟩
    · cases e
    · simp only [Value.slice.injEq, Option.some.injEq, Addr.mk.injEq, and_true] at hv
      obtain ⟨rfl, _, _⟩ := hv
      refine ⟨cur.toList.drop (l.length * 3), ?_⟩
      rw [← hcs, List.take_append_drop]
      exact hh
  have HR := Lib.hid hR
  clear hR
  go_loopg [4] l.length (fun gg s4 wx => ∃ (k : Nat) (ls : List Tk), k + gg = l.length ∧ Hid (ls.length = k) ∧ s4 = .int .i64 k ∧ Hid (ls.map tkE = (l.map tkE).take k) ∧ Hid (wx.heap[g]? = some (.cells ((ls ++ l.drop k).flatMap tkc ++ R).toArray 59 (0, 0))) ∧
    Hid (∀ x ∈ ls, wx.ownsRow w3.heap.size 3 1 (.slice x.A x.zs.length x.c) x.zs.length (ints x.zs)) ∧ Hid (Below w.heap.size w wx) ∧ Hid (w3.heap.size ≤ wx.heap.size))
  case atStart => exact ⟨0, [], by omega, rfl, rfl, rfl, HR.out, fun x hx => (by cases hx), H3.out.2.1, Nat.le_refl _⟩
  case round =>
    obtain ⟨k, ls, hkg, hlk, rfl, hE, hM, hO, hBr, hsz⟩ := hrel
    have hg1 := H3.out.2.2.1
    have hg1s := H3.out.2.2.2
    cases gk with
    | zero =>
      have hkl : k = l.length := by omega
      have hkn : ¬ (k : Int) < l.length := by omega
      have HKL := Lib.hid hkl
      clear hkl
      go_wp2
      go_ret
      have hM' := hM.out
      have hE' := hE.out
      have hlk' := hlk.out
      rw [HKL.out, List.drop_length, List.append_nil] at hM'
      rw [HKL.out, List.take_of_length_le (by simp)] at hE'
      refine ⟨some ⟨g, 0, none⟩, c1, ls, by rw [hlk', HKL.out], hE', rfl, ⟨fun h0 => ⟨g, 0, rfl, by have := hsz.out; omega, fun j v hv => ?_⟩, fun x hx => (Vals.own (hO.out x hx)).ints⟩, hBr.out⟩
      rw [Nat.zero_add, cell_of_row _ g j _ _ _ hM', List.getElem?_toArray, List.getElem?_append_left (List.getElem?_eq_some_iff.1 hv).1]
      exact hv
    | succ gg =>
      have hk : k < l.length := by omega
      have hkz : (k : Int) < l.length := by omega
      have hws := hBr.out.size
      have hszs := hsz.out
      have hcg := twin_at ls l R k hk hlk.out 2 (by omega)
      have hset := fun A' c' => twin_set ls l R k hk hlk.out A' c'
      have hin := HZ.out.r _ (List.getElem_mem hk)
      have hyl := HL.out.2 _ (List.getElem_mem hk)
      have hE1 : (l.map tkE).take (k + 1) = (l.map tkE).take k ++ [tkE l[k]] := by
        rw [List.take_add_one]
        simp [hk]
      rw [show (tkc l[k])[2]? = some (.slice l[k].A l[k].zs.length l[k].c) from rfl] at hcg
      generalize l[k] = y at hcg hset hin hyl hE1
      obtain ⟨wx, hwx⟩ : ∃ wx, wr.alloc (.cells #[] 3) = wx := ⟨_, rfl⟩
      have hbx : Below wr.heap.size wr wx := by rw [← hwx]; exact grow1 _ _
      have hm0 : wx.heap[wr.heap.size]? = some (.cells #[] 3 (0, 0)) := by rw [← hwx]; exact alloc_at0 _ _
      have hbw := hBr.out.trans (hbx.mono hws)
      have hMx := (hbx.block g (by omega)).trans hM.out
      have hcr : wr.cell? ⟨g, k * 3 + 2, none⟩ = some (.slice y.A y.zs.length y.c) := (cell_of_row _ g _ _ _ _ hM.out).trans hcg
      have hcx : wx.cell? ⟨g, k * 3 + 2, none⟩ = some (.slice y.A y.zs.length y.c) := (cell_of_row _ g _ _ _ _ hMx).trans hcg
      have hvx := ((hin.mono hB).below hbw).vals
      have hyl2 : (ints y.zs).length = y.zs.length * 1 := by simp [ints]
      have hdl : k * 3 + 2 < ((ls ++ l.drop k).flatMap tkc ++ R).length := by
        rw [List.length_append, flat_len tkc_len, List.length_append, hlk.out, List.length_drop]
        omega
      have HK := Lib.hid (And.intro hbx (And.intro hm0 (And.intro hvx (And.intro hyl2 (And.intro hset (And.intro hdl (And.intro hE1 hMx)))))))
      clear hbx hm0 hbw hvx hyl2 hin hcg hset hdl hE1 hMx
      go_wp2_with (first
        | (at_builtin
           refine wpl_clone (by rfl) (.tmp 16) (.tmp 21) _ (by rfl) w3.heap.size 3 i1 _ 1 8 Try.underlying35 HI'.out.1 HI'.out.2.1 HI'.out.2.2.1 HI'.out.2.2.2 rfl (by omega) _ (by rfl) HK.out.2.1 hszs
             w.heap.size y.A y.zs.length y.c (ints y.zs) (by rfl) HK.out.2.2.1 HK.out.2.2.2.1 (oneCells_ints _) (by simp only [maxLen]; omega) (by omega) ?_
           intro g2 c2 w5 hown hgrow hat hg2 hg2s
           have hB5 : Below wr.heap.size wr w5 := Below.ofGrown HK.out.1 hgrow (by have := HK.out.1.size; omega) (Nat.le_refl _)
           have hM5 := (hB5.block g (by omega)).trans hM.out
           have hc5 := (hB5.cell (p := ⟨g, k * 3 + 2, none⟩) (by simp; omega)).trans hcr
           have hf5 : w5.frozen? ⟨g, k * 3 + 2, none⟩ = false := by simp [World.frozen?, hM5]
           have H5 := Lib.hid (And.intro hown (And.intro hB5 hM5))
           clear hown hgrow hat hg2 hg2s hB5 hM5 hcx hcr)
        | fail)
      obtain ⟨w6, hw6⟩ : ∃ w6, w5.setCell ⟨g, k * 3 + 2, none⟩ (.slice (some ⟨g2, 0, none⟩) y.zs.length c2) = w6 := ⟨_, rfl⟩
      have hP6 : Put w5 w6 g := by rw [← hw6]; exact put_setCells g [.slice (some ⟨g2, 0, none⟩) y.zs.length c2] (k * 3 + 2) w5
      have hM6 : w6.heap[g]? = some (.cells ((((ls ++ l.drop k).flatMap tkc ++ R).set (k * 3 + 2) (.slice (some ⟨g2, 0, none⟩) y.zs.length c2)).toArray) 59 (0, 0)) := by
        have := heap_setCell_same w5 g (k * 3 + 2) _ _ (.slice (some ⟨g2, 0, none⟩) y.zs.length c2) H5.out.2.2
        rwa [List.setIfInBounds_toArray, hw6] at this
      rw [HK.out.2.2.2.2.1] at hM6
      have H6 := Lib.hid (And.intro hP6 hM6)
      rw [hw6]
      clear hP6 hM6 hw6 hc5 hf5
      go_roundg gg
      case measure => omega
      case rel =>
        have h5s := H5.out.2.1.size
        have h6s := H6.out.1.size
        refine ⟨k + 1, ls ++ [Tk.mk y.n y.g (some ⟨g2, 0, none⟩) c2 y.zs], by omega, by have := hlk.out; simp [Hid, this], by go_num, ?_, H6.out.2, ?_, ?_, ?_⟩
        · show _ = _
          rw [List.map_append, hE.out, HK.out.2.2.2.2.2.2.1]
          rfl
        · intro x hx
          rcases List.mem_append.1 hx with hx | hx
          · exact own_keeps (own_grows (hO.out x hx) H5.out.2.1) (H6.out.1.keepsX (fun j => j = g) rfl) (fun k hk _ e => by omega)
          · rw [List.mem_singleton.1 hx]
            exact own_keeps H5.out.1 (H6.out.1.keepsX (fun j => j = g) rfl) (fun k hk _ e => by omega)
        · exact hBr.out.trans ((H5.out.2.1.mono hws).trans (H6.out.1.below hg1))
        · show _ ≤ _
          omega

end Go.Proofs.Ytepkkhdfobhhjaa
