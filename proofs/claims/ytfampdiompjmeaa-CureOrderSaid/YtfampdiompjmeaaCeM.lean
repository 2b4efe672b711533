/-
  The reference's copies of cells and batches, and its comparisons.
-/
import Derived.Test.YtfampdiompjmeaaCeL
namespace Go.Proofs.Ytfampdiompjmeaa
open Go.RowKit Go.Shelf
open R6 (done done_ne done_me upd_ne upd_me)

attribute [local go_sem] gives

section
variable {P : Program} {ops : Array Oper} {rest : List Oper} {op : Oper} {a : Act} {w : World} {Q : Exit → Act → World → Prop}
theorem wpList_store_val (ty : TypeId) (x y : Operand) (hgd : op.guard = none) (ho : op.op = .store ty x y) (hd : op.dst = none) {b o : Nat} (hx : a.eval x = .pointer (some ⟨b, o, none⟩)) {v : Value} (hy : a.eval y = v) (hv : v.cells = #[v]) (h1 : v.oneCell' = true)
    {L : List Value} {t : TypeId} (hb : w.heap[b]? = some (.cells L.toArray t (0, 0))) (hfit : o < L.length) (hty : (P.info? ty).map (·.size) = some 1)
    (h : ∀ w', Put w w' b → w'.heap[b]? = some (.cells (L.set o v).toArray t (0, 0)) → wpList P ops Q rest a w') : wpList P ops Q (op :: rest) a w := by
  refine wpList_plain hgd fun K hK => ?_
  have hrun := run_store_one (P := P) (v := v) hb hfit hv h1 hty
  unfold Oper.wp execOp
  simp only [ho, hx, hy, Sem.run_bind, Sem.run_pure, hrun, Result.andThen_ok]
  refine hK _ _ ?_
  rw [hd]
  refine h _ (put_setCells b [v] o w) ?_
  have := heap_setCell_same w b o _ _ v hb
  rwa [List.setIfInBounds_toArray] at this
end

/-- Lists that are not great. -/
def smallL (l : List Sl) : Prop := l.length ≤ 1000 ∧ ∀ s ∈ l, s.zs.length ≤ 1000

set_option maxRecDepth 100000 in
set_option maxHeartbeats 8000000 in
theorem twinCells_any (A : Option Addr) (cap : Nat) (l : List Sl) (B : Nat) (w : World) (hB : B ≤ w.heap.size) (hz : Rows w B A l) (hl : smallL l) :
    Calls Try.prog 39 #[.slice A l.length cap] w (CellsPost w (rws l)) := by
  obtain ⟨i0, hi, hz0, hz1, hz2⟩ := info_parts info3
  obtain ⟨i1, hi', hz0', hz1', hz2'⟩ := info_parts infoSl
  have HI := Lib.hid (And.intro hi (And.intro hz0 (And.intro hz1 hz2)))
  have HI' := Lib.hid (And.intro hi' (And.intro hz0' (And.intro hz1' hz2')))
  have HZ := Lib.hid hz
  have hll := hl.1
  have HL := Lib.hid hl
  clear hi hz0 hz1 hz2 hi' hz0' hz1' hz2' hz hl
  go_enter Try.func39, Try.ntmps39
  go_wp2
  go_loopg [3, 4] l.length (fun gg s3 s4 wx => ∃ (k : Nat) (ls : List Sl) (v : Value), k + gg = l.length ∧ ls.length = k ∧ s3 = v ∧ s4 = .int .i64 k ∧ Hid (rws ls = (rws l).take k) ∧ Hid (OwnR wx w.heap.size v ls) ∧ Hid (Below w.heap.size w wx))
  case atStart => exact ⟨0, [], _, by omega, rfl, rfl, rfl, rfl, ownR_nil _ _, Below.refl _ _⟩
  case round =>
    obtain ⟨k, ls, v, hkg, hlk, hs3, rfl, hR, hO, hBr⟩ := hrel
    obtain rfl := hs3.symm
    have HLK := Lib.hid hlk
    clear hlk
    cases gk with
    | zero =>
      have hkl : k = l.length := by omega
      have hkn : ¬ (k : Int) < l.length := by omega
      have HKL := Lib.hid hkl
      clear hkl
      go_wp2
      go_ret
      obtain ⟨A', c', hv⟩ := own_slice hO.out.row
      refine ⟨A', c', ls, by rw [hv]; rfl, by rw [hR.out, HKL.out, List.take_of_length_le (by simp [rws])], ?_, hBr.out⟩
      rw [← hv]; exact hO.out
    | succ gg =>
      have hk : k < l.length := by omega
      have hkz : (k : Int) < l.length := by omega
      have hws := hBr.out.size
      have hrt : (rws l).take (k + 1) = (rws l).take k ++ [l[k].zs] := by
        rw [List.take_add_one]
        simp [rws, hk]
      obtain ⟨ab, off, hA, hcB, hc⟩ := HZ.out.va (by rw [slvs_len]; omega)
      subst hA
      have hy := hc k _ (slvs_at l k hk)
      have hin := HZ.out.each _ (List.getElem_mem hk)
      have hyl := HL.out.2 _ (List.getElem_mem hk)
      generalize l[k] = y at hy hrt hin hyl
      obtain ⟨yA, yc, ys⟩ := y
      unfold slv at hy
      simp only at hy hrt hin hyl
      obtain ⟨wx, hwx⟩ : ∃ wx, wr.alloc (.cells #[] 3) = wx := ⟨_, rfl⟩
      have hbx : Below wr.heap.size wr wx := by rw [← hwx]; exact grow1 _ _
      have hm0 : wx.heap[wr.heap.size]? = some (.cells #[] 3 (0, 0)) := by rw [← hwx]; exact alloc_at0 _ _
      have hbw := hBr.out.trans (hbx.mono hws)
      have hcx : wx.cell? ⟨ab, off + k, none⟩ = _ := (hbw.cell (p := ⟨ab, off + k, none⟩) (by simp; omega)).trans hy
      have hvx := ((hin.mono hB).below hbw).vals
      have hyl2 : (ints ys).length = ys.length * 1 := by simp [ints]
      have HK := Lib.hid (And.intro hbx (And.intro hm0 (And.intro hvx (And.intro hyl2 hrt))))
      clear hbx hm0 hbw hvx hyl2 hin hy hc hrt
      go_wp2_with (first
        | (at_builtin
           refine wpl_clone (by rfl) (.tmp 12) (.tmp 16) _ (by rfl) wr.heap.size 3 i0 _ 1 8 Try.underlying47 HI.out.1 HI.out.2.1 HI.out.2.2.1 HI.out.2.2.2 rfl (by omega) _ (by rfl) HK.out.2.1 (Nat.le_refl _)
             w.heap.size yA ys.length yc (ints ys) (by rfl) HK.out.2.2.1 HK.out.2.2.2.1 (oneCells_ints _) (by simp only [maxLen]; omega) (by omega) ?_
           intro g c1 w3 hown hgrow hat hg1 hg1s
           have hB3 : Below wr.heap.size wr w3 := Below.ofGrown HK.out.1 hgrow (by have := HK.out.1.size; omega) (Nat.le_refl _)
           obtain ⟨wy, hwy⟩ : ∃ wy, w3.alloc (.cells #[.slice (some ⟨g, 0, none⟩) ys.length c1] 47) = wy := ⟨_, rfl⟩
           have hby : Below w3.heap.size w3 wy := by rw [← hwy]; exact grow1 _ _
           have hmy : wy.heap[w3.heap.size]? = some (.cells #[.slice (some ⟨g, 0, none⟩) ys.length c1] 47 (0, 0)) := by rw [← hwy]; exact alloc_at0 _ _
           have hBy := hB3.trans (hby.mono hB3.size)
           have hOy : OwnI wy w.heap.size (slv ⟨some ⟨g, 0, none⟩, c1, ys⟩) ys := (OwnI.less (show OwnI w3 wr.heap.size _ ys from hown) hws).grows hby
           have H3 := Lib.hid (And.intro hBy (And.intro hOy (And.intro hmy (hO.out.grows hBy))))
           clear hown hgrow hat hg1 hg1s hB3 hby hmy hBy hOy hcx)
        | (at_builtin
           refine wpl_app (by rfl) (.tmp 11) (.tmp 18) 24 (by rfl) w.heap.size 47 i1 _ 1 24 Try.underlying24 HI'.out.1 HI'.out.2.1 HI'.out.2.2.1 HI'.out.2.2.2 rfl (by omega) v ls.length (slvs ls) (by rfl) H3.out.2.2.2.row
             wy.heap.size (some ⟨w3.heap.size, 0, none⟩) 1 1 [slv ⟨some ⟨g, 0, none⟩, c1, ys⟩] (by rfl) (vals_new (by simpa [slv] using H3.out.2.2.1) (lt_of_heap H3.out.2.2.1)) rfl (slvs_one [_]) (by have := HLK.out; simp only [maxLen]; omega) (by have := HLK.out; omega) (by have := H3.out.1.size; omega) ?_
           intro v' w9 hown hgrow _
           have hO9 := H3.out.2.2.2.app (s := ⟨some ⟨g, 0, none⟩, c1, ys⟩) H3.out.2.1 hgrow hown
           have hB9 : Below w.heap.size w w9 := (hBr.out.trans (H3.out.1.mono hws)).grown hgrow (by have := H3.out.1.size; omega) (fun k e => (own_blockType H3.out.2.2.2.row e).choose_spec.2)
           have H9 := Lib.hid (And.intro hO9 hB9)
           clear hown hgrow hO9 hB9))
      go_roundg gg
      case measure => omega
      case rel =>
        refine ⟨k + 1, ls ++ [Sl.mk (some ⟨g, 0, none⟩) c1 ys], v', by omega, by have := HLK.out; simp [this], rfl, by go_num, ?_, H9.out.1, H9.out.2⟩
        show rws (ls ++ [_]) = _
        rw [HK.out.2.2.2.2, ← hR.out]
        simp [rws]

end Go.Proofs.Ytfampdiompjmeaa
