/-
  The reference's copies of batches, and its comparisons of what is the same.
-/
import Derived.Test.YtfampdiompjmeaaCeM
import Derived.Test.YtfampdiompjmeaaCdM
namespace Go.Proofs.Ytfampdiompjmeaa
open Go.RowKit Go.Shelf
open R6 (done done_ne done_me upd_ne upd_me)

attribute [local go_sem] gives

theorem rowApiBatch : RowTy Try.prog 28 6 := ⟨⟨_, Try.underlying28, rfl⟩, by kernel_rfl⟩
theorem sizeSl1 : (Try.prog.info? 24).map (·.size) = some 1 := by kernel_rfl
def btl (t : Bt) (P : Value) : List Value := [.int .i64 t.water, .int .i64 t.borax, P, .int .i64 t.lo, .int .i64 t.hi, .int .i64 t.need]
theorem btl_eq (t : Bt) (P : Value) : btcells t P = (btl t P).toArray := rfl
theorem btl_one (t : Bt) (A : Option Addr) (n c : Nat) : ∀ v ∈ btl t (.slice A n c), v.oneCell' = true := by
  intro v hv
  simp only [btl, List.mem_cons, List.not_mem_nil, or_false] at hv
  rcases hv with rfl | rfl | rfl | rfl | rfl | rfl <;> rfl

theorem OwnR.low {W W' : World} {base b : Nat} {v : Value} {ls : List Sl} (h : OwnR W base v ls) (hp : Put W W' b) (hb : b < base) : OwnR W' base v ls :=
  ⟨own_keeps h.row (hp.keepsX (fun j => j = b) rfl) (fun k hk _ e => by omega), fun s hs => own_keeps (h.each s hs) (hp.keepsX (fun j => j = b) rfl) (fun k hk _ e => by omega)⟩

def TwinPost (w : World) (t : Bt) (ws : List (List Int)) (e : Ending) (w' : World) : Prop :=
  ∃ A c ls, e = .returned (.agg (btcells t (.slice A ls.length c))) ∧ rws ls = ws ∧ OwnR w' w.heap.size (.slice A ls.length c) ls ∧ Below w.heap.size w w'

set_option maxRecDepth 100000 in
set_option maxHeartbeats 4000000 in
theorem twin_any (t : Bt) (A : Option Addr) (cap : Nat) (l : List Sl) (B : Nat) (w : World) (hB : B ≤ w.heap.size) (hz : Rows w B A l) (hl : smallL l) :
    Calls Try.prog 25 #[.agg (btcells t (.slice A l.length cap))] w (TwinPost w t (rws l)) := by
  have hcl := fun W (hW : Below w.heap.size w W) => twinCells_any A cap l B W (Nat.le_trans hB hW.size) (hz.below (hW.mono hB)) hl
  unfold CellsPost at hcl
  have HC := Lib.hid hcl
  clear hcl hz hl
  have hg2 : Below w.heap.size w ((w.alloc (.cells (btcells t (.slice A l.length cap)) 28)).alloc (.cells #[.int .i64 0, .int .i64 0, .slice none 0 0, .int .i64 0, .int .i64 0, .int .i64 0] 28)) := (grow1 _ _).alloc (by simp) _
  have hm0 : ((w.alloc (.cells (btcells t (.slice A l.length cap)) 28)).alloc (.cells #[.int .i64 0, .int .i64 0, .slice none 0 0, .int .i64 0, .int .i64 0, .int .i64 0] 28)).heap[w.heap.size]? = _ := alloc2_at0 _ _ _
  have hm1 : ((w.alloc (.cells (btcells t (.slice A l.length cap)) 28)).alloc (.cells #[.int .i64 0, .int .i64 0, .slice none 0 0, .int .i64 0, .int .i64 0, .int .i64 0] 28)).heap[w.heap.size + 1]? = _ := alloc2_at1 _ _ _
  have H0 := Lib.hid (And.intro hg2 (And.intro hm0 hm1))
  clear hg2 hm0 hm1
  unfold btcells at H0 ⊢
  go_enter Try.func25, Try.ntmps25
  go_wp2_with (first
    | (go_at_call 39; refine (HC.out _ H0.out.1).mono ?_; rintro e w1 ⟨A1, c1, ls, rfl, hr, hO, hB1⟩
       have hm1 := (hB1.block w.heap.size (by simp; omega)).trans H0.out.2.1
       have hm2 := (hB1.block (w.heap.size + 1) (by simp)).trans H0.out.2.2
       have H1 := Lib.hid (And.intro hr (And.intro (hO.less (base' := w.heap.size + 2) (by simp)) (And.intro (H0.out.1.trans (hB1.mono (by simp; omega))) (And.intro hm1 hm2))))
       clear hr hO hB1 hm1 hm2)
    | (show wpList _ _ _ (Oper.mk none (Op.store _ (Operand.tmp 6) (Operand.tmp 5)) _ _ _ _ :: _) _ _
       refine wpList_store_val 24 (.tmp 6) (.tmp 5) rfl rfl rfl rfl rfl rfl rfl (L := btl t (.slice A l.length cap)) H1.out.2.2.2.1 (by simp [btl]) sizeSl1 ?_
       intro w2 hP2 hM2
       have hm2 := (hP2.other (w.heap.size + 1) (by omega)).trans H1.out.2.2.2.2
       have H2 := Lib.hid (And.intro hP2 (And.intro (show w2.heap[w.heap.size]? = some (.cells (btl t (.slice A1 ls.length c1)).toArray 28 (0, 0)) from hM2) hm2))
       clear hP2 hM2 hm2)
    | (show wpList _ _ _ (Oper.mk (some 7) _ _ _ _ _ :: _) _ _
       refine wpList_load_blk 28 (.tmp 1) rfl rfl rfl H2.out.2.1 (btl t (.slice A1 ls.length c1)) (fun j v hj => by rw [Nat.zero_add, List.getElem?_toArray]; exact hj) rowApiBatch ?_)
    | (show wpList _ _ _ (Oper.mk none (Op.store _ (Operand.tmp 2) (Operand.tmp 7)) _ _ _ _ :: _) _ _
       refine wpList_store_blk 28 (.tmp 2) (.tmp 7) (cs := btl t (.slice A1 ls.length c1)) (L := [.int .i64 0, .int .i64 0, .slice none 0 0, .int .i64 0, .int .i64 0, .int .i64 0]) rfl rfl rfl rfl rfl H2.out.2.2 (by simp [btl]) (btl_one _ _ _ _) rowApiBatch ?_
       intro w3 hP3 hM3
       rw [splice_whole (by simp [btl])] at hM3
       have H3 := Lib.hid (And.intro hP3 hM3)
       clear hP3 hM3))
  refine bodyPost_ret (v := .agg (btl t (.slice A1 ls.length c1)).toArray) (results_cell Try.results25 rfl H3.out.2 rowApiBatch) rfl ⟨A1, c1, ls, rfl, H1.out.1, ?_, ?_⟩
  · exact ((H1.out.2.1.low H2.out.1 (by omega)).low H3.out.1 (by omega)).less (by omega)
  · exact H1.out.2.2.1.trans ((H2.out.1.below (by omega)).trans (H3.out.1.below (by omega)))

theorem eqlSpan (w : World) (x x' : Int) : (binOp .eql 26 (.agg #[.int .i64 x, .int .i64 x']) (.agg #[.int .i64 x, .int .i64 x'])).run Try.prog w = .ok (.bool true) w := by
  rw [run_eql_struct, run_equalIn_agg _ _ _ _ _ Try.st26 Try.held26]
  simp [Program.fieldsOf, Try.underlying26, Op.eqFields, go_sem]

set_option maxRecDepth 100000 in
set_option maxHeartbeats 8000000 in
/-- The same cells are. -/
theorem sameCells_any (A1 A2 : Option Addr) (c1 c2 : Nat) (l1 l2 : List Sl) (B : Nat) (w : World) (hB : B ≤ w.heap.size) (hz1 : Rows w B A1 l1) (hz2 : Rows w B A2 l2) (he : rws l1 = rws l2) (hl : smallL l1) :
    Calls Try.prog 28 #[.slice A1 l1.length c1, .slice A2 l2.length c2] w fun e w' => e = .returned (.bool true) ∧ Below w.heap.size w w' := by
  have hn : l2.length = l1.length := by
    have := congrArg List.length he
    simpa [rws] using this.symm
  have hel : ∀ k (h1 : k < l1.length) (h2 : k < l2.length), l2[k].zs = l1[k].zs := fun k h1 h2 => by
    have := congrArg (fun l : List (List Int) => l[k]?) he
    simp [rws, h1, h2] at this
    exact this.symm
  rw [hn]
  have HN := Lib.hid hn
  have HE := Lib.hid hel
  have H1 := Lib.hid hz1
  have H2 := Lib.hid hz2
  have hll := hl.1
  have HL := Lib.hid hl
  clear hn hel hz1 hz2 he hl
  go_enter Try.func28, Try.ntmps28
  go_wp2
  go_loopg [5] l1.length (fun gg s5 wx => ∃ k : Nat, k + gg = l1.length ∧ s5 = .int .i64 k ∧ Hid (Below w.heap.size w wx))
  case atStart => exact ⟨0, by omega, rfl, Below.refl _ _⟩
  case round =>
    obtain ⟨k, hkg, rfl, hBr⟩ := hrel
    cases gk with
    | zero =>
      have hkn : ¬ (k : Int) < l1.length := by omega
      go_wp2
      go_ret
      exact ⟨rfl, hBr.out⟩
    | succ gg =>
      have hk : k < l1.length := by omega
      have hk2 : k < l2.length := by rw [HN.out]; exact hk
      have hkz : (k : Int) < l1.length := by omega
      obtain ⟨a1, o1, hA1, hB1, hc1⟩ := H1.out.va (by rw [slvs_len]; omega)
      obtain ⟨a2, o2, hA2, hB2, hc2⟩ := H2.out.va (by rw [slvs_len]; omega)
      subst hA1 hA2
      have hy1 := hc1 k _ (slvs_at l1 k hk)
      have hy2 := hc2 k _ (slvs_at l2 k hk2)
      have hi1 := H1.out.each _ (List.getElem_mem hk)
      have hi2 := H2.out.each _ (List.getElem_mem hk2)
      have hee := HE.out k hk hk2
      have hyl := HL.out.2 _ (List.getElem_mem hk)
      generalize l1[k] = y1 at hy1 hi1 hee hyl
      generalize l2[k] = y2 at hy2 hi2 hee
      obtain ⟨yA, yc, ys⟩ := y1
      obtain ⟨zA, zc, zs⟩ := y2
      unfold slv at hy1 hy2
      simp only at hee hy1 hy2 hi1 hi2 hyl
      subst hee
      have hca1 : ∀ W : World, Below w.heap.size w W → W.cell? ⟨a1, o1 + k, none⟩ = some (.slice yA zs.length yc) := fun W hW => (hW.cell (p := ⟨a1, o1 + k, none⟩) (by simp; omega)).trans hy1
      have hca2 : ∀ W : World, Below w.heap.size w W → W.cell? ⟨a2, o2 + k, none⟩ = some (.slice zA zs.length zc) := fun W hW => (hW.cell (p := ⟨a2, o2 + k, none⟩) (by simp; omega)).trans hy2
      have HCA := Lib.hid (And.intro hca1 hca2)
      have HI := Lib.hid (And.intro hi1 hi2)
      have hs6 : RdC wr (fun _ => false) (fun _ => undef) wr.drew := ⟨(Below.refl _ _).drew, rfl⟩
      have HS6 := Lib.hid hs6
      have hws := hBr.out.size
      clear hc1 hc2 hy1 hy2 hi1 hi2 hca1 hca2 hs6
      go_wp2
      refine R6.wp_walk (C := RdC wr) 53 (by kernel_rfl) (by kernel_rfl) rfl ⟨HS6.out.bel, HS6.out.sz⟩ ?_
      simp only []
      repeat (first
        | (refine' R6.WalkR.det (fun _ => rfl) (fun D ρ W hK hC => ?_) ?_
           rotate_left
           · have hWW := hBr.out.trans (hC.bel.mono hws)
             have hca1 := HCA.out.1 W hWW
             have hca2 := HCA.out.2 W hWW
             clear hWW
             have HC := Lib.hid hC
             clear hC hK
             go_simp
             first
               | with_reducible exact ⟨rfl, HC.out.move⟩
               | fail
           simp only [Act.put, List.setIfInBounds_toArray, List.set_cons_succ, List.set_cons_zero]))
      refine R6.WalkR.nil (fun D ρ W hD' hC => ?_)
      have HB6 := Lib.hid (hBr.out.trans (hC.bel.mono hws))
      clear hC hD'
      go_wp2
      obtain ⟨wo, rfl⟩ : ∃ wo : World, wo = wr := ⟨_, rfl⟩
      go_loopg [6] zs.length (fun gh s6 wz => ∃ j : Nat, j + gh = zs.length ∧ s6 = .int .i64 j ∧ Hid (Below w.heap.size w wz))
      case atStart => exact ⟨0, by omega, rfl, HB6.out⟩
      case round =>
        obtain ⟨j, hjg, rfl, hBj⟩ := hrel
        have hcj1 := HCA.out.1 wr hBj.out
        cases gk with
        | zero =>
          have hjn : ¬ (j : Int) < zs.length := by omega
          go_wp2
          go_roundg gg
          case measure => omega
          case rel => exact ⟨k + 1, by omega, by go_num, hBj.out⟩
        | succ gh =>
          have hj : j < zs.length := by omega
          have hjz : (j : Int) < zs.length := by omega
          obtain ⟨d1, p1, hD1, hE1, hd1⟩ := HI.out.1 (by omega)
          obtain ⟨d2, p2, hD2, hE2, hd2⟩ := HI.out.2 (by omega)
          subst hD1 hD2
          have hx1 : ∀ W : World, Below w.heap.size w W → W.cell? ⟨d1, p1 + j, none⟩ = some (.int .i64 (zs[j]?.getD 0)) := fun W hW => (hW.cell (p := ⟨d1, p1 + j, none⟩) (by simp; omega)).trans (hd1 j hj)
          have hx2 : ∀ W : World, Below w.heap.size w W → W.cell? ⟨d2, p2 + j, none⟩ = some (.int .i64 (zs[j]?.getD 0)) := fun W hW => (hW.cell (p := ⟨d2, p2 + j, none⟩) (by simp; omega)).trans (hd2 j hj)
          generalize zs[j]?.getD 0 = x at hx1 hx2
          have HX := Lib.hid (And.intro hx1 hx2)
          have hs11 : RdC wr (fun _ => false) (fun _ => undef) wr.drew := ⟨(Below.refl _ _).drew, rfl⟩
          have HS11 := Lib.hid hs11
          have hwz := hBj.out.size
          clear hd1 hd2 hx1 hx2 hs11
          go_wp2
          refine R6.wp_walk (C := RdC wr) 53 (by kernel_rfl) (by kernel_rfl) rfl ⟨HS11.out.bel, HS11.out.sz⟩ ?_
          simp only []
          repeat (first
            | (refine' R6.WalkR.det (fun _ => rfl) (fun D ρ W hK hC => ?_) ?_
               rotate_left
               · have hWW := hBj.out.trans (hC.bel.mono hwz)
                 have hca1 := HCA.out.1 W hWW
                 have hca2 := HCA.out.2 W hWW
                 have hx1 := HX.out.1 W hWW
                 have hx2 := HX.out.2 W hWW
                 clear hWW
                 have HC := Lib.hid hC
                 clear hC hK
                 go_simp
                 first
                   | with_reducible exact ⟨rfl, HC.out.move⟩
                   | fail
               simp only [Act.put, List.setIfInBounds_toArray, List.set_cons_succ, List.set_cons_zero]))
          refine R6.WalkR.nil (fun D ρ W hD' hC => ?_)
          have HB11 := Lib.hid (hBj.out.trans (hC.bel.mono hwz))
          clear hC hD' hcj1
          go_wp2
          go_roundg gh
          case measure => omega
          case rel => exact ⟨j + 1, by omega, by go_num, HB11.out⟩

set_option maxRecDepth 100000 in
/-- The same batch is. -/
theorem same_any (t : Bt) (A1 A2 : Option Addr) (c1 c2 : Nat) (l1 l2 : List Sl) (B : Nat) (w : World) (hB : B ≤ w.heap.size) (hz1 : Rows w B A1 l1) (hz2 : Rows w B A2 l2) (he : rws l1 = rws l2) (hl : smallL l1) :
    Calls Try.prog 29 #[.agg (btcells t (.slice A1 l1.length c1)), .agg (btcells t (.slice A2 l2.length c2))] w fun e w' => e = .returned (.bool true) ∧ Below w.heap.size w w' := by
  have hc := fun W (hW : Below w.heap.size w W) => sameCells_any A1 A2 c1 c2 l1 l2 B W (Nat.le_trans hB hW.size) (hz1.below (hW.mono hB)) (hz2.below (hW.mono hB)) he hl
  have HC := Lib.hid hc
  clear hc hz1 hz2 he hl
  unfold btcells
  have hq := fun W => eqlSpan W t.lo t.hi
  have hgu := Try.guard26
  obtain ⟨w2, hw2⟩ : ∃ w2, (w.alloc (.cells #[.int .i64 t.water, .int .i64 t.borax, .slice A1 l1.length c1, .int .i64 t.lo, .int .i64 t.hi, .int .i64 t.need] 28)).alloc (.cells #[.int .i64 t.water, .int .i64 t.borax, .slice A2 l2.length c2, .int .i64 t.lo, .int .i64 t.hi, .int .i64 t.need] 28) = w2 := ⟨_, rfl⟩
  have hb2 : Below w.heap.size w w2 := by rw [← hw2]; exact (grow1 _ _).alloc (by simp) _
  have hs2 : w2.heap.size = w.heap.size + 2 := by rw [← hw2]; simp
  have hm1 : w2.heap[w.heap.size]? = some (.cells #[.int .i64 t.water, .int .i64 t.borax, .slice A1 l1.length c1, .int .i64 t.lo, .int .i64 t.hi, .int .i64 t.need] 28 (0, 0)) := by rw [← hw2]; exact alloc2_at0 _ _ _
  have hm2 : w2.heap[w.heap.size + 1]? = some (.cells #[.int .i64 t.water, .int .i64 t.borax, .slice A2 l2.length c2, .int .i64 t.lo, .int .i64 t.hi, .int .i64 t.need] 28 (0, 0)) := by rw [← hw2]; exact alloc2_at1 _ _ _
  have hc1 := fun i => cell_of_row w2 w.heap.size i _ _ _ hm1
  have hc2 := fun i => cell_of_row w2 (w.heap.size + 1) i _ _ _ hm2
  have H2 := Lib.hid (And.intro hb2 (And.intro hm1 (And.intro hm2 hs2)))
  clear hb2 hm1 hm2 hs2
  go_enter Try.func29, Try.ntmps29
  go_wp2_with
    (go_at_call 28
     refine (HC.out w2 H2.out.1).mono ?_
     rintro e w3 ⟨rfl, hB3⟩
     have hd1 := fun i => cell_of_row w3 w.heap.size i _ _ _ ((hB3.block _ (by have := H2.out.2.2.2; omega)).trans H2.out.2.1)
     have hd2 := fun i => cell_of_row w3 (w.heap.size + 1) i _ _ _ ((hB3.block _ (by have := H2.out.2.2.2; omega)).trans H2.out.2.2.1)
     have H3 := Lib.hid (H2.out.1.trans (hB3.mono H2.out.1.size))
     clear hB3 hc1 hc2)
  go_ret
  exact ⟨rfl, H3.out⟩

end Go.Proofs.Ytfampdiompjmeaa
