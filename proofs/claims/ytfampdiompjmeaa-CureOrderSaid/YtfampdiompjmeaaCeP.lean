/-
  The law CureRuns.
-/
import Derived.Test.YtfampdiompjmeaaCeO
namespace Go.Proofs.Ytfampdiompjmeaa
open Go.RowKit Go.Shelf
open R6 (done done_ne done_me upd_ne upd_me)

attribute [local go_sem] gives

/-- Lists of their own, whatever is in them. -/
def AnyR (W : World) (base : Nat) (ls : List Sl) : Prop := ∀ s ∈ ls, ∃ zs : List Int, zs.length = s.zs.length ∧ OwnI W base (slv s) zs
theorem OwnR.any {W : World} {base : Nat} {v : Value} {ls : List Sl} (h : OwnR W base v ls) : AnyR W base ls := fun s hs => ⟨s.zs, rfl, h.each s hs⟩
/-- A number is stored into one of them. -/
theorem AnyR.put {W : World} {base : Nat} {ls : List Sl} (h : AnyR W base ls) {s : Sl} (hs : s ∈ ls) {k : Nat} (hk : k < s.zs.length) :
    ∃ (g : Nat) (L : List Value), s.A = some ⟨g, 0, none⟩ ∧ base ≤ g ∧ W.heap[g]? = some (.cells L.toArray 3 (0, 0)) ∧ k < L.length ∧
      ∀ W' z, Put W W' g → W'.heap[g]? = some (.cells (L.set k (.int .i64 z)).toArray 3 (0, 0)) → AnyR W' base ls := by
  obtain ⟨zs, hzl, ho⟩ := h s hs
  rcases ho.2 with ⟨_, hn⟩ | ⟨g, cap, cur, hv, hb, hh, hn, hc, hsz, hcs⟩
  · omega
  · unfold slv at hv
    simp only [Value.slice.injEq] at hv
    have hn' : cur.toList.length = cap * 1 := by simpa using hsz
    refine ⟨g, cur.toList, hv.1, hb, by simpa using hh, by omega, fun W' z hp hm x hx => ?_⟩
    obtain ⟨ys, hyl, hy⟩ := h x hx
    rcases hy.2 with ⟨e1, e2⟩ | ⟨g', cap', cur', hv', hb', hh', hn2, hc', hsz', hcs'⟩
    · exact ⟨ys, hyl, hy.1, .inl ⟨e1, e2⟩⟩
    · by_cases e : g' = g
      · subst e
        rw [hh] at hh'
        simp only [Option.some.injEq, Obj.cells.injEq, and_true] at hh'
        subst hh'
        refine ⟨ys.set k z, by simpa using hyl, by simp [ints], .inr ⟨g', cap', (cur.toList.set k (.int .i64 z)).toArray, by rw [List.length_set]; exact hv', hb', hm, by rw [List.length_set]; exact hn2, hc', by simpa using hsz', ?_⟩⟩
        rw [List.toList_toArray, List.length_set, List.take_set, hcs']
        exact List.toArray_inj (by rw [← ints_set, List.setIfInBounds_toArray])
      · exact ⟨ys, hyl, hy.1, .inr ⟨g', cap', cur', hv', hb', (hp.other _ e).trans hh', hn2, hc', hsz', hcs'⟩⟩

/-- What lies where the law walks. -/
structure LawC (w : World) (t : Bt) (A : Option Addr) (cap : Nat) (l : List Sl) (Ao : Option Addr) (co : Nat) (lo : List Sl) (B7 n3 : Nat) (W : World) : Prop where
  bel : Below w.heap.size w W
  lb : n3 ≤ W.heap.size
  b3 : W.heap[w.heap.size]? = some (.cells (btcells t (.slice A l.length cap)) 28 (0, 0))
  b7 : W.heap[B7]? = some (.cells (btcells t (.slice Ao lo.length co)) 28 (0, 0))
  lt : w.heap.size < n3 ∧ B7 < n3
  own : Rows W n3 Ao lo
theorem LawC.next {w W W' : World} {t : Bt} {A : Option Addr} {cap : Nat} {l : List Sl} {Ao : Option Addr} {co : Nat} {lo : List Sl} {B7 n3 : Nat} (h : LawC w t A cap l Ao co lo B7 n3 W) (hB : Below n3 W W') : LawC w t A cap l Ao co lo B7 n3 W' :=
  ⟨h.bel.trans (below_low hB (by have := h.lt; omega)), Nat.le_trans h.lb hB.size, (hB.block _ h.lt.1).trans h.b3, (hB.block _ h.lt.2).trans h.b7, h.lt, h.own.below hB⟩
theorem LawC.grow {w W W' : World} {t : Bt} {A : Option Addr} {cap : Nat} {l : List Sl} {Ao : Option Addr} {co : Nat} {lo : List Sl} {B7 n3 : Nat} (h : LawC w t A cap l Ao co lo B7 n3 W) (hB : Grows W W') : LawC w t A cap l Ao co lo B7 n3 W' := h.next (below_low hB h.lb)

structure Law6 (w : World) (t : Bt) (A : Option Addr) (cap : Nat) (l : List Sl) (Ao : Option Addr) (co : Nat) (lo : List Sl) (B7 n3 n4 : Nat) (v1 : Value) (ls1 : List Sl) (v2 : Value) (ls2 : List Sl) (D : Nat → Bool) (σ : Nat → Value) (W : World) : Prop where
  law : LawC w t A cap l Ao co lo B7 n3 W
  p : OwnR W n3 v1 ls1
  q : OwnR W n4 v2 ls2
theorem Law6.move {w W : World} {t : Bt} {A : Option Addr} {cap : Nat} {l : List Sl} {Ao : Option Addr} {co : Nat} {lo : List Sl} {B7 n3 n4 : Nat} {v1 v2 : Value} {ls1 ls2 : List Sl} {D D' : Nat → Bool} {σ σ' : Nat → Value} (h : Law6 w t A cap l Ao co lo B7 n3 n4 v1 ls1 v2 ls2 D σ W) : Law6 w t A cap l Ao co lo B7 n3 n4 v1 ls1 v2 ls2 D' σ' W := ⟨h.law, h.p, h.q⟩
theorem Law6.next {w W W' : World} {t : Bt} {A : Option Addr} {cap : Nat} {l : List Sl} {Ao : Option Addr} {co : Nat} {lo : List Sl} {B7 n3 n4 : Nat} {v1 v2 : Value} {ls1 ls2 : List Sl} {D D' : Nat → Bool} {σ σ' : Nat → Value} (h : Law6 w t A cap l Ao co lo B7 n3 n4 v1 ls1 v2 ls2 D σ W) (hB : Grows W W') : Law6 w t A cap l Ao co lo B7 n3 n4 v1 ls1 v2 ls2 D' σ' W' := ⟨h.law.grow hB, h.p.grows hB, h.q.grows hB⟩

theorem great_small {l : List Sl} (h : greatB l = false) : smallL l := by
  simp only [greatB, Bool.or_eq_false_iff, decide_eq_false_iff_not, List.any_eq_false, decide_eq_true_eq] at h
  exact ⟨by omega, fun s hs => by have := h.2 s hs; omega⟩
theorem small_short {l : List Sl} (h : smallL l) : shortL l := ⟨by have := h.1; omega, fun s hs => by have := h.2 s hs; omega⟩
theorem small_of {l lo : List Sl} (h : smallL l) (he : rws lo = rws l) : smallL lo := by
  have hn : lo.length = l.length := by simpa [rws] using congrArg List.length he
  refine ⟨by rw [hn]; exact h.1, fun s hs => ?_⟩
  have : s.zs ∈ rws l := by rw [← he]; simp only [rws, List.mem_map]; exact ⟨s, hs, rfl⟩
  simp only [rws, List.mem_map] at this
  obtain ⟨x, hx, e⟩ := this
  rw [← e]
  exact h.2 x hx

set_option maxRecDepth 100000 in
set_option maxHeartbeats 8000000 in
theorem cureRuns_law (t : Bt) (A : Option Addr) (cap : Nat) (l : List Sl) (sp h : Int) (w : World) (hz : Rows w w.heap.size A l) (hll : l.length ≤ 9223372036854775807) (hl : ∀ s ∈ l, s.zs.length ≤ 9223372036854775807) :
    Calls Try.prog 4 #[.agg (btcells t (.slice A l.length cap)), .int .i64 sp, .int .i64 h] w fun e w' => e = .returned (.bool true) ∧ Below w.heap.size w w' := by
  have hgr := fun W (hW : Below w.heap.size w W) => great_any t A cap l w.heap.size W hW.size (hz.below hW) hll
  obtain ⟨w1, hw1⟩ : ∃ w1, w.alloc (.cells (btcells t (.slice A l.length cap)) 28) = w1 := ⟨_, rfl⟩
  have hb1 : Below w.heap.size w w1 := by rw [← hw1]; exact grow1 _ _
  have hs1 : w1.heap.size = w.heap.size + 1 := by rw [← hw1]; simp
  have hm1 : w1.heap[w.heap.size]? = some (.cells (btcells t (.slice A l.length cap)) 28 (0, 0)) := by rw [← hw1]; exact alloc_at0 _ _
  have hc1 := fun i => cell_of_row w1 w.heap.size i _ _ _ hm1
  have H1 := Lib.hid (And.intro hb1 (And.intro hm1 hs1))
  clear hb1 hs1 hm1
  cases hg : greatB l with
  | true =>
    rw [hg] at hgr
    have HGR := Lib.hid hgr
    clear hgr hg hz hl hll
    unfold btcells at hw1 hc1 HGR ⊢
    go_enter Try.func4, Try.ntmps4
    go_wp2_with (go_at_call 24; refine (HGR.out w1 H1.out.1).mono ?_; rintro e w2 ⟨rfl, hB2⟩; have H2 := Lib.hid (H1.out.1.trans (hB2.mono H1.out.1.size)); clear hB2)
    go_ret
    exact ⟨rfl, H2.out⟩
  | false =>
    rw [hg] at hgr
    have hsm := great_small hg
    have hsh := small_short hsm
    have htw := fun W (hW : Below w.heap.size w W) => twin_any t A cap l w.heap.size W hW.size (hz.below hW) hsm
    unfold TwinPost at htw
    have hru := fun Ao co lo n W (hn : n ≤ W.heap.size) (hR : Rows W n Ao lo) (he : rws lo = rws l) => by
      have := run_any t Ao co lo sp h n W hn hR (small_short (small_of hsm he))
      rw [he] at this
      exact this
    have hrr := fun W (hW : Below w.heap.size w W) => refRun_any t A cap l sp h w.heap.size W hW.size (hz.below hW) hl
    have hck := fun Ao co lo n W (hn : n ≤ W.heap.size) (hR : Rows W n Ao lo) (he : rws lo = rws l) => by
      have := check_any t Ao co lo n W hn hR (small_short (small_of hsm he))
      rw [he] at this
      exact this
    have hrc := fun W (hW : Below w.heap.size w W) => refCheck_any t A cap l w.heap.size W hW.size (hz.below hW) hl
    have hsa := fun Ao co lo n W (hn : n ≤ W.heap.size) (hR : Rows W n Ao lo) (he : rws lo = rws l) (hb : w.heap.size ≤ n) (hW : Below w.heap.size w W) => same_any t Ao A co cap lo l n W hn hR ((hz.below hW).mono hb) he (small_of hsm he)
    unfold RunPost at hru hrr
    have hrs : ∀ ls : List Sl, rws ls = runR t (rws l) sp h → smallL ls := fun ls he => by
      by_cases hE : runE t (rws l) sp h = 0
      · have hb : okBatch t (rws l) = true := by
          cases hb : okBatch t (rws l) with
          | true => rfl
          | false => simp [runE, hb] at hE
        obtain ⟨hgd, -⟩ := okBatch_good hb
        have hln := lens_run t.water sp (t.borax, rws l) h.toNat
        have hrr : runR t (rws l) sp h = (runS t.water sp (t.borax, rws l) h.toNat).2 := by simp [runR, hE]
        rw [← hrr, ← he] at hln
        have hln2 : lens (rws ls) = lens (rws l) := hln
        have hn := lens_len hln2
        refine ⟨by have := hgd.n4; simp only at this; have e : ls.length = (rws ls).length := (by simp [rws]); omega, fun s hs => ?_⟩
        have hmem : s.zs.length ∈ lens (rws l) := by
          rw [← hln2]
          simp only [lens, rws, List.map_map, List.mem_map]
          exact ⟨s, hs, rfl⟩
        simp only [lens, List.mem_map] at hmem
        obtain ⟨r, hr, er⟩ := hmem
        have := (hgd.rows r hr).l6
        omega
      · have hr0 : runR t (rws l) sp h = [] := by simp [runR, hE]
        rw [hr0] at he
        have hnil : ls = [] := by simpa [rws] using he
        rw [hnil]
        exact ⟨by simp, fun s hs => by cases hs⟩
    generalize runB t (rws l) sp h = RB at hru hrr
    generalize runE t (rws l) sp h = RE at hru hrr
    generalize checkE t (rws l) = CE at hck hrc
    have HF := Lib.hid (And.intro hgr (And.intro htw (And.intro hru (And.intro hrr (And.intro hck (And.intro hrc hsa))))))
    have HRS := Lib.hid hrs
    clear hgr htw hru hrr hck hrc hsa hrs hsm hsh hg hz hl hll
    unfold btcells at hw1 hc1 HF ⊢
    go_enter Try.func4, Try.ntmps4
    go_wp2_with (first
      | (go_at_call 24; refine (HF.out.1 w1 H1.out.1).mono ?_; rintro e w2 ⟨rfl, hB2⟩
         have hm2 := (hB2.block _ (by have := H1.out.2.2; omega)).trans H1.out.2.1
         have hc2 := fun i => cell_of_row w2 w.heap.size i _ _ _ hm2
         unfold btcells at hc2
         have H2 := Lib.hid (And.intro (H1.out.1.trans (hB2.mono H1.out.1.size)) (And.intro hm2 (show w.heap.size + 1 ≤ w2.heap.size by have := hB2.size; have := H1.out.2.2; omega)))
         clear hB2 hm2 hc1)
      | (go_at_call 25; refine (HF.out.2.1 w2 H2.out.1).mono ?_; rintro e w3 ⟨Ao, co, lo, rfl, he, hO, hB3⟩
         have H3 := Lib.hid (And.intro he (And.intro hO hB3))
         have hs3 := hB3.size
         clear he hO hB3)
      | (show wpList _ _ _ (Oper.mk none (Op.store _ (Operand.tmp 7) (Operand.tmp 20)) _ _ _ _ :: _) _ _
         refine wpList_store_blk 28 (.tmp 7) (.tmp 20) (cs := btl t (.slice Ao lo.length co)) (L := [.int .i64 0, .int .i64 0, .slice none 0 0, .int .i64 0, .int .i64 0, .int .i64 0]) rfl rfl rfl rfl rfl (alloc_at0 w3 _) (by simp [btl]) (btl_one _ _ _ _) rowApiBatch ?_
         intro w4 hP4 hM4
         rw [splice_whole (by simp [btl])] at hM4
         have hb34 : Below w3.heap.size w3 w4 := (grow1 w3 _).trans (hP4.below (Nat.le_refl _))
         have hs4 : w4.heap.size = w3.heap.size + 1 := by rw [hP4.size]; simp
         have hlaw : LawC w t A cap l Ao co lo w3.heap.size w4.heap.size w4 :=
           ⟨H2.out.1.trans ((H3.out.2.2.mono H2.out.1.size).trans (hb34.mono (Nat.le_trans H2.out.1.size hs3))), Nat.le_refl _, (hb34.block _ (by have := H2.out.2.2; omega)).trans ((H3.out.2.2.block _ (by have := H2.out.2.2; omega)).trans H2.out.2.1), hM4, by have := H2.out.2.2; omega, (H3.out.2.1.grows hb34).rows⟩
         have hc4 := fun i => cell_of_row w4 w3.heap.size i _ _ _ hM4
         unfold btl at hc4
         have H4 := Lib.hid hlaw
         clear hP4 hM4 hb34 hs4 hlaw hs3 hc2)
      | (go_at_call 17; refine (HF.out.2.2.1 Ao co lo w4.heap.size w4 (Nat.le_refl _) H4.out.own H3.out.1).mono ?_; rintro e w5 ⟨A5, c5, ls5, rfl, hr5, hO5, hB5⟩
         have hl5 := H4.out.next hB5
         have hc5 := fun i => cell_of_row w5 w.heap.size i _ _ _ hl5.b3
         unfold btcells at hc5
         have H5 := Lib.hid (And.intro hl5 (And.intro hr5 hO5))
         clear hl5 hr5 hO5 hB5 hc4)
      | (go_at_call 26; refine (HF.out.2.2.2.1 w5 H5.out.1.bel).mono ?_; rintro e w6 ⟨A6, c6, ls6, rfl, hr6, hO6, hB6⟩
         have H6 := Lib.hid (And.intro (H5.out.1.grow hB6) (And.intro (H5.out.2.2.grows hB6) (And.intro hr6 hO6)))
         clear hr6 hO6 hB6 hc5))
    have hs6 : Law6 w t A cap l Ao co lo w3.heap.size w4.heap.size w5.heap.size (.slice A5 ls5.length c5) ls5 (.slice A6 ls6.length c6) ls6 (fun _ => false) (fun _ => undef) w6.drew :=
      ⟨⟨H6.out.1.bel.drew, H6.out.1.lb, H6.out.1.b3, H6.out.1.b7, H6.out.1.lt, H6.out.1.own.same (fun _ _ => rfl)⟩, ⟨H6.out.2.1.row, H6.out.2.1.each⟩, ⟨H6.out.2.2.2.row, H6.out.2.2.2.each⟩⟩
    have HS6 := Lib.hid hs6
    have HPQ := Lib.hid (And.intro (H5.out.2.1.trans H6.out.2.2.1.symm) (HRS.out ls5 H5.out.2.1))
    clear hs6
    refine R6.wp_walk (C := Law6 w t A cap l Ao co lo w3.heap.size w4.heap.size w5.heap.size (.slice A5 ls5.length c5) ls5 (.slice A6 ls6.length c6) ls6) 84 (by kernel_rfl) (by kernel_rfl) rfl ⟨HS6.out.law, HS6.out.p, HS6.out.q⟩ ?_
    simp only []
    repeat (first
      | (refine' R6.WalkR.det (fun _ => rfl) (fun D ρ W hK hC => ?_) ?_
         rotate_left
         · have hcb3 := fun i => cell_of_row W w.heap.size i _ _ _ hC.law.b3
           have hcb7 := fun i => cell_of_row W w3.heap.size i _ _ _ hC.law.b7
           unfold btcells at hcb3 hcb7
           have HC := Lib.hid hC
           clear hC hK
           go_simp
           first
             | with_reducible exact ⟨rfl, HC.out.move⟩
             | (go_at_call 23; refine (HF.out.2.2.2.2.1 Ao co lo w4.heap.size W HC.out.law.lb HC.out.law.own H3.out.1).mono ?_; rintro e W1 ⟨rfl, hB1⟩; exact ⟨_, rfl, rfl, HC.out.next hB1⟩)
             | (go_at_call 27; refine (HF.out.2.2.2.2.2.1 W HC.out.law.bel).mono ?_; rintro e W1 ⟨rfl, hB1⟩; exact ⟨_, rfl, rfl, HC.out.next hB1⟩)
             | (go_at_call 28; refine (sameCells_any A5 A6 c5 c6 ls5 ls6 W.heap.size W (Nat.le_refl _) HC.out.p.rows HC.out.q.rows HPQ.out.1 HPQ.out.2).mono ?_; rintro e W1 ⟨rfl, hB1⟩; exact ⟨_, rfl, rfl, HC.out.next hB1⟩)
         simp only [Act.put, List.setIfInBounds_toArray, List.set_cons_succ, List.set_cons_zero]))
    refine R6.WalkR.nil (fun D ρ w7 hD' hC => ?_)
    have H7 := Lib.hid (And.intro hC.law (And.intro hC.p.row hC.p.any))
    have hll := HPQ.out.2.1
    have HLL := Lib.hid HPQ.out.2.2
    clear hC hD'
    go_wp2
    go_loopg [59] ls5.length (fun gg s59 wx => ∃ k : Nat, k + gg = ls5.length ∧ s59 = .int .i64 k ∧ Hid (LawC w t A cap l Ao co lo w3.heap.size w4.heap.size wx) ∧ Hid (wx.ownsRow w4.heap.size 47 1 (.slice A5 ls5.length c5) ls5.length (slvs ls5)) ∧ Hid (AnyR wx w4.heap.size ls5))
    case atStart => exact ⟨0, by omega, rfl, H7.out.1, H7.out.2.1, H7.out.2.2⟩
    case round =>
      obtain ⟨k, hkg, rfl, hL, hO, hA⟩ := hrel
      cases gk with
      | zero =>
        have hkn : ¬ (k : Int) < ls5.length := by omega
        have hc3 := fun i => cell_of_row wr w.heap.size i _ _ _ hL.out.b3
        have hc7 := fun i => cell_of_row wr w3.heap.size i _ _ _ hL.out.b7
        unfold btcells at hc3 hc7
        go_wp2_with
          (go_at_call 29
           refine (HF.out.2.2.2.2.2.2 Ao co lo w4.heap.size wr hL.out.lb hL.out.own H3.out.1 (by have := hL.out.lt; omega) hL.out.bel).mono ?_
           rintro e w9 ⟨rfl, hB9⟩
           have H9 := Lib.hid (hL.out.grow hB9).bel
           clear hB9 hc3 hc7)
        go_ret
        exact ⟨rfl, H9.out⟩
      | succ gg =>
        have hk : k < ls5.length := by omega
        have hkz : (k : Int) < ls5.length := by omega
        obtain ⟨ab, off, hA5, hcB, hc⟩ := (Vals.own hO.out) (by rw [slvs_len]; omega)
        have hyA := hc k _ (slvs_at ls5 k hk)
        have hmem := List.getElem_mem hk
        have hyl := HLL.out _ hmem
        generalize hyE : ls5[k] = y at hyA hmem hyl
        obtain ⟨yA, yc, ys⟩ := y
        have HYE := Lib.hid hyE
        clear hyE
        unfold slv at hyA
        simp only at hyA hyl
        subst hA5
        have HM := Lib.hid hmem
        have HLt := Lib.hid hk
        clear hc hmem hcB
        go_wp2
        obtain ⟨wo, rfl⟩ : ∃ wo : World, wo = wr := ⟨_, rfl⟩
        go_loopg [67] ys.length (fun gh s67 wx => ∃ j : Nat, j + gh = ys.length ∧ s67 = .int .i64 j ∧ Hid (LawC w t A cap l Ao co lo w3.heap.size w4.heap.size wx) ∧ Hid (wx.ownsRow w4.heap.size 47 1 (.slice (some ⟨ab, off, none⟩) ls5.length c5) ls5.length (slvs ls5)) ∧ Hid (AnyR wx w4.heap.size ls5))
        case atStart => exact ⟨0, by omega, rfl, hL.out, hO.out, hA.out⟩
        case round =>
          obtain ⟨j, hjg, rfl, hLj, hOj, hAj⟩ := hrel
          clear hyA
          cases gk with
          | zero =>
            have hjn : ¬ (j : Int) < ys.length := by omega
            go_wp2
            go_roundg gg
            case measure => omega
            case rel => exact ⟨k + 1, by omega, by go_num, hLj.out, hOj.out, hAj.out⟩
          | succ gh =>
            have hj : j < ys.length := by omega
            have hjz : (j : Int) < ys.length := by omega
            obtain ⟨ab', off', e', hcB, hc⟩ := (Vals.own hOj.out) (by rw [slvs_len]; omega)
            simp only [Option.some.injEq, Addr.mk.injEq, and_true] at e'
            obtain ⟨rfl, rfl⟩ := e'
            have hyA := hc k _ (slvs_at ls5 k HLt.out)
            obtain ⟨g, L, hgA, hgb, hgh, hgk, hput⟩ := hAj.out.put HM.out (k := j) hj
            simp only at hgA
            subst hgA
            rw [HYE.out] at hyA
            unfold slv at hyA
            simp only at hyA
            have HP := Lib.hid (And.intro hgb (And.intro hgh (And.intro hgk hput)))
            clear hc hcB hgb hgh hgk hput
            go_wp2_with
              (show wpList _ _ _ (Oper.mk none (Op.store _ (Operand.tmp 75) _) _ _ _ _ :: _) _ _
               refine wpList_store_one 3 (.tmp 75) (.const (.int .i64 (-7))) rfl rfl rfl rfl rfl HP.out.2.1 HP.out.2.2.1 sizeInt1 ?_
               intro w8 hP8 hM8
               have hA8 := HP.out.2.2.2 w8 _ hP8 hM8
               have hO8 := own_turn hOj.out hP8.grown (fun b cur t fr hb hh => by
                 injection hb with hb
                 subst hb
                 rw [HP.out.2.1] at hh
                 simp only [Option.some.injEq, Obj.cells.injEq] at hh
                 rw [← hh.2.1]
                 decide)
               have H8 := Lib.hid (And.intro (hLj.out.next (hP8.below HP.out.1)) (And.intro hO8 hA8))
               clear hP8 hM8 hA8 hO8 hyA)
            go_roundg gh
            case measure => omega
            case rel => exact ⟨j + 1, by omega, by go_num, H8.out.1, H8.out.2.1, H8.out.2.2⟩

end Go.Proofs.Ytfampdiompjmeaa
