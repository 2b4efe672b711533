/-
  The program's iterator over a book.
-/
import Derived.Test.YtkjdapgkojfbmaaBlk
import Derived.Test.YtkjdapgkojfbmaaRecM
import Derived.Test.YtkjdapgkojfbmaaLeafF
import Derived.Test.YtkjdapgkojfbmaaLeafB
import Derived.Laws.CopyOwn
import Derived.Deep.RegionLaw
import Derived.TacticsInMore
import Derived.LoopNIn
import Derived.LoopIn
namespace Go.Proofs.Ytkjdapgkojfbmaa
open Go.RowKit

attribute [local go_sem] Oper.semAt_some

theorem ints_append (a b : List Int) : ints (a ++ b) = ints a ++ ints b := by simp [ints]
theorem splice_start {g : Gr} (h : g.start.length ≤ 7) : splice (hcells g.hab ++ ints zero7) 6 (ints g.start) = hcells g.hab ++ ints (start7 g) := by
  have e : ints zero7 = List.replicate 7 (.int .i64 0) := rfl
  have e2 : (hcells g.hab).length = 6 := rfl
  have e3 : (ints g.start).length = g.start.length := by simp [ints]
  simp only [splice, start7, ints_append, e]
  rw [List.take_append_of_le_length (by omega), List.take_of_length_le (by omega), List.drop_append, List.drop_of_length_le (by omega), e3]
  simp [e2, ints, show 6 + g.start.length - 6 = g.start.length by omega]
  show List.drop g.start.length (List.replicate 7 (Value.int .i64 0)) = _
  rw [List.drop_replicate]

/-- Where a round of the iterator is: all that is the caller's lies as it lay in wr; block S holds the season, block M the grove. -/
structure RS (B : Nat) (wr : World) (S : Nat) (sc : Array Value) (M : Nat) (mc : Array Value) (w : World) : Prop where
  bel : Below B wr w
  lt : wr.heap.size < w.heap.size
  hS : w.heap[S]? = some (.cells sc 76 (0, 0))
  hM : w.heap[M]? = some (.cells mc 96 (0, 0))

theorem RS.next {B : Nat} {wr : World} {S M : Nat} {sc mc : Array Value} {w w' : World} (h : RS B wr S sc M mc w) (hB : B ≤ wr.heap.size) (hw : Below w.heap.size w w') : RS B wr S sc M mc w' :=
  ⟨h.bel.trans (hw.mono (Nat.le_trans hB (Nat.le_of_lt h.lt))), Nat.lt_of_lt_of_le h.lt hw.size, (hw.block _ (Array.getElem?_eq_some_iff.1 h.hS).1).trans h.hS, (hw.block _ (Array.getElem?_eq_some_iff.1 h.hM).1).trans h.hM⟩
theorem RS.put {B : Nat} {wr : World} {S M : Nat} {sc mc mc' : Array Value} {w w' : World} (h : RS B wr S sc M mc w) (hB : B ≤ M) (hne : S ≠ M) (hp : Put w w' M) (hm : w'.heap[M]? = some (.cells mc' 96 (0, 0))) : RS B wr S sc M mc' w' :=
  ⟨h.bel.trans (hp.below hB), by rw [hp.size]; exact h.lt, (hp.other _ hne).trans h.hS, hm⟩
theorem RS.far {B : Nat} {wr : World} {S M b : Nat} {sc mc : Array Value} {w w' : World} (h : RS B wr S sc M mc w) (hB : B ≤ b) (h1 : S ≠ b) (h2 : M ≠ b) (hp : Put w w' b) : RS B wr S sc M mc w' :=
  ⟨h.bel.trans (hp.below hB), by rw [hp.size]; exact h.lt, (hp.other _ h1).trans h.hS, (hp.other _ h2).trans h.hM⟩

/-- Of what a round may turn and the iterator does itself: neither what lay below n₀ nor the block it has captured. -/
def OwnY (n₀ Bg : Nat) : Nat → Prop := fun j => n₀ ≤ j ∧ j ≠ Bg

set_option maxRecDepth 100000 in
set_option maxHeartbeats 4000000 in
theorem records1 (g : Gr) (A1 : Option Addr) (c1 : Nat) (A2 : Option Addr) (c2 : Nat) (d r : Nat) (hf : Fine g d r) (n n₀ Bg : Nat) (hn : 1 ≤ n) (w : World) (hn₀ : n₀ ≤ w.heap.size) (hBg : Bg < w.heap.size) (hG : GrAt w n₀ g A1 c1 A2 c2)
    (hbox : w.heap[Bg]? = some (.cells #[.int .i64 g.id, .int .i64 g.hab.lo, .int .i64 g.hab.hi, .int .i64 g.hab.bears, .int .i64 g.hab.ripe, .int .i64 g.hab.dies, .int .i64 g.hab.keep, .int .i64 g.first, .slice A1 g.start.length c1, .slice A2 g.seas.length c2] 29 (0, 0))) :
    SeqX Fence.wide n Try.prog 74 #[.pointer (some ⟨Bg, 0, none⟩)] (rowsP g d r) n₀ Bg w := by
  intro l X J Jx W hW hX hJ hJx hY h0
  have hGW := hG.below (hW.mono hn₀)
  have hbW : W.heap[Bg]? = _ := (hW.block _ hBg).trans hbox
  have hBgW : Bg < W.heap.size := Nat.lt_of_lt_of_le hBg hW.size
  have hnW : n₀ ≤ W.heap.size := Nat.le_trans hn₀ hW.size
  have hst : g.start.length = d + 1 := hf.st
  have hd6 := hf.d6
  have hl1 := hG.len1
  have hsp := splice_start (g := g) (by omega)
  have HF := Lib.hid hf
  have HY := Lib.hid hY
  have HJ := Lib.hid (And.intro hJ (And.intro hJx h0))
  have HG := Lib.hid hGW
  have HX := Lib.hid hX
  have HSP := Lib.hid hsp
  clear hf hY hJ hJx h0 hGW hX hG hbox hsp hW
  refine callsIn_of_wp Try.func74 rfl trivial ?_ rfl
  simp only [Try.ntmps74, List.size_toArray, List.length_cons, List.length_nil, Nat.reduceAdd, Nat.reduceSub, Array.replicate_succ, Array.replicate_zero, List.push_toArray, List.append_toArray, List.nil_append, List.cons_append]
  have hcell := fun i => cell_of_row W Bg i _ _ _ hbW
  gi_wp2_with fail
  obtain ⟨W0, hW0⟩ : ∃ W0, W.alloc (.cells #[.int .i64 g.hab.lo, .int .i64 g.hab.hi, .int .i64 g.hab.bears, .int .i64 g.hab.ripe, .int .i64 g.hab.dies, .int .i64 g.hab.keep, .int .i64 0, .int .i64 0, .int .i64 0, .int .i64 0, .int .i64 0, .int .i64 0, .int .i64 0] 96) = W0 := ⟨_, rfl⟩
  rw [hW0]
  have hb0 : Below W.heap.size W W0 := by rw [← hW0]; exact (Below.refl _ _).alloc (Nat.le_refl _) _
  have hs0 : W0.heap.size = W.heap.size + 1 := by rw [← hW0]; simp
  have hM0 : W0.heap[W.heap.size]? = some (.cells (hcells g.hab ++ ints zero7).toArray 96 (0, 0)) := by rw [← hW0]; exact alloc_at0 W _
  have hcell0 : ∀ i, W0.cell? ⟨Bg, i, none⟩ = _ := fun i => cell_of_row W0 Bg i _ _ _ ((hb0.block Bg hBgW).trans hbW)
  have hI0 := Lib.hid (HG.out.st.below (hb0.mono hnW))
  have H0 := Lib.hid (And.intro hb0 (And.intro hM0 hW0))
  have HB := Lib.hid hbW
  clear hb0 hM0 hW0 hcell hbW
  refine wpIn_wide.2 ?_
  go_cut [12, 13, 14, 15, 16] (fun s12 s13 s14 s15 s16 wx => Hid (Below W.heap.size W0 wx) ∧ Hid (wx.heap[W.heap.size]? = some (.cells (gcells g.hab (start7 g)) 96 (0, 0))))
  case first =>
    go_region_law
      ((refine step_copy_splice rfl (.tmp 13) (.tmp 15) 26 26 rfl 3 Try.underlying26 (by kernel_rfl) _ _ _ _ _ _ rfl rfl W.heap.size 6 (hcells g.hab ++ ints zero7) 96 (H0.out.2.1) (ints g.start) ?hn ?hpos ?hfit (oneCells_ints _) W.heap.size W0 ?hbe (Nat.le_refl _) ?_
        case hn =>
          simp only [ints, List.length_map]
          change _ = min _ _
          omega
        case hpos =>
          intro hp
          refine ⟨rfl, ?_⟩
          obtain ⟨b, off, hA, hlt, hc⟩ := hI0.out (by simpa [ints] using hp)
          refine ⟨⟨b, off, none⟩, hA, fun j v hj => ?_⟩
          rw [Addr.add_mid]
          have hj' : j < g.start.length := by have := (List.getElem?_eq_some_iff.1 hj).1; simpa [ints] using this
          refine (hc j hj').trans ?_
          rw [← hj]
          simp [ints, hj']
        case hfit => simp [hcells, ints, zero7]; omega
        case hbe => repeat (first | exact Below.refl _ _ | refine Below.drew ?_)
        intro w4 hg4 hb4))
    all_goals
      go_wp2_with fail
      go_meet
      exact ⟨hb4, by have := hg4.out; rw [HSP.out] at this; exact this⟩
  obtain ⟨hbc, hMc⟩ := hcut
  have hlen := start7_len (g := g) (by omega)
  have hrow0 : rowP g d r 0 = #[.int .i64 g.first, recV (0, 0) 0 zero7 (start7 g)] := by simp [rowP, recK]
  have hy0 := HY.out 0 _ wc (rowsP_at (Nat.zero_le _)) (HJ.out.1 0 _ _ HJ.out.2.2 (H0.out.1.trans hbc.out)) (Nat.le_trans H0.out.1.size hbc.out.size)
  rw [hrow0] at hy0
  have hMc' := hMc.out
  obtain ⟨e0, e1, e2, e3, e4, e5, e6, he⟩ := len7 hlen
  rw [he] at hy0 hMc'
  have hcM := fun i => cell_of_row wc W.heap.size i _ _ _ hMc'
  simp only [gcells, hcells, ints, List.map_cons, List.map_nil, List.cons_append, List.nil_append] at hcM
  simp only [recV, recC, zero7, ints, List.map_cons, List.map_nil, List.cons_append, List.nil_append] at hy0
  have hbB := (hbc.out.block Bg (by omega)).trans ((H0.out.1.block Bg hBgW).trans HB.out)
  have hcellc : ∀ i, wc.cell? ⟨Bg, i, none⟩ = _ := fun i => cell_of_row wc Bg i _ _ _ hbB
  have hsc : W.heap.size < wc.heap.size := by have := hbc.out.size; omega
  have Hy0 := Lib.hid hy0
  have He := Lib.hid he
  have HbB := Lib.hid hbB
  clear hcell0 hy0 hrow0 hMc' he hlen hbB
  gi_wp2_with
    (show wpListIn _ _ _ _ _ (Oper.mk (some 23) _ _ _ _ _ :: _) _ _
     refine wpListIn_yield (.tmp 17) #[.tmp 19, .tmp 22] #[3, 83] ?hgd ?ho ?hF hn (l := l) ?hf ?hvs Hy0.out ?_
     case hgd => rfl
     case ho => rfl
     case hF => exact fun _ => trivial
     case hf => rfl
     case hvs => simp [Act.eval]
     rintro e w5 (⟨rfl, hJ5, hK5⟩ | ⟨rfl, hx5⟩)
     refine ⟨_, rfl, ?_⟩
     have hb5 := (hK5.same Bg (by omega) (fun h => (HX.out _ h).2.1 rfl)).trans HbB.out
     have hcell5 : ∀ i, w5.cell? ⟨Bg, i, none⟩ = _ := fun i => cell_of_row w5 Bg i _ _ _ hb5
     have H5 := Lib.hid (And.intro hJ5 hK5)
     clear hb5 hJ5 hK5 hcellc hcM
     rotate_left
     refine ⟨_, rfl, ?_⟩
     have H5 := Lib.hid hx5
     clear hx5 hcellc hcM
     rotate_right)
  rotate_left
  · refine bodyPost_ret (results_none rfl _ _ _) rfl ?_
    exact ⟨⟨_, rfl⟩, .inr ⟨0, by rw [rowsP_len]; omega, H5.out⟩⟩
  have H5K := Lib.hid ((⟨Nat.le_trans H0.out.1.size hbc.out.size, fun j hj hx => (hbc.out.block j (by omega)).trans (H0.out.1.block j hj)⟩ : KeepsX (OwnY n₀ Bg) W wc).trans (H5.out.2.more (fun j hj => ⟨(HX.out j hj).1, (HX.out j hj).2.1⟩)))
  have H5M := Lib.hid ((H5.out.2.same W.heap.size hsc (fun h => by have := (HX.out _ h).2.2; omega)).trans hMc.out)
  have H5J := Lib.hid H5.out.1
  clear H5 Hy0
  gi_loopw [28] (fun i wr => ∃ k : Nat, k ≤ g.seas.length ∧ i = .int .i64 k ∧ Hid (J (k + 1) wr) ∧ Hid (KeepsX (OwnY n₀ Bg) W wr) ∧ Hid (wr.heap[W.heap.size]? = some (.cells (gcells g.hab (stateP d r (start7 g) g.seas k)) 96 (0, 0))))
    (fun i _ => g.seas.length - (intOf i).toNat)
  case atStart => exact ⟨0, Nat.zero_le _, rfl, H5J.out, H5K.out, H5M.out⟩
  case round =>
    obtain ⟨k, hk, rfl, hJk, hKk, hMk⟩ := hrel
    by_cases hlt : k < g.seas.length
    · obtain ⟨b, off, hA, hbB, hcs⟩ := HG.out.se (by rw [pairs_len]; omega)
      subst hA
      have hpa := pairs_at g.seas k hlt
      have hblk : wr.heap[b]? = W.heap[b]? := hKk.out.same b (by omega) (fun h => by have := h.1; omega)
      have hc0 : wr.cell? ⟨b, off + k * 2, none⟩ = _ := (World.cell?_of_block (w := W) hblk).trans (hcs _ _ hpa.1)
      have hc1 : wr.cell? ⟨b, off + k * 2 + 1, none⟩ = _ := (World.cell?_of_block (w := W) hblk).trans (hcs _ _ hpa.2)
      have hsr := seasR_at HF.out.se hlt
      have hrow := rowsP_at (g := g) (d := d) (r := r) (show k + 1 ≤ g.seas.length by omega)
      have hrk : rowP g d r (k + 1) = #[.int .i64 (g.first + 1 + k), recV (g.seas[k]?.getD (0, 0)) (ripeP d r (stateP d r (start7 g) g.seas k) (g.seas[k]?.getD (0, 0))) (goneP d r (stateP d r (start7 g) g.seas k) (g.seas[k]?.getD (0, 0))) (stepP d r (stateP d r (start7 g) g.seas k) (g.seas[k]?.getD (0, 0)))] := by
        rw [← stateP_succ hlt]
        simp only [rowP, recK]
        congr 3
        omega
      have hnext := stateP_succ (d := d) (r := r) (c := start7 g) hlt
      have hlenc := stateP_len (d := d) (r := r) (c := start7 g) (ss := g.seas) hd6 (start7_len (by omega)) k hk
      have hbndc := stateP_bnd (d := d) (r := r) (c := start7 g) (ss := g.seas) HF.out.r1 HF.out.rd hd6 (start7_len (by omega)) (start7_bnd HF.out.sb) HF.out.se k hk
      generalize hx : g.seas[k]?.getD (0, 0) = x at hc0 hc1 hsr hrk hnext
      generalize hcE : stateP d r (start7 g) g.seas k = c at hrk hnext hlenc hbndc hMk
      obtain ⟨s, q⟩ := x
      simp only at hc0 hc1 hsr
      have hL := fun W' => later_any g.hab d HF.out.hd hd6 c hlenc s W'
      have hLl := laterP_len s hd6 hlenc
      have hLb := laterP_bnd (d := d) (M := 30) hbndc hsr.1.1 hsr.1.2
      have hR := fun W' => ripe_any g.hab r HF.out.hr (by have := HF.out.rd; omega) (laterP d c s) hLl (fun k hk => by have := hLb k hk; omega) W'
      have hC := fun W' => cut_any g.hab d r HF.out.hd HF.out.hr HF.out.r1 HF.out.rd hd6 (laterP d c s) hLl 30 (by omega) hLb q hsr.2.1 hsr.2.2 W'
      have hSl := stepP_len (d := d) (r := r) (c := c) (p := (s, q)) hd6 hlenc
      have e1 : (cutTo (laterP d c s) q d (d - r + 1)).1 = stepP d r c (s, q) := rfl
      have e2 : (cutTo (laterP d c s) q d (d - r + 1)).2.1 = goneP d r c (s, q) := rfl
      have e3 : ((laterP d c s).drop r).sum = ripeP d r c (s, q) := rfl
      rw [e1, e2] at hC
      rw [e3] at hR
      generalize stepP d r c (s, q) = f at hC hSl hrk hnext
      generalize goneP d r c (s, q) = gn at hC hSl hrk
      generalize ripeP d r c (s, q) = rp at hR hrk
      generalize laterP d c s = la at hL hLl hR hC
      obtain ⟨c0, c1', c2', c3, c4, c5, c6, rfl⟩ := len7 hlenc
      obtain ⟨l0, l1, l2, l3, l4, l5, l6, rfl⟩ := len7 hLl
      obtain ⟨f0, f1, f2, f3, f4, f5, f6, rfl⟩ := len7 hSl.1
      obtain ⟨t0, t1, t2, t3, t4, t5, t6, rfl⟩ := len7 hSl.2
      have hgv : ∀ x0 x1 x2 x3 x4 x5 x6 : Int, gv g.hab [x0, x1, x2, x3, x4, x5, x6] = .agg #[.int .i64 g.hab.lo, .int .i64 g.hab.hi, .int .i64 g.hab.bears, .int .i64 g.hab.ripe, .int .i64 g.hab.dies, .int .i64 g.hab.keep, .int .i64 x0, .int .i64 x1, .int .i64 x2, .int .i64 x3, .int .i64 x4, .int .i64 x5, .int .i64 x6] := fun _ _ _ _ _ _ _ => rfl
      have hin : ∀ x0 x1 x2 x3 x4 x5 x6 : Int, (ints [x0, x1, x2, x3, x4, x5, x6]).toArray = #[.int .i64 x0, .int .i64 x1, .int .i64 x2, .int .i64 x3, .int .i64 x4, .int .i64 x5, .int .i64 x6] := fun _ _ _ _ _ _ _ => rfl
      simp only [hgv, hin] at hL hR hC
      have hrv : recV (s, q) rp [t0, t1, t2, t3, t4, t5, t6] [f0, f1, f2, f3, f4, f5, f6] = .agg #[.int .i64 s, .int .i64 q, .int .i64 rp, .int .i64 t0, .int .i64 t1, .int .i64 t2, .int .i64 t3, .int .i64 t4, .int .i64 t5, .int .i64 t6, .int .i64 f0, .int .i64 f1, .int .i64 f2, .int .i64 f3, .int .i64 f4, .int .i64 f5, .int .i64 f6] := rfl
      rw [hrv] at hrk
      rw [hrk] at hrow
      have hyk := fun W1 => HY.out (k + 1) _ W1 hrow
      have hMr : wr.heap[W.heap.size]? = some (.cells #[.int .i64 g.hab.lo, .int .i64 g.hab.hi, .int .i64 g.hab.bears, .int .i64 g.hab.ripe, .int .i64 g.hab.dies, .int .i64 g.hab.keep, .int .i64 c0, .int .i64 c1', .int .i64 c2', .int .i64 c3, .int .i64 c4, .int .i64 c5, .int .i64 c6] 96 (0, 0)) := hMk.out
      have hsM : W.heap.size < wr.heap.size := (Array.getElem?_eq_some_iff.1 hMr).1
      have hRS : RS W.heap.size wr wr.heap.size #[.int .i64 s, .int .i64 q] W.heap.size _ (wr.alloc (.cells #[.int .i64 s, .int .i64 q] 76)) :=
        ⟨(Below.refl _ _).alloc (by omega) _, by simp, alloc_at0 _ _, (Below.heap_alloc _ _ _ hsM).trans hMr⟩
      have hcA := fun i => cell_of_row _ W.heap.size i _ _ _ hRS.hM
      have hcS := fun i => cell_of_row _ wr.heap.size i _ _ _ hRS.hS
      have HL := Lib.hid hL
      have HR := Lib.hid hR
      have HC := Lib.hid hC
      have HRS := Lib.hid hRS
      have HN := Lib.hid (And.intro hnext (And.intro hcE hx))
      have HYk := Lib.hid hyk
      have hf0 := HF.out.f0
      have hf1 := HF.out.f1
      have hsl := HF.out.sl
      have hbg : wr.heap[Bg]? = _ := (hKk.out.same Bg hBgW (fun h => h.2 rfl)).trans HB.out
      have HBG := Lib.hid hbg
      clear hcs hpa hblk hyk hrow hrk hnext hlenc hbndc hcE hx hL hLl hLb hR hC hSl e1 e2 e3 hgv hin hrv hMr hRS hbg hsr
      gi_wp2_with (first
        | (refine ⟨trivial, ?_⟩
           gi_at_call 66
           refine (callsIn_wide.2 (HL.out _)).mono ?_
           rintro e w1 ⟨rfl, hB1⟩
           have R1 := Lib.hid (HRS.out.next (by omega) hB1)
           clear hB1 hcA)
        | (show wpListIn _ _ _ _ _ (Oper.mk none (Op.store _ (Operand.tmp 3) (Operand.tmp 36)) _ _ _ _ :: _) _ _
           refine wpListIn_store_blk 96 (.tmp 3) (.tmp 36) rfl rfl rfl rfl R1.out.hM rfl ?h1 rowGrove ?_
           case h1 => simp [Value.oneCell']
           intro w2 hP2 hM2
           have hcA2 := fun i => cell_of_row _ W.heap.size i _ _ _ hM2
           have R2 := Lib.hid (R1.out.put (Nat.le_refl _) (by omega) hP2 hM2)
           have hs2 := R2.out.lt
           clear hP2 hM2)
        | (refine ⟨trivial, ?_⟩
           gi_at_call 75
           refine (callsIn_wide.2 (HR.out _)).mono ?_
           rintro e w3 ⟨rfl, hB3⟩
           have r3 := R2.out.next (by omega) hB3
           have hs3 := r3.lt
           have hcA3 := fun i => cell_of_row _ W.heap.size i _ _ _ r3.hM
           have hcS3 := fun i => cell_of_row _ wr.heap.size i _ _ _ r3.hS
           have R3 := Lib.hid r3
           clear hB3 r3 hcA2)
        | (refine ⟨trivial, ?_⟩
           gi_at_call 76
           refine (callsIn_wide.2 (HC.out _)).mono ?_
           rintro e w4 ⟨rfl, hB4⟩
           have R4 := Lib.hid (R3.out.next (by omega) hB4)
           have hs4 := R4.out.lt
           clear hB4 hcA3 hcS3)
        | (show wpListIn _ _ _ _ _ (Oper.mk none (Op.store _ (Operand.tmp 7) (Operand.tmp 44)) _ _ _ _ :: _) _ _
           refine wpListIn_store_blk 96 (.tmp 7) (.tmp 44) rfl rfl rfl rfl (alloc2_at0 w4 _ _) rfl ?h1 rowGrove ?_
           case h1 => simp [Value.oneCell']
           intro w5 hP5 hM5
           have R5 := Lib.hid ((R4.out.next (by omega) (((Below.refl _ w4).alloc (Nat.le_refl _) _).alloc (by simp) _)).far (by omega) (by omega) (by omega) hP5)
           have G5 := Lib.hid ((hP5.other (w4.heap.size + 1) (by omega)).trans (alloc2_at1 w4 _ _))
           have M5 := Lib.hid hM5
           clear hP5 hM5)
        | (show wpListIn _ _ _ _ _ (Oper.mk none (Op.store _ (Operand.tmp 8) (Operand.tmp 45)) _ _ _ _ :: _) _ _
           refine wpListIn_store_blk 81 (.tmp 8) (.tmp 45) rfl rfl rfl rfl G5.out rfl ?h1 rowCulms ?_
           case h1 => simp [Value.oneCell']
           intro w6 hP6 hM6
           have r6 := R5.out.far (by omega) (by omega) (by omega) hP6
           have hL6 := (hP6.other w4.heap.size (by omega)).trans M5.out
           have hcG := fun i => cell_of_row _ (w4.heap.size + 1) i _ _ _ hM6
           have hcL := fun i => cell_of_row _ w4.heap.size i _ _ _ hL6
           have hcS6 := fun i => cell_of_row _ wr.heap.size i _ _ _ r6.hS
           have hcB6 := fun i => cell_of_row _ Bg i _ _ _ ((r6.bel.block Bg (by omega)).trans HBG.out)
           have R6 := Lib.hid r6
           have L6 := Lib.hid hL6
           clear hP6 hM6 r6 hL6)
        | (show wpListIn _ _ _ _ _ (Oper.mk (some 58) _ _ _ _ _ :: _) _ _
           refine wpListIn_yield (.tmp 46) #[.tmp 51, .tmp 57] #[3, 83] ?hgd ?ho ?hF hn (l := l) ?hf ?hvs (HYk.out _ (HJ.out.1 (k + 1) wr _ hJk.out R6.out.bel) (by have := R6.out.lt; omega)) ?_
           case hgd => rfl
           case ho => rfl
           case hF => exact fun _ => trivial
           case hf => rfl
           case hvs => simp [Act.eval]
           rintro e w7 (⟨rfl, hJ7, hK7⟩ | ⟨rfl, hx7⟩)
           refine ⟨_, rfl, ?_⟩
           have hL7 := (hK7.same w4.heap.size (Array.getElem?_eq_some_iff.1 L6.out).1 (fun h => by have := (HX.out _ h).2.2; omega)).trans L6.out
           have hM7 := (hK7.same W.heap.size (by have := R6.out.lt; omega) (fun h => by have := (HX.out _ h).2.2; omega)).trans R6.out.hM
           have hcL7 := fun i => cell_of_row _ w4.heap.size i _ _ _ hL7
           have M7 := Lib.hid hM7
           have J7 := Lib.hid (And.intro hJ7 hK7)
           clear hL7 hM7 hJ7 hK7 hcG hcL hcS6 hcB6
           rotate_left
           refine ⟨_, rfl, ?_⟩
           have J7 := Lib.hid hx7
           clear hx7 hcG hcL hcS6 hcB6
           rotate_right)
        | (show wpListIn _ _ _ _ _ (Oper.mk none (Op.store _ (Operand.tmp 3) (Operand.tmp 60)) _ _ _ _ :: _) _ _
           refine wpListIn_store_blk 96 (.tmp 3) (.tmp 60) rfl rfl rfl rfl M7.out rfl ?h1 rowGrove ?_
           case h1 => simp [Value.oneCell']
           intro w8 hP8 hM8
           have P8 := Lib.hid (And.intro hP8 hM8)
           clear hP8 hM8))
      case roundEnd =>
        have hb68 := R6.out.bel
        have hK68 : KeepsX (OwnY n₀ Bg) wr w6 := ⟨hb68.size, fun j hj hx => hb68.block j (by
          by_cases hjW : j < W.heap.size
          · exact hjW
          · exact absurd ⟨by omega, by omega⟩ hx)⟩
        have hK8 := ((hKk.out.trans hK68).trans (J7.out.2.more (fun j hj => ⟨(HX.out j hj).1, (HX.out j hj).2.1⟩))).trans (P8.out.1.keepsX (OwnY n₀ Bg) ⟨hnW, by omega⟩)
        have hJ8 := HJ.out.1 (k + 1 + 1) w7 w8 J7.out.1 (P8.out.1.below (Nat.le_refl _))
        have hM8 : w8.heap[W.heap.size]? = some (.cells (gcells g.hab (stateP d r (start7 g) g.seas (k + 1))) 96 (0, 0)) := by rw [HN.out.1]; exact P8.out.2
        have E8 := Lib.hid (And.intro hJ8 (And.intro hK8 hM8))
        clear hb68 hK68 hK8 hJ8 hM8
        go_roundw
        case rel => exact ⟨k + 1, by omega, by go_num, E8.out.1, E8.out.2.1, E8.out.2.2⟩
        case measure => simp [intOf] <;> omega
      refine bodyPost_ret (results_none rfl _ _ _) rfl ?_
      exact ⟨⟨_, rfl⟩, .inr ⟨k + 1, by rw [rowsP_len]; omega, J7.out⟩⟩
    · obtain rfl : k = g.seas.length := by omega
      gi_wp2_with fail
      go_end0
      exact ⟨⟨_, rfl⟩, .inl (by rw [rowsP_len]; exact hJk.out)⟩

end Go.Proofs.Ytkjdapgkojfbmaa
