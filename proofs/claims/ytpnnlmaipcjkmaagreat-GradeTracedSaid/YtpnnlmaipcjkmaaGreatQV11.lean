/-
  The program's iterator over a book; its years are the reference's; Check.
-/
import Derived.Laws.CopyOwn
import Derived.Deep.RegionLaw
import Derived.TacticsInMore
import Derived.LoopNIn
import Derived.LoopIn
import Derived.RangeFuncBound
import Derived.RangeFuncCalls
import Derived.Shelf.Abstract
import Derived.Test.YtpnnlmaipcjkmaaGreatQV8
import Derived.Test.YtpnnlmaipcjkmaaGreatQV10
import Derived.Test.YtpnnlmaipcjkmaaGreatQV1
import Derived.Test.YtpnnlmaipcjkmaaGreatQV9
set_option linter.all false
namespace Go.Proofs.YtpnnlmaipcjkmaaGreat

theorem Bnd.iff_mem {lo hi : Int} {c : List Int} : Bnd lo hi c ↔ ∀ x ∈ c, lo ≤ x ∧ x ≤ hi := by
  constructor
  · intro h x hx
    obtain ⟨k, hk, rfl⟩ := List.mem_iff_getElem.1 hx
    simpa [hk] using h k hk
  · intro h k hk
    simpa [hk] using h c[k] (List.getElem_mem hk)

theorem laterP_bnd {d : Nat} {c : List Int} {s M : Int} (hb : Bnd 0 M c) (h0 : 0 ≤ s) (hs : s ≤ M) : Bnd 0 M (laterP d c s) := by
  rw [Bnd.iff_mem] at hb ⊢
  intro x hx
  simp only [laterP, List.mem_cons, List.mem_append, List.mem_replicate] at hx
  rcases hx with rfl | hx | ⟨_, rfl⟩
  · exact ⟨h0, hs⟩
  · exact hb x (List.mem_of_mem_take hx)
  · exact ⟨Int.le_refl _, by omega⟩

def stepP (d r : Nat) (c : List Int) (p : Int × Int) : List Int := (cutTo (laterP d c p.1) p.2 d (d - r + 1)).1
def goneP (d r : Nat) (c : List Int) (p : Int × Int) : List Int := (cutTo (laterP d c p.1) p.2 d (d - r + 1)).2.1
def ripeP (d r : Nat) (c : List Int) (p : Int × Int) : Int := ((laterP d c p.1).drop r).sum
def stateP (d r : Nat) (c : List Int) (ss : List (Int × Int)) (k : Nat) : List Int := (ss.take k).foldl (stepP d r) c

theorem stateP_succ {d r : Nat} {c : List Int} {ss : List (Int × Int)} {k : Nat} (hk : k < ss.length) : stateP d r c ss (k + 1) = stepP d r (stateP d r c ss k) (ss[k]?.getD (0, 0)) := by
  unfold stateP
  rw [List.take_succ_eq_append_getElem hk, List.foldl_append]
  simp only [List.foldl_cons, List.foldl_nil, List.getElem?_eq_getElem hk, Option.getD_some]

theorem stepP_len {d r : Nat} {c : List Int} {p : Int × Int} (hd : d ≤ 6) (hc : c.length = 7) : (stepP d r c p).length = 7 ∧ (goneP d r c p).length = 7 := by
  have h := cutTo_len (laterP d c p.1) p.2 d (d - r + 1)
  rw [laterP_len _ hd hc] at h
  exact h

theorem stateP_len {d r : Nat} {c : List Int} {ss : List (Int × Int)} (hd : d ≤ 6) (hc : c.length = 7) : ∀ k, k ≤ ss.length → (stateP d r c ss k).length = 7 := by
  intro k
  induction k with
  | zero => intro _; simpa [stateP] using hc
  | succ k ih => intro h; rw [stateP_succ (by omega)]; exact (stepP_len hd (ih (by omega))).1

theorem seasR_at {ss : List (Int × Int)} (h : seasR ss = true) {k : Nat} (hk : k < ss.length) : (0 ≤ (ss[k]?.getD (0, 0)).1 ∧ (ss[k]?.getD (0, 0)).1 ≤ 30) ∧ (0 ≤ (ss[k]?.getD (0, 0)).2 ∧ (ss[k]?.getD (0, 0)).2 ≤ 30) := by
  simp only [seasR, List.all_eq_true] at h
  have := h ss[k] (List.getElem_mem hk)
  simp only [hk, List.getElem?_eq_getElem, Option.getD_some]
  simp only [Bool.and_eq_true, inR_iff] at this
  exact this

theorem stepP_bnd {d r : Nat} {c : List Int} {p : Int × Int} (hr1 : 1 ≤ r) (hrd : r ≤ d) (hd : d ≤ 6) (hc : c.length = 7) (hb : Bnd 0 30 c) (h1 : 0 ≤ p.1 ∧ p.1 ≤ 30) (h2 : 0 ≤ p.2 ∧ p.2 ≤ 30) :
    Bnd 0 30 (stepP d r c p) ∧ Bnd 0 30 (goneP d r c p) := by
  have := cutTo_bnd (laterP_bnd (d := d) hb h1.1 h1.2) h2.1 h2.2 d (by rw [laterP_len _ hd hc]; omega) (d - r + 1) (by omega)
  exact ⟨this.1, this.2.1⟩

theorem stateP_bnd {d r : Nat} {c : List Int} {ss : List (Int × Int)} (hr1 : 1 ≤ r) (hrd : r ≤ d) (hd : d ≤ 6) (hc : c.length = 7) (hb : Bnd 0 30 c) (hs : seasR ss = true) : ∀ k, k ≤ ss.length → Bnd 0 30 (stateP d r c ss k) := by
  intro k
  induction k with
  | zero => intro _; simpa [stateP] using hb
  | succ k ih =>
    intro h
    rw [stateP_succ (by omega)]
    have := seasR_at hs (show k < ss.length by omega)
    exact (stepP_bnd hr1 hrd hd (stateP_len hd hc k (by omega)) (ih (by omega)) this.1 this.2).1

def recC (p : Int × Int) (ripe : Int) (gone left : List Int) : List Value := .int .i64 p.1 :: .int .i64 p.2 :: .int .i64 ripe :: (ints gone ++ ints left)
def recV (p : Int × Int) (ripe : Int) (gone left : List Int) : Value := .agg (recC p ripe gone left).toArray
def zero7 : List Int := [0, 0, 0, 0, 0, 0, 0]
def start7 (g : Gr) : List Int := g.start ++ List.replicate (7 - g.start.length) 0

def recK (g : Gr) (d r k : Nat) : Value :=
  match k with
  | 0 => recV (0, 0) 0 zero7 (start7 g)
  | k + 1 =>
    let s := g.seas[k]?.getD (0, 0)
    let c := stateP d r (start7 g) g.seas k
    recV s (ripeP d r c s) (goneP d r c s) (stateP d r (start7 g) g.seas (k + 1))
def rowP (g : Gr) (d r k : Nat) : Array Value := #[.int .i64 (g.first + k), recK g d r k]
def rowsP (g : Gr) (d r : Nat) : List (Array Value) := (List.range (g.seas.length + 1)).map (rowP g d r)
theorem rowsP_at {g : Gr} {d r k : Nat} (hk : k ≤ g.seas.length) : (rowsP g d r)[k]? = some (rowP g d r k) := by
  simp [rowsP, show k < g.seas.length + 1 by omega]
theorem rowsP_len (g : Gr) (d r : Nat) : (rowsP g d r).length = g.seas.length + 1 := by simp [rowsP]

structure Fine (g : Gr) (d r : Nat) : Prop where
  hd : g.hab.dies = d
  hr : g.hab.ripe = r
  r1 : 1 ≤ r
  rd : r ≤ d
  d6 : d ≤ 6
  st : g.start.length = d + 1
  sb : Bnd 0 9 g.start
  se : seasR g.seas = true
  sl : g.seas.length ≤ 60
  f0 : 0 ≤ g.first
  f1 : g.first ≤ 3000

theorem start7_len {g : Gr} (h : g.start.length ≤ 7) : (start7 g).length = 7 := by simp [start7]; omega
theorem start7_bnd {g : Gr} (h : Bnd 0 9 g.start) : Bnd 0 30 (start7 g) := by
  rw [Bnd.iff_mem] at h ⊢
  intro x hx
  simp only [start7, List.mem_append, List.mem_replicate] at hx
  rcases hx with hx | ⟨_, rfl⟩
  · have := h x hx; omega
  · omega

end Go.Proofs.YtpnnlmaipcjkmaaGreat

namespace Go.Proofs.YtpnnlmaipcjkmaaGreat
open Go.RowKit

attribute [local go_sem] Oper.semAt_some

theorem ints_append (a b : List Int) : ints (a ++ b) = ints a ++ ints b := by simp [ints]
theorem splice_start {g : Gr} (h : g.start.length ≤ 7) : splice (hcells g.hab ++ ints zero7) 6 (ints g.start) = hcells g.hab ++ ints (start7 g) := by
  have e : ints zero7 = List.replicate 7 (.int .i64 0) := rfl
  have e2 : (hcells g.hab).length = 6 := rfl
  have e3 : (ints g.start).length = g.start.length := by simp [ints]
  simp only [splice, start7, ints_append, e]
  rw [List.take_append_of_le_length (by omega), List.take_of_length_le (by omega), List.drop_append, List.drop_of_length_le (by omega), e3]
  simp [e2, ints, show 6 + g.start.length - 6 = g.start.length by omega]
  show List.drop g.start.length (List.replicate 7 (Value.int .i64 0)) = _
  rw [List.drop_replicate]

structure RS (B : Nat) (wr : World) (S : Nat) (sc : Array Value) (M : Nat) (mc : Array Value) (w : World) : Prop where
  bel : Below B wr w
  lt : wr.heap.size < w.heap.size
  hS : w.heap[S]? = some (.cells sc 130 (0, 0))
  hM : w.heap[M]? = some (.cells mc 232 (0, 0))

theorem RS.next {B : Nat} {wr : World} {S M : Nat} {sc mc : Array Value} {w w' : World} (h : RS B wr S sc M mc w) (hB : B ≤ wr.heap.size) (hw : Below w.heap.size w w') : RS B wr S sc M mc w' :=
  ⟨h.bel.trans (hw.mono (Nat.le_trans hB (Nat.le_of_lt h.lt))), Nat.lt_of_lt_of_le h.lt hw.size, (hw.block _ (Array.getElem?_eq_some_iff.1 h.hS).1).trans h.hS, (hw.block _ (Array.getElem?_eq_some_iff.1 h.hM).1).trans h.hM⟩
theorem RS.put {B : Nat} {wr : World} {S M : Nat} {sc mc mc' : Array Value} {w w' : World} (h : RS B wr S sc M mc w) (hB : B ≤ M) (hne : S ≠ M) (hp : Put w w' M) (hm : w'.heap[M]? = some (.cells mc' 232 (0, 0))) : RS B wr S sc M mc' w' :=
  ⟨h.bel.trans (hp.below hB), by rw [hp.size]; exact h.lt, (hp.other _ hne).trans h.hS, hm⟩
theorem RS.far {B : Nat} {wr : World} {S M b : Nat} {sc mc : Array Value} {w w' : World} (h : RS B wr S sc M mc w) (hB : B ≤ b) (h1 : S ≠ b) (h2 : M ≠ b) (hp : Put w w' b) : RS B wr S sc M mc w' :=
  ⟨h.bel.trans (hp.below hB), by rw [hp.size]; exact h.lt, (hp.other _ h1).trans h.hS, (hp.other _ h2).trans h.hM⟩

def OwnY (n₀ Bg : Nat) : Nat → Prop := fun j => n₀ ≤ j ∧ j ≠ Bg

set_option maxRecDepth 100000 in
set_option maxHeartbeats 4000000 in
theorem records1 (g : Gr) (A1 : Option Addr) (c1 : Nat) (A2 : Option Addr) (c2 : Nat) (d r : Nat) (hf : Fine g d r) (n n₀ Bg : Nat) (hn : 1 ≤ n) (w : World) (hn₀ : n₀ ≤ w.heap.size) (hBg : Bg < w.heap.size) (hG : GrAt w n₀ g A1 c1 A2 c2)
    (hbox : w.heap[Bg]? = some (.cells #[.int .i64 g.id, .int .i64 g.hab.lo, .int .i64 g.hab.hi, .int .i64 g.hab.bears, .int .i64 g.hab.ripe, .int .i64 g.hab.dies, .int .i64 g.hab.keep, .int .i64 g.first, .slice A1 g.start.length c1, .slice A2 g.seas.length c2] 74 (0, 0))) :
    SeqX Fence.wide n Tryz.prog 150 #[.pointer (some ⟨Bg, 0, none⟩)] (rowsP g d r) n₀ Bg w := by
  intro l X J Jx W hW hX hJ hJx hY h0
  have hGW := hG.below (hW.mono hn₀)
  have hbW : W.heap[Bg]? = _ := (hW.block _ hBg).trans hbox
  have hBgW : Bg < W.heap.size := Nat.lt_of_lt_of_le hBg hW.size
  have hnW : n₀ ≤ W.heap.size := Nat.le_trans hn₀ hW.size
  have hst : g.start.length = d + 1 := hf.st
  have hd6 := hf.d6
  have hl1 := hG.len1
  have hsp := splice_start (g := g) (by omega)
  have HF := Lib.hid hf
  have HY := Lib.hid hY
  have HJ := Lib.hid (And.intro hJ (And.intro hJx h0))
  have HG := Lib.hid hGW
  have HX := Lib.hid hX
  have HSP := Lib.hid hsp
  clear hf hY hJ hJx h0 hGW hX hG hbox hsp hW
  refine callsIn_of_wp Tryz.func150 rfl trivial ?_ rfl
  simp only [Tryz.ntmps150, List.size_toArray, List.length_cons, List.length_nil, Nat.reduceAdd, Nat.reduceSub, Array.replicate_succ, Array.replicate_zero, List.push_toArray, List.append_toArray, List.nil_append, List.cons_append]
  have hcell := fun i => cell_of_row W Bg i _ _ _ hbW
  gi_wp2_with fail
  obtain ⟨W0, hW0⟩ : ∃ W0, W.alloc (.cells #[.int .i64 g.hab.lo, .int .i64 g.hab.hi, .int .i64 g.hab.bears, .int .i64 g.hab.ripe, .int .i64 g.hab.dies, .int .i64 g.hab.keep, .int .i64 0, .int .i64 0, .int .i64 0, .int .i64 0, .int .i64 0, .int .i64 0, .int .i64 0] 232) = W0 := ⟨_, rfl⟩
  rw [hW0]
  have hb0 : Below W.heap.size W W0 := by rw [← hW0]; exact (Below.refl _ _).alloc (Nat.le_refl _) _
  have hs0 : W0.heap.size = W.heap.size + 1 := by rw [← hW0]; simp
  have hM0 : W0.heap[W.heap.size]? = some (.cells (hcells g.hab ++ ints zero7).toArray 232 (0, 0)) := by rw [← hW0]; exact alloc_at0 W _
  have hcell0 : ∀ i, W0.cell? ⟨Bg, i, none⟩ = _ := fun i => cell_of_row W0 Bg i _ _ _ ((hb0.block Bg hBgW).trans hbW)
  have hI0 := Lib.hid (HG.out.st.below (hb0.mono hnW))
  have H0 := Lib.hid (And.intro hb0 (And.intro hM0 hW0))
  have HB := Lib.hid hbW
  clear hb0 hM0 hW0 hcell hbW
  refine wpIn_wide.2 ?_
  go_cut [12, 13, 14, 15, 16] (fun s12 s13 s14 s15 s16 wx => Hid (Below W.heap.size W0 wx) ∧ Hid (wx.heap[W.heap.size]? = some (.cells (gcells g.hab (start7 g)) 232 (0, 0))))
  case first =>
    go_region_law
      ((refine step_copy_splice rfl (.tmp 13) (.tmp 15) 59 59 rfl 3 Tryz.underlying59 (by kernel_rfl) _ _ _ _ _ _ rfl rfl W.heap.size 6 (hcells g.hab ++ ints zero7) 232 (H0.out.2.1) (ints g.start) ?hn ?hpos ?hfit (oneCells_ints _) W.heap.size W0 ?hbe (Nat.le_refl _) ?_
        case hn =>
          simp only [ints, List.length_map]
          change _ = min _ _
          omega
        case hpos =>
          intro hp
          refine ⟨rfl, ?_⟩
          obtain ⟨b, off, hA, hlt, hc⟩ := hI0.out (by simpa [ints] using hp)
          refine ⟨⟨b, off, none⟩, hA, fun j v hj => ?_⟩
          rw [Addr.add_mid]
          have hj' : j < g.start.length := by have := (List.getElem?_eq_some_iff.1 hj).1; simpa [ints] using this
          refine (hc j hj').trans ?_
          rw [← hj]
          simp [ints, hj']
        case hfit => simp [hcells, ints, zero7]; omega
        case hbe => repeat (first | exact Below.refl _ _ | refine Below.drew ?_)
        intro w4 hg4 hb4))
    all_goals
      go_wp2_with fail
      go_meet
      exact ⟨hb4, by have := hg4.out; rw [HSP.out] at this; exact this⟩
  obtain ⟨hbc, hMc⟩ := hcut
  have hlen := start7_len (g := g) (by omega)
  have hrow0 : rowP g d r 0 = #[.int .i64 g.first, recV (0, 0) 0 zero7 (start7 g)] := by simp [rowP, recK]
  have hy0 := HY.out 0 _ wc (rowsP_at (Nat.zero_le _)) (HJ.out.1 0 _ _ HJ.out.2.2 (H0.out.1.trans hbc.out)) (Nat.le_trans H0.out.1.size hbc.out.size)
  rw [hrow0] at hy0
  have hMc' := hMc.out
  obtain ⟨e0, e1, e2, e3, e4, e5, e6, he⟩ := len7 hlen
  rw [he] at hy0 hMc'
  have hcM := fun i => cell_of_row wc W.heap.size i _ _ _ hMc'
  simp only [gcells, hcells, ints, List.map_cons, List.map_nil, List.cons_append, List.nil_append] at hcM
  simp only [recV, recC, zero7, ints, List.map_cons, List.map_nil, List.cons_append, List.nil_append] at hy0
  have hbB := (hbc.out.block Bg (by omega)).trans ((H0.out.1.block Bg hBgW).trans HB.out)
  have hcellc : ∀ i, wc.cell? ⟨Bg, i, none⟩ = _ := fun i => cell_of_row wc Bg i _ _ _ hbB
  have hsc : W.heap.size < wc.heap.size := by have := hbc.out.size; omega
  have Hy0 := Lib.hid hy0
  have He := Lib.hid he
  have HbB := Lib.hid hbB
  clear hcell0 hy0 hrow0 hMc' he hlen hbB
  gi_wp2_with
    (show wpListIn _ _ _ _ _ (Oper.mk (some 23) _ _ _ _ _ :: _) _ _
     refine wpListIn_yield (.tmp 17) #[.tmp 19, .tmp 22] #[3, 139] ?hgd ?ho ?hF hn (l := l) ?hf ?hvs Hy0.out ?_
     case hgd => rfl
     case ho => rfl
     case hF => exact fun _ => trivial
     case hf => rfl
     case hvs => simp [Act.eval]
     rintro e w5 (⟨rfl, hJ5, hK5⟩ | ⟨rfl, hx5⟩)
     refine ⟨_, rfl, ?_⟩
     have hb5 := (hK5.same Bg (by omega) (fun h => (HX.out _ h).2.1 rfl)).trans HbB.out
     have hcell5 : ∀ i, w5.cell? ⟨Bg, i, none⟩ = _ := fun i => cell_of_row w5 Bg i _ _ _ hb5
     have H5 := Lib.hid (And.intro hJ5 hK5)
     clear hb5 hJ5 hK5 hcellc hcM
     rotate_left
     refine ⟨_, rfl, ?_⟩
     have H5 := Lib.hid hx5
     clear hx5 hcellc hcM
     rotate_right)
  rotate_left
  · refine bodyPost_ret (results_none rfl _ _ _) rfl ?_
    exact ⟨⟨_, rfl⟩, .inr ⟨0, by rw [rowsP_len]; omega, H5.out⟩⟩
  have H5K := Lib.hid ((⟨Nat.le_trans H0.out.1.size hbc.out.size, fun j hj hx => (hbc.out.block j (by omega)).trans (H0.out.1.block j hj)⟩ : KeepsX (OwnY n₀ Bg) W wc).trans (H5.out.2.more (fun j hj => ⟨(HX.out j hj).1, (HX.out j hj).2.1⟩)))
  have H5M := Lib.hid ((H5.out.2.same W.heap.size hsc (fun h => by have := (HX.out _ h).2.2; omega)).trans hMc.out)
  have H5J := Lib.hid H5.out.1
  clear H5 Hy0
  gi_loopw [28] (fun i wr => ∃ k : Nat, k ≤ g.seas.length ∧ i = .int .i64 k ∧ Hid (J (k + 1) wr) ∧ Hid (KeepsX (OwnY n₀ Bg) W wr) ∧ Hid (wr.heap[W.heap.size]? = some (.cells (gcells g.hab (stateP d r (start7 g) g.seas k)) 232 (0, 0))))
    (fun i _ => g.seas.length - (intOf i).toNat)
  case atStart => exact ⟨0, Nat.zero_le _, rfl, H5J.out, H5K.out, H5M.out⟩
  case round =>
    obtain ⟨k, hk, rfl, hJk, hKk, hMk⟩ := hrel
    by_cases hlt : k < g.seas.length
    · obtain ⟨b, off, hA, hbB, hcs⟩ := HG.out.se (by rw [pairs_len]; omega)
      subst hA
      have hpa := pairs_at g.seas k hlt
      have hblk : wr.heap[b]? = W.heap[b]? := hKk.out.same b (by omega) (fun h => by have := h.1; omega)
      have hc0 : wr.cell? ⟨b, off + k * 2, none⟩ = _ := (World.cell?_of_block (w := W) hblk).trans (hcs _ _ hpa.1)
      have hc1 : wr.cell? ⟨b, off + k * 2 + 1, none⟩ = _ := (World.cell?_of_block (w := W) hblk).trans (hcs _ _ hpa.2)
      have hsr := seasR_at HF.out.se hlt
      have hrow := rowsP_at (g := g) (d := d) (r := r) (show k + 1 ≤ g.seas.length by omega)
      have hrk : rowP g d r (k + 1) = #[.int .i64 (g.first + 1 + k), recV (g.seas[k]?.getD (0, 0)) (ripeP d r (stateP d r (start7 g) g.seas k) (g.seas[k]?.getD (0, 0))) (goneP d r (stateP d r (start7 g) g.seas k) (g.seas[k]?.getD (0, 0))) (stepP d r (stateP d r (start7 g) g.seas k) (g.seas[k]?.getD (0, 0)))] := by
        rw [← stateP_succ hlt]
        simp only [rowP, recK]
        congr 3
        omega
      have hnext := stateP_succ (d := d) (r := r) (c := start7 g) hlt
      have hlenc := stateP_len (d := d) (r := r) (c := start7 g) (ss := g.seas) hd6 (start7_len (by omega)) k hk
      have hbndc := stateP_bnd (d := d) (r := r) (c := start7 g) (ss := g.seas) HF.out.r1 HF.out.rd hd6 (start7_len (by omega)) (start7_bnd HF.out.sb) HF.out.se k hk
      generalize hx : g.seas[k]?.getD (0, 0) = x at hc0 hc1 hsr hrk hnext
      generalize hcE : stateP d r (start7 g) g.seas k = c at hrk hnext hlenc hbndc hMk
      obtain ⟨s, q⟩ := x
      simp only at hc0 hc1 hsr
      have hL := fun W' => later_anyL1 g.hab d HF.out.hd hd6 c hlenc s W'
      have hLl := laterP_len s hd6 hlenc
      have hLb := laterP_bnd (d := d) (M := 30) hbndc hsr.1.1 hsr.1.2
      have hR := fun W' => ripe_any g.hab r HF.out.hr (by have := HF.out.rd; omega) (laterP d c s) hLl (fun k hk => by have := hLb k hk; omega) W'
      have hC := fun W' => cut_any g.hab d r HF.out.hd HF.out.hr HF.out.r1 HF.out.rd hd6 (laterP d c s) hLl 30 (by omega) hLb q hsr.2.1 hsr.2.2 W'
      have hSl := stepP_len (d := d) (r := r) (c := c) (p := (s, q)) hd6 hlenc
      have e1 : (cutTo (laterP d c s) q d (d - r + 1)).1 = stepP d r c (s, q) := rfl
      have e2 : (cutTo (laterP d c s) q d (d - r + 1)).2.1 = goneP d r c (s, q) := rfl
      have e3 : ((laterP d c s).drop r).sum = ripeP d r c (s, q) := rfl
      rw [e1, e2] at hC
      rw [e3] at hR
      generalize stepP d r c (s, q) = f at hC hSl hrk hnext
      generalize goneP d r c (s, q) = gn at hC hSl hrk
      generalize ripeP d r c (s, q) = rp at hR hrk
      generalize laterP d c s = la at hL hLl hR hC
      obtain ⟨c0, c1', c2', c3, c4, c5, c6, rfl⟩ := len7 hlenc
      obtain ⟨l0, l1, l2, l3, l4, l5, l6, rfl⟩ := len7 hLl
      obtain ⟨f0, f1, f2, f3, f4, f5, f6, rfl⟩ := len7 hSl.1
      obtain ⟨t0, t1, t2, t3, t4, t5, t6, rfl⟩ := len7 hSl.2
      have hgv : ∀ x0 x1 x2 x3 x4 x5 x6 : Int, gv g.hab [x0, x1, x2, x3, x4, x5, x6] = .agg #[.int .i64 g.hab.lo, .int .i64 g.hab.hi, .int .i64 g.hab.bears, .int .i64 g.hab.ripe, .int .i64 g.hab.dies, .int .i64 g.hab.keep, .int .i64 x0, .int .i64 x1, .int .i64 x2, .int .i64 x3, .int .i64 x4, .int .i64 x5, .int .i64 x6] := fun _ _ _ _ _ _ _ => rfl
      have hin : ∀ x0 x1 x2 x3 x4 x5 x6 : Int, (ints [x0, x1, x2, x3, x4, x5, x6]).toArray = #[.int .i64 x0, .int .i64 x1, .int .i64 x2, .int .i64 x3, .int .i64 x4, .int .i64 x5, .int .i64 x6] := fun _ _ _ _ _ _ _ => rfl
      simp only [hgv, hin] at hL hR hC
      have hrv : recV (s, q) rp [t0, t1, t2, t3, t4, t5, t6] [f0, f1, f2, f3, f4, f5, f6] = .agg #[.int .i64 s, .int .i64 q, .int .i64 rp, .int .i64 t0, .int .i64 t1, .int .i64 t2, .int .i64 t3, .int .i64 t4, .int .i64 t5, .int .i64 t6, .int .i64 f0, .int .i64 f1, .int .i64 f2, .int .i64 f3, .int .i64 f4, .int .i64 f5, .int .i64 f6] := rfl
      rw [hrv] at hrk
      rw [hrk] at hrow
      have hyk := fun W1 => HY.out (k + 1) _ W1 hrow
      have hMr : wr.heap[W.heap.size]? = some (.cells #[.int .i64 g.hab.lo, .int .i64 g.hab.hi, .int .i64 g.hab.bears, .int .i64 g.hab.ripe, .int .i64 g.hab.dies, .int .i64 g.hab.keep, .int .i64 c0, .int .i64 c1', .int .i64 c2', .int .i64 c3, .int .i64 c4, .int .i64 c5, .int .i64 c6] 232 (0, 0)) := hMk.out
      have hsM : W.heap.size < wr.heap.size := (Array.getElem?_eq_some_iff.1 hMr).1
      have hRS : RS W.heap.size wr wr.heap.size #[.int .i64 s, .int .i64 q] W.heap.size _ (wr.alloc (.cells #[.int .i64 s, .int .i64 q] 130)) :=
        ⟨(Below.refl _ _).alloc (by omega) _, by simp, alloc_at0 _ _, (Below.heap_alloc _ _ _ hsM).trans hMr⟩
      have hcA := fun i => cell_of_row _ W.heap.size i _ _ _ hRS.hM
      have hcS := fun i => cell_of_row _ wr.heap.size i _ _ _ hRS.hS
      have HL := Lib.hid hL
      have HR := Lib.hid hR
      have HC := Lib.hid hC
      have HRS := Lib.hid hRS
      have HN := Lib.hid (And.intro hnext (And.intro hcE hx))
      have HYk := Lib.hid hyk
      have hf0 := HF.out.f0
      have hf1 := HF.out.f1
      have hsl := HF.out.sl
      have hbg : wr.heap[Bg]? = _ := (hKk.out.same Bg hBgW (fun h => h.2 rfl)).trans HB.out
      have HBG := Lib.hid hbg
      clear hcs hpa hblk hyk hrow hrk hnext hlenc hbndc hcE hx hL hLl hLb hR hC hSl e1 e2 e3 hgv hin hrv hMr hRS hbg hsr
      gi_wp2_with (first
        | (refine ⟨trivial, ?_⟩
           gi_at_call 151
           refine (callsIn_wide.2 (HL.out _)).mono ?_
           rintro e w1 ⟨rfl, hB1⟩
           have R1 := Lib.hid (HRS.out.next (by omega) hB1)
           clear hB1 hcA)
        | (show wpListIn _ _ _ _ _ (Oper.mk none (Op.store _ (Operand.tmp 3) (Operand.tmp 36)) _ _ _ _ :: _) _ _
           refine wpListIn_store_blk 232 (.tmp 3) (.tmp 36) rfl rfl rfl rfl R1.out.hM rfl ?h1 rowGrove ?_
           case h1 => simp [Value.oneCell']
           intro w2 hP2 hM2
           have hcA2 := fun i => cell_of_row _ W.heap.size i _ _ _ hM2
           have R2 := Lib.hid (R1.out.put (Nat.le_refl _) (by omega) hP2 hM2)
           have hs2 := R2.out.lt
           clear hP2 hM2)
        | (refine ⟨trivial, ?_⟩
           gi_at_call 152
           refine (callsIn_wide.2 (HR.out _)).mono ?_
           rintro e w3 ⟨rfl, hB3⟩
           have r3 := R2.out.next (by omega) hB3
           have hs3 := r3.lt
           have hcA3 := fun i => cell_of_row _ W.heap.size i _ _ _ r3.hM
           have hcS3 := fun i => cell_of_row _ wr.heap.size i _ _ _ r3.hS
           have R3 := Lib.hid r3
           clear hB3 r3 hcA2)
        | (refine ⟨trivial, ?_⟩
           gi_at_call 153
           refine (callsIn_wide.2 (HC.out _)).mono ?_
           rintro e w4 ⟨rfl, hB4⟩
           have R4 := Lib.hid (R3.out.next (by omega) hB4)
           have hs4 := R4.out.lt
           clear hB4 hcA3 hcS3)
        | (show wpListIn _ _ _ _ _ (Oper.mk none (Op.store _ (Operand.tmp 7) (Operand.tmp 44)) _ _ _ _ :: _) _ _
           refine wpListIn_store_blk 232 (.tmp 7) (.tmp 44) rfl rfl rfl rfl (alloc2_at0 w4 _ _) rfl ?h1 rowGrove ?_
           case h1 => simp [Value.oneCell']
           intro w5 hP5 hM5
           have R5 := Lib.hid ((R4.out.next (by omega) (((Below.refl _ w4).alloc (Nat.le_refl _) _).alloc (by simp) _)).far (by omega) (by omega) (by omega) hP5)
           have G5 := Lib.hid ((hP5.other (w4.heap.size + 1) (by omega)).trans (alloc2_at1 w4 _ _))
           have M5 := Lib.hid hM5
           clear hP5 hM5)
        | (show wpListIn _ _ _ _ _ (Oper.mk none (Op.store _ (Operand.tmp 8) (Operand.tmp 45)) _ _ _ _ :: _) _ _
           refine wpListIn_store_blk 137 (.tmp 8) (.tmp 45) rfl rfl rfl rfl G5.out rfl ?h1 rowCulms ?_
           case h1 => simp [Value.oneCell']
           intro w6 hP6 hM6
           have r6 := R5.out.far (by omega) (by omega) (by omega) hP6
           have hL6 := (hP6.other w4.heap.size (by omega)).trans M5.out
           have hcG := fun i => cell_of_row _ (w4.heap.size + 1) i _ _ _ hM6
           have hcL := fun i => cell_of_row _ w4.heap.size i _ _ _ hL6
           have hcS6 := fun i => cell_of_row _ wr.heap.size i _ _ _ r6.hS
           have hcB6 := fun i => cell_of_row _ Bg i _ _ _ ((r6.bel.block Bg (by omega)).trans HBG.out)
           have R6 := Lib.hid r6
           have L6 := Lib.hid hL6
           clear hP6 hM6 r6 hL6)
        | (show wpListIn _ _ _ _ _ (Oper.mk (some 58) _ _ _ _ _ :: _) _ _
           refine wpListIn_yield (.tmp 46) #[.tmp 51, .tmp 57] #[3, 139] ?hgd ?ho ?hF hn (l := l) ?hf ?hvs (HYk.out _ (HJ.out.1 (k + 1) wr _ hJk.out R6.out.bel) (by have := R6.out.lt; omega)) ?_
           case hgd => rfl
           case ho => rfl
           case hF => exact fun _ => trivial
           case hf => rfl
           case hvs => simp [Act.eval]
           rintro e w7 (⟨rfl, hJ7, hK7⟩ | ⟨rfl, hx7⟩)
           refine ⟨_, rfl, ?_⟩
           have hL7 := (hK7.same w4.heap.size (Array.getElem?_eq_some_iff.1 L6.out).1 (fun h => by have := (HX.out _ h).2.2; omega)).trans L6.out
           have hM7 := (hK7.same W.heap.size (by have := R6.out.lt; omega) (fun h => by have := (HX.out _ h).2.2; omega)).trans R6.out.hM
           have hcL7 := fun i => cell_of_row _ w4.heap.size i _ _ _ hL7
           have M7 := Lib.hid hM7
           have J7 := Lib.hid (And.intro hJ7 hK7)
           clear hL7 hM7 hJ7 hK7 hcG hcL hcS6 hcB6
           rotate_left
           refine ⟨_, rfl, ?_⟩
           have J7 := Lib.hid hx7
           clear hx7 hcG hcL hcS6 hcB6
           rotate_right)
        | (show wpListIn _ _ _ _ _ (Oper.mk none (Op.store _ (Operand.tmp 3) (Operand.tmp 60)) _ _ _ _ :: _) _ _
           refine wpListIn_store_blk 232 (.tmp 3) (.tmp 60) rfl rfl rfl rfl M7.out rfl ?h1 rowGrove ?_
           case h1 => simp [Value.oneCell']
           intro w8 hP8 hM8
           have P8 := Lib.hid (And.intro hP8 hM8)
           clear hP8 hM8))
      case roundEnd =>
        have hb68 := R6.out.bel
        have hK68 : KeepsX (OwnY n₀ Bg) wr w6 := ⟨hb68.size, fun j hj hx => hb68.block j (by
          by_cases hjW : j < W.heap.size
          · exact hjW
          · exact absurd ⟨by omega, by omega⟩ hx)⟩
        have hK8 := ((hKk.out.trans hK68).trans (J7.out.2.more (fun j hj => ⟨(HX.out j hj).1, (HX.out j hj).2.1⟩))).trans (P8.out.1.keepsX (OwnY n₀ Bg) ⟨hnW, by omega⟩)
        have hJ8 := HJ.out.1 (k + 1 + 1) w7 w8 J7.out.1 (P8.out.1.below (Nat.le_refl _))
        have hM8 : w8.heap[W.heap.size]? = some (.cells (gcells g.hab (stateP d r (start7 g) g.seas (k + 1))) 232 (0, 0)) := by rw [HN.out.1]; exact P8.out.2
        have E8 := Lib.hid (And.intro hJ8 (And.intro hK8 hM8))
        clear hb68 hK68 hK8 hJ8 hM8
        go_roundw
        case rel => exact ⟨k + 1, by omega, by go_num, E8.out.1, E8.out.2.1, E8.out.2.2⟩
        case measure => simp [intOf] <;> omega
      refine bodyPost_ret (results_none rfl _ _ _) rfl ?_
      exact ⟨⟨_, rfl⟩, .inr ⟨k + 1, by rw [rowsP_len]; omega, J7.out⟩⟩
    · obtain rfl : k = g.seas.length := by omega
      gi_wp2_with fail
      go_end0
      exact ⟨⟨_, rfl⟩, .inl (by rw [rowsP_len]; exact hJk.out)⟩

end Go.Proofs.YtpnnlmaipcjkmaaGreat

namespace Go.Proofs.YtpnnlmaipcjkmaaGreat
open Go.RowKit Go.Shelf

attribute [local go_sem] Oper.semAt_some

abbrev gcs (g : Gr) (A1 : Option Addr) (c1 : Nat) (A2 : Option Addr) (c2 : Nat) : Array Value :=
  #[.int .i64 g.id, .int .i64 g.hab.lo, .int .i64 g.hab.hi, .int .i64 g.hab.bears, .int .i64 g.hab.ripe, .int .i64 g.hab.dies, .int .i64 g.hab.keep, .int .i64 g.first, .slice A1 g.start.length c1, .slice A2 g.seas.length c2]

theorem records_any (g : Gr) (A1 : Option Addr) (c1 : Nat) (A2 : Option Addr) (c2 : Nat) (w : World) :
    Calls Tryz.prog 113 #[.agg (gcs g A1 c1 A2 c2)] w fun e w' => e = .returned (.func (.func 150) #[] #[.pointer (some ⟨w.heap.size, 0, none⟩)]) ∧ w' = w.alloc (.cells (gcs g A1 c1 A2 c2) 74) := by
  unfold gcs
  go_enter Tryz.func113, Tryz.ntmps113
  go_wp2
  go_ret
  exact ⟨rfl, rfl⟩

def cutK (g : Gr) (k : Nat) : Int := match k with | 0 => 0 | k + 1 => (g.seas[k]?.getD (0, 0)).2
def ripeK (g : Gr) (d r k : Nat) : Int := match k with | 0 => 0 | k + 1 => ripeP d r (stateP d r (start7 g) g.seas k) (g.seas[k]?.getD (0, 0))
def goneK (g : Gr) (d r k : Nat) : List Int := match k with | 0 => zero7 | k + 1 => goneP d r (stateP d r (start7 g) g.seas k) (g.seas[k]?.getD (0, 0))
def shotK (g : Gr) (k : Nat) : Int := match k with | 0 => 0 | k + 1 => (g.seas[k]?.getD (0, 0)).1
theorem recK_eq (g : Gr) (d r k : Nat) : recK g d r k = recV (shotK g k, cutK g k) (ripeK g d r k) (goneK g d r k) (stateP d r (start7 g) g.seas k) := by
  cases k with
  | zero => simp [recK, shotK, cutK, ripeK, goneK, stateP]
  | succ k => rfl
theorem goneK_len {g : Gr} {d r : Nat} (hf : Fine g d r) {k : Nat} (hk : k ≤ g.seas.length) : (goneK g d r k).length = 7 := by
  cases k with
  | zero => rfl
  | succ k => exact (stepP_len hf.d6 (stateP_len hf.d6 (start7_len (by have := hf.st; have := hf.d6; omega)) k (by omega))).2

def cutsP (g : Gr) (d r : Nat) : Bool := decide (∀ k, k < g.seas.length → cutK g (k + 1) ≤ ripeK g d r (k + 1))

set_option maxHeartbeats 4000000 in
theorem validCuts_any (g : Gr) (A1 : Option Addr) (c1 : Nat) (A2 : Option Addr) (c2 : Nat) (d r : Nat) (hf : Fine g d r) (B : Nat) (w : World) (hB : B ≤ w.heap.size) (hG : GrAt w B g A1 c1 A2 c2) :
    Calls Tryz.prog 123 #[grv g A1 c1 A2 c2] w fun e w' => e = .returned (.bool (cutsP g d r)) ∧ Below w.heap.size w w' := by
  have HG := Lib.hid hG
  have HF := Lib.hid hf
  clear hG hf
  unfold grv
  refine (callsIn_wide (n := 4)).1 ?_
  refine callsIn_of_wp_marks Tryz.func123 rfl trivial ?_ rfl
  simp only [Tryz.ntmps123, List.size_toArray, List.length_cons, List.length_nil, Nat.reduceAdd, Nat.reduceSub, Array.replicate_succ, Array.replicate_zero, List.push_toArray, List.append_toArray, List.nil_append, List.cons_append]
  gi_wp2_with
    (refine ⟨trivial, ?_⟩
     gi_at_call 113
     refine (callsIn_wide.2 (records_any g A1 c1 A2 c2 _)).mono ?_
     rintro e w1 ⟨rfl, rfl⟩)
  obtain ⟨W, hW⟩ : ∃ W, (((w.alloc (.cells (gcs g A1 c1 A2 c2) 74)).alloc (.cells #[.bool false] 4)).alloc (.cells (gcs g A1 c1 A2 c2) 74)) = W := ⟨_, rfl⟩
  have hWs : W.heap.size = w.heap.size + 3 := by rw [← hW]; simp
  have hbW : Below w.heap.size w W := by rw [← hW]; exact (((Below.refl _ _).alloc (Nat.le_refl _) _).alloc (by simp) _).alloc (by simp; omega) _
  have hW2 : W.heap[w.heap.size + 1 + 1]? = some (.cells (gcs g A1 c1 A2 c2) 74 (0, 0)) := by rw [← hW]; exact alloc3_at2 w _ _ _
  have hW1 : W.heap[w.heap.size + 1]? = some (.cells #[.bool false] 4 (0, 0)) := by rw [← hW]; exact alloc3_at1 w _ _ _
  have hGW : GrAt W w.heap.size g A1 c1 A2 c2 := (HG.out.mono hB).below hbW
  rw [show (((w.alloc (.cells #[.int .i64 g.id, .int .i64 g.hab.lo, .int .i64 g.hab.hi, .int .i64 g.hab.bears, .int .i64 g.hab.ripe, .int .i64 g.hab.dies, .int .i64 g.hab.keep, .int .i64 g.first, .slice A1 g.start.length c1, .slice A2 g.seas.length c2] 74)).alloc (.cells #[.bool false] 4)).alloc (.cells (gcs g A1 c1 A2 c2) 74)) = W from hW]
  clear hW
  refine wpIn_rangeX rfl (by omega) (gf := 150) (lb := #[.pointer (some ⟨w.heap.size + 1 + 1, 0, none⟩)]) rfl trivial (enters_of Tryz.func150 (by kernel_rfl) rfl)
    (records1 g A1 c1 A2 c2 d r HF.out (4 - 1) w.heap.size (w.heap.size + 1 + 1) (by omega) W (by omega) (by omega) hGW hW2) (Below.refl _ _) (by omega) (by omega)
    (fun r' hr' => by
      obtain ⟨k, hk, rfl⟩ := List.mem_map.1 hr'
      rfl)
    (fun k => k = w.heap.size + 1) (fun k hk => by omega)
    (fun k A => (∀ j, j < k → cutK g j ≤ ripeK g d r j) ∧ A.heap[w.heap.size + 1]? = some (.cells #[.bool false] 4 (0, 0)) ∧ Below w.heap.size w A)
    (fun c k A => c = .ret ∧ ripeK g d r k < cutK g k ∧ A.heap[w.heap.size + 1]? = some (.cells #[.bool false] 4 (0, 0)) ∧ Below w.heap.size w A)
    (fun k A B hi hb => ⟨hi.1, (hb.block _ (by omega)).trans hi.2.1, hi.2.2.trans (hb.mono (by omega))⟩)
    (fun c k A B hi hb => ⟨hi.1, hi.2.1, (hb.block _ (by omega)).trans hi.2.2.1, hi.2.2.2.trans (hb.mono (by omega))⟩)
    ⟨fun j hj => by omega, hW1, hbW⟩
    (fun k b a' A => ∃ b', b ≤ b' ∧ A.heap[b']? = some (.cells (recC (shotK g k, cutK g k) (ripeK g d r k) (goneK g d r k) (stateP d r (start7 g) g.seas k)).toArray 139 (0, 0)) ∧
      a' = { tmps := #[.agg #[.int .i64 g.id, .int .i64 g.hab.lo, .int .i64 g.hab.hi, .int .i64 g.hab.bears, .int .i64 g.hab.ripe, .int .i64 g.hab.dies, .int .i64 g.hab.keep, .int .i64 g.first, .slice A1 g.start.length c1, .slice A2 g.seas.length c2],
        .pointer (some ⟨w.heap.size, 0, none⟩), .pointer (some ⟨w.heap.size + 1, 0, none⟩), undef, .pointer (some ⟨b', 0, none⟩),
        .agg #[.int .i64 g.id, .int .i64 g.hab.lo, .int .i64 g.hab.hi, .int .i64 g.hab.bears, .int .i64 g.hab.ripe, .int .i64 g.hab.dies, .int .i64 g.hab.keep, .int .i64 g.first, .slice A1 g.start.length c1, .slice A2 g.seas.length c2],
        .func (.func 150) #[] #[.pointer (some ⟨w.heap.size + 1 + 1, 0, none⟩)], .int .i64 (g.first + k), recK g d r k, undef, undef, undef, undef, undef, undef], defers := [] })
    (fun k b a' A B hx hj => by
      obtain ⟨b', hb, hc, ha⟩ := hx
      exact ⟨b', hb, (hj b' hb).trans hc, ha⟩) ?assign ?body ?done ?stop
  case assign =>
    rintro l k r' W1 K hr' ⟨_, _, _⟩ hK
    have hk : k < (rowsP g d r).length := (List.getElem?_eq_some_iff.1 hr').1
    rw [rowsP_len] at hk
    rw [rowsP_at (by omega)] at hr'
    obtain rfl : rowP g d r k = r' := Option.some.inj hr'
    obtain ⟨t0, t1, t2, t3, t4, t5, t6, ht⟩ := len7 (goneK_len HF.out (show k ≤ g.seas.length by omega))
    obtain ⟨f0, f1, f2, f3, f4, f5, f6, hf⟩ := len7 (stateP_len (r := r) (ss := g.seas) HF.out.d6 (start7_len (g := g) (by have := HF.out.st; have := HF.out.d6; omega)) k (by omega))
    rw [show rowP g d r k = #[.int .i64 (g.first + k), recK g d r k] from rfl]
    rw [recK_eq, ht, hf] at hK ⊢
    simp only [recV, recC, ints, List.map_cons, List.map_nil, List.cons_append, List.nil_append] at hK ⊢
    have hKK := Lib.hid hK
    clear hK hr' ht hf
    gi_wp2_with
      (show wpListIn _ _ _ _ _ (Oper.mk none (Op.store _ (Operand.tmp 4) (Operand.tmp 8)) _ _ _ _ :: _) _ _
       refine wpListIn_store_blk 139 (.tmp 4) (.tmp 8) rfl rfl rfl rfl (alloc_at0 W1 _) rfl ?h1 rowRecord ?_
       case h1 => simp [Value.oneCell']
       intro w2 hP2 hM2
       have H2 := Lib.hid (And.intro hP2 hM2)
       clear hP2 hM2)
    exact hKK.out _ _ (((Below.refl _ W1).alloc (Nat.le_refl _) _).trans (H2.out.1.below (Nat.le_refl _))) ⟨_, Nat.le_refl _, H2.out.2, rfl⟩
  case body =>
    rintro l k b r' a' W1 hr' hwb hbW' ⟨hcut, hres, hbel⟩ ⟨b', hbb, hc, rfl⟩
    have hcc := fun i => cell_of_row _ b' i _ _ _ hc
    simp only [recC] at hcc
    have HH := Lib.hid (And.intro hcut (And.intro hres hbel))
    have hcr := cell_of_row _ (w.heap.size + 1) 0 _ _ _ hres
    have hfr := frozen_of_row W1 (w.heap.size + 1) 0 _ _ hres
    clear hcut hres hbel hc hr'
    by_cases hle : cutK g k ≤ ripeK g d r k
    · gi_wp2_with fail
      exact ⟨KeepsX.refl _ _, fun j hj => by
        rcases Nat.lt_succ_iff_lt_or_eq.1 hj with h | rfl
        · exact HH.out.1 j h
        · exact hle, HH.out.2.1, HH.out.2.2⟩
    · have hset := heap_setCell_same W1 (w.heap.size + 1) 0 _ _ (.bool false) HH.out.2.1
      have HS := Lib.hid (show _ = some (Obj.cells #[.bool false] 4 (0, 0)) from hset)
      clear hset
      gi_wp2_with fail
      exact ⟨(KeepsX.refl _ _).setCell (.inl (.inl rfl)) _, rfl, HS.out, HH.out.2.2.setCell (by simp) _⟩
  case done =>
    rintro D W3 rfl ⟨hcuts, hres, hbel⟩ hD
    have hcr := cell_of_row _ (w.heap.size + 1) 0 _ _ _ hres
    have hfr := frozen_of_row W3 (w.heap.size + 1) 0 _ _ hres
    have HH := Lib.hid (And.intro hcuts (And.intro hres (And.intro hbel hD)))
    clear hcuts hres hbel hD
    gi_wp2_with fail
    have hset := heap_setCell_same W3 (w.heap.size + 1) 0 _ _ (.bool true) HH.out.2.1
    have hset' : (W3.setCell ⟨w.heap.size + 1, 0, none⟩ (.bool true)).heap[w.heap.size + 1]? = some (.cells #[.bool true] 4 (0, 0)) := hset
    have hd2 := (heap_setCell_other W3 ⟨w.heap.size + 1, 0, none⟩ W.heap.size (.bool true) (by simp; omega)).trans HH.out.2.2.2
    have hc := cell_of_row _ (w.heap.size + 1) 0 _ _ _ ((World.putObj_heap_other (r := W.heap.size) (o := .deferred none) (show w.heap.size + 1 ≠ W.heap.size by omega)).trans hset')
    have e : cutsP g d r = true := by
      simp only [cutsP, decide_eq_true_eq]
      intro k hk
      exact HH.out.1 (k + 1) (by rw [rowsP_len]; omega)
    rw [e]
    refine ⟨by simp, .inl ⟨_, _, rfl, run_takeDeferred hd2, ?_⟩⟩
    refine ⟨.bool true, by simp [results, Tryz.results123, go_sem, hc], rfl, ?_⟩
    exact below_putObj (HH.out.2.2.1.setCell (by simp) _) (by omega) _
  case stop =>
    rintro D c k W3 rfl hk ⟨rfl, hlt, hres, hbel⟩ hD
    have hcr := cell_of_row _ (w.heap.size + 1) 0 _ _ _ hres
    have HH := Lib.hid (And.intro hlt (And.intro hres (And.intro hbel hD)))
    clear hlt hres hbel hD
    gi_wp2_with fail
    have hc := cell_of_row _ (w.heap.size + 1) 0 _ _ _ ((World.putObj_heap_other (r := W.heap.size) (o := .deferred none) (show w.heap.size + 1 ≠ W.heap.size by omega)).trans HH.out.2.1)
    rw [rowsP_len] at hk
    have e : cutsP g d r = false := by
      simp only [cutsP, decide_eq_false_iff_not]
      intro h
      have hlt := HH.out.1
      cases k with
      | zero => simp [cutK, ripeK] at hlt
      | succ k => have := h k (by omega); omega
    rw [e]
    refine ⟨by simp, .inl ⟨_, _, rfl, run_takeDeferred HH.out.2.2.2, ?_⟩⟩
    refine ⟨.bool false, by simp [results, Tryz.results123, go_sem, hc], rfl, ?_⟩
    exact below_putObj HH.out.2.2.1 (by omega) _

end Go.Proofs.YtpnnlmaipcjkmaaGreat

namespace Go.Proofs.YtpnnlmaipcjkmaaGreat

def pad7 (l : List Int) : List Int := l ++ List.replicate (7 - l.length) 0

theorem start7_pad (g : Gr) : start7 g = pad7 g.start := rfl
theorem pad7_len {l : List Int} (h : l.length ≤ 7) : (pad7 l).length = 7 := by simp [pad7]; omega
theorem pad7_at {l : List Int} {i : Nat} (hi : i < l.length) : (pad7 l)[i]?.getD 0 = l[i]?.getD 0 := by
  simp [pad7, List.getElem?_append_left hi]
theorem pad7_set {l : List Int} {i : Nat} (hi : i < l.length) (x : Int) : (pad7 l).set i x = pad7 (l.set i x) := by
  simp [pad7, hi]
theorem pad7_drop {l : List Int} {r : Nat} (hr : r ≤ l.length) : ((pad7 l).drop r).sum = (l.drop r).sum := by
  unfold pad7
  rw [List.drop_append_of_le_length hr, List.sum_append]
  simp

theorem pad7_cut {m : List Int} {n : Int} {hi : Nat} (hh : hi < m.length) (h7 : m.length ≤ 7) : ∀ k, k ≤ hi + 1 →
    (cutTo (pad7 m) n hi k).1 = pad7 (cutTo m n hi k).1 ∧ (cutTo (pad7 m) n hi k).2.1 = pad7 (cutTo m n hi k).2.1 ∧ (cutTo (pad7 m) n hi k).2.2 = (cutTo m n hi k).2.2 := by
  intro k
  induction k with
  | zero =>
    intro _
    refine ⟨rfl, ?_, rfl⟩
    simp only [cutTo, pad7_len h7]
    simp only [pad7, List.length_replicate, List.replicate_append_replicate]
    congr 1
    omega
  | succ k ih =>
    intro hk
    obtain ⟨h1, h2, h3⟩ := ih (by omega)
    have hl := cutTo_len m n hi k
    have e : (pad7 (cutTo m n hi k).1)[hi - k]?.getD 0 = (cutTo m n hi k).1[hi - k]?.getD 0 := pad7_at (by rw [hl.1]; omega)
    simp only [cutTo]
    rw [h1, h2, h3, e]
    exact ⟨pad7_set (by rw [hl.1]; omega) _, pad7_set (by rw [hl.2]; omega) _, rfl⟩

theorem cutTo_low {c : List Int} {n : Int} {hi : Nat} : ∀ k, k ≤ hi + 1 → ∀ i, i + k ≤ hi → (cutTo c n hi k).1[i]? = c[i]? ∧ (cutTo c n hi k).2.1[i]? = (List.replicate c.length (0 : Int))[i]? := by
  intro k
  induction k with
  | zero => intro _ i _; exact ⟨rfl, rfl⟩
  | succ k ih =>
    intro hk i hik
    have := ih (by omega) i (by omega)
    simp only [cutTo]
    rw [List.getElem?_set_ne (by omega), List.getElem?_set_ne (by omega)]
    exact this

theorem drop_sum_succ {c : List Int} {i : Nat} (hi : i < c.length) : (c.drop i).sum = c[i]?.getD 0 + (c.drop (i + 1)).sum := by
  rw [List.drop_eq_getElem_cons hi, List.sum_cons]
  simp [hi]

theorem cutTo_rest {c : List Int} {n : Int} {M : Int} (hb : Bnd 0 M c) (hn : 0 ≤ n) : ∀ k, k ≤ c.length → (cutTo c n (c.length - 1) k).2.2 = max 0 (n - (c.drop (c.length - k)).sum) := by
  intro k
  induction k with
  | zero => intro _; simp [cutTo]; omega
  | succ k ih =>
    intro hk
    have h := ih (by omega)
    have hlow := (cutTo_low (c := c) (n := n) (hi := c.length - 1) k (by omega) (c.length - 1 - k) (by omega)).1
    have hx := hb (c.length - 1 - k) (by omega)
    have hs := drop_sum_succ (c := c) (i := c.length - 1 - k) (by omega)
    simp only [cutTo]
    rw [h, hlow, show c.length - (k + 1) = c.length - 1 - k by omega, hs, show c.length - 1 - k + 1 = c.length - k by omega]
    generalize c[c.length - 1 - k]?.getD 0 = x at hx ⊢
    generalize (c.drop (c.length - k)).sum = S
    omega

theorem cutTo_same {c : List Int} {n : Int} {M : Int} (hb : Bnd 0 M c) (_ : M ≤ 1000000) (hn : 0 ≤ n) (_ : n ≤ M) {r : Nat} (hr : r < c.length) (hle : n ≤ (c.drop r).sum) : ∀ j, j ≤ r →
    cutTo c n (c.length - 1) (c.length - r + j) = cutTo c n (c.length - 1) (c.length - r) := by
  intro j
  induction j with
  | zero => intro _; rfl
  | succ j ih =>
    intro hj
    have h := ih (by omega)
    have hrest := cutTo_rest hb hn (c.length - r) (by omega)
    rw [show c.length - (c.length - r) = r by omega] at hrest
    have h0 : (cutTo c n (c.length - 1) (c.length - r)).2.2 = 0 := by rw [hrest]; omega
    have hlow := cutTo_low (c := c) (n := n) (hi := c.length - 1) (c.length - r + j) (by omega) (c.length - 1 - (c.length - r + j)) (by omega)
    have hx := hb (c.length - 1 - (c.length - r + j)) (by omega)
    have hi : c.length - 1 - (c.length - r + j) < c.length := by omega
    rw [h] at hlow
    rw [show c.length - r + (j + 1) = (c.length - r + j) + 1 by omega]
    simp only [cutTo]
    rw [h, h0, hlow.1]
    generalize c.length - 1 - (c.length - r + j) = i at hlow hx hi ⊢
    rw [show min 0 (c[i]?.getD 0) = 0 by omega]
    have hl := cutTo_len c n (c.length - 1) (c.length - r)
    generalize cutTo c n (c.length - 1) (c.length - r) = q at hlow h0 hl ⊢
    obtain ⟨a, b, m⟩ := q
    simp only at hlow h0 hl ⊢
    subst h0
    have ea : a.set i (c[i]?.getD 0 - 0) = a := by
      apply List.ext_getElem?
      intro q
      by_cases hq : i = q
      · subst hq
        rw [List.getElem?_set_self (by rw [hl.1]; exact hi), hlow.1]
        simp [hi]
      · rw [List.getElem?_set_ne hq]
    have eb : b.set i 0 = b := by
      apply List.ext_getElem?
      intro q
      by_cases hq : i = q
      · subst hq
        rw [List.getElem?_set_self (by rw [hl.2]; exact hi), hlow.2]
        simp [hi]
      · rw [List.getElem?_set_ne hq]
    rw [ea, eb]
    rfl

structure YearFine (d r : Nat) (l : List Int) (p : Int × Int) : Prop where
  len : l.length = d + 1
  d6 : d ≤ 6
  r1 : 1 ≤ r
  rd : r ≤ d
  bnd : Bnd 0 30 l
  s : 0 ≤ p.1 ∧ p.1 ≤ 30
  n : 0 ≤ p.2 ∧ p.2 ≤ 30

theorem laterP_pad {d r : Nat} {l : List Int} {p : Int × Int} (h : YearFine d r l p) : laterP d (pad7 l) p.1 = pad7 (nowLL1 l p.1) := by
  have e : nowLL1 l p.1 = p.1 :: l.take d := by
    unfold nowLL1 ageL
    rw [h.len]
    simp
  rw [e]
  have hl := h.len
  have hd := h.d6
  simp only [laterP, pad7, List.length_cons, List.length_take, List.cons_append]
  rw [List.take_append_of_le_length (by omega)]
  congr 3
  omega

theorem ripeP_pad {d r : Nat} {l : List Int} {p : Int × Int} (h : YearFine d r l p) : ripeP d r (pad7 l) p = ((nowLL1 l p.1).drop r).sum := by
  unfold ripeP
  rw [laterP_pad h, pad7_drop (by rw [nowL_lenL1, h.len]; have := h.rd; omega)]

theorem stepP_pad {d r : Nat} {l : List Int} {p : Int × Int} (h : YearFine d r l p) (hok : yearOk r l p.1 p.2 = true) :
    stepP d r (pad7 l) p = pad7 (yearL l p.1 p.2) ∧ goneP d r (pad7 l) p = pad7 (goneL l p.1 p.2) := by
  have hl := nowL_lenL1 l p.1
  have hb := nowL_bnd h.bnd h.s.1 h.s.2
  have h0 := h.len
  have hd := h.d6
  have hrd := h.rd
  have hr1 := h.r1
  simp only [yearOk, decide_eq_true_eq] at hok
  have hc := pad7_cut (m := nowLL1 l p.1) (n := p.2) (hi := d) (by omega) (by omega) (d - r + 1) (by omega)
  have hs := cutTo_same hb (by omega) h.n.1 h.n.2 (r := r) (by omega) hok r (Nat.le_refl _)
  rw [hl, h0, show d + 1 - r + r = d + 1 by omega, show d + 1 - r = d - r + 1 by omega, show d + 1 - 1 = d by omega] at hs
  unfold stepP goneP yearL goneL
  rw [laterP_pad h, h0, show d + 1 - 1 = d by omega, hs]
  exact ⟨hc.1, hc.2.1⟩

end Go.Proofs.YtpnnlmaipcjkmaaGreat

namespace Go.Proofs.YtpnnlmaipcjkmaaGreat

def cutsAll (d r : Nat) : List Int → List (Int × Int) → Bool
  | _, [] => true
  | c, p :: ss => decide (p.2 ≤ ripeP d r c p) && cutsAll d r (stepP d r c p) ss

theorem cutsAll_iff {d r : Nat} : ∀ {ss : List (Int × Int)} {c : List Int}, cutsAll d r c ss = true ↔ ∀ k, k < ss.length → (ss[k]?.getD (0, 0)).2 ≤ ripeP d r (stateP d r c ss k) (ss[k]?.getD (0, 0)) := by
  intro ss
  induction ss with
  | nil => intro c; simp [cutsAll]
  | cons p ss ih =>
    intro c
    simp only [cutsAll, Bool.and_eq_true, decide_eq_true_eq, ih]
    constructor
    · rintro ⟨h0, h1⟩ k hk
      cases k with
      | zero => simpa [stateP] using h0
      | succ k => have := h1 k (by simpa using hk); simpa [stateP] using this
    · intro h
      refine ⟨by have := h 0 (by simp); simpa [stateP] using this, fun k hk => ?_⟩
      have := h (k + 1) (by simpa using hk)
      simpa [stateP] using this

theorem cutsP_eq (g : Gr) (d r : Nat) : cutsP g d r = cutsAll d r (start7 g) g.seas := by
  rw [Bool.eq_iff_iff, cutsAll_iff]
  unfold cutsP
  simp only [cutK, ripeK]
  exact decide_eq_true_iff

theorem seasOk_link {d r : Nat} (d6 : d ≤ 6) (r1 : 1 ≤ r) (rd : r ≤ d) : ∀ (ss : List (Int × Int)) (l : List Int), l.length = d + 1 → Bnd 0 30 l → seasOk r l ss = (seasR ss && cutsAll d r (pad7 l) ss) := by
  intro ss
  induction ss with
  | nil => intro l _ _; rfl
  | cons p ss ih =>
    intro l hl hb
    have eR : seasR (p :: ss) = (inR p.1 0 30 && inR p.2 0 30 && seasR ss) := by simp [seasR]
    rw [eR]
    simp only [seasOk, cutsAll]
    rcases Bool.eq_false_or_eq_true (inR p.1 0 30) with h1 | h1
    · rcases Bool.eq_false_or_eq_true (inR p.2 0 30) with h2 | h2
      · have hf : YearFine d r l p := ⟨hl, d6, r1, rd, hb, inR_iff.1 h1, inR_iff.1 h2⟩
        have er := ripeP_pad hf
        rw [h1, h2]
        rcases Bool.eq_false_or_eq_true (yearOk r l p.1 p.2) with hy | hy
        · have hst := stepP_pad hf hy
          rw [ih (yearL l p.1 p.2) (by rw [yearL_len, hl]) (yearL_bnd hb (by omega) hf.s.1 hf.s.2 hf.n.1 hf.n.2), hst.1, hy]
          have : decide (p.2 ≤ ripeP d r (pad7 l) p) = true := by rw [er]; exact hy
          rw [this]
          simp
        · have : decide (p.2 ≤ ripeP d r (pad7 l) p) = false := by rw [er]; exact hy
          rw [hy, this]
          simp
      · rw [h2]; simp
    · rw [h1]; simp

theorem fine_of {g : Gr} (h : (okPre g && okStart g && seasR g.seas) = true) : ∃ d r, Fine g d r ∧ g.hab.ripe.toNat = r := by
  simp only [Bool.and_eq_true] at h
  obtain ⟨⟨h1, h2⟩, h3⟩ := h
  obtain ⟨d, r, P⟩ := okPre_pre h1
  exact ⟨d, r, ⟨P.hd, P.hr, P.r1, P.rd, P.d6, P.ls, okStart_at h2, h3, P.l60, P.f0, P.f1⟩, by rw [P.hr, Int.toNat_natCast]⟩

theorem start_bnd30 {l : List Int} (h : Bnd 0 9 l) : Bnd 0 30 l := fun k hk => by have := h k hk; omega

theorem okGrove_link {g : Gr} {d r : Nat} (hf : Fine g d r) (h : (okPre g && okStart g && seasR g.seas) = true) : okGrove g = cutsP g d r := by
  rw [cutsP_eq, start7_pad]
  have hl := seasOk_link hf.d6 hf.r1 hf.rd g.seas g.start hf.st (start_bnd30 hf.sb)
  simp only [Bool.and_eq_true] at h
  unfold okGrove
  rw [hf.hr, Int.toNat_natCast, hl, h.1.1, h.1.2, h.2]
  simp

theorem okGrove_not {g : Gr} (h : (okPre g && okStart g && seasR g.seas) = false) : okGrove g = false := by
  cases h1 : okPre g with
  | false => simp [okGrove, h1]
  | true =>
    cases h2 : okStart g with
    | false => simp [okGrove, h2]
    | true =>
      obtain ⟨d, r, P⟩ := okPre_pre h1
      have h3 : seasR g.seas = false := by rw [h1, h2] at h; simpa using h
      have hl := seasOk_link P.d6 P.r1 P.rd g.seas g.start P.ls (start_bnd30 (okStart_at h2))
      unfold okGrove
      rw [P.hr, Int.toNat_natCast, hl, h3]
      simp

theorem Runs.fine {g : Gr} {d r : Nat} (R : Runs g d r) : Fine g d r := by
  refine ⟨R.pre.hd, R.pre.hr, R.pre.r1, R.pre.rd, R.pre.d6, R.pre.ls, R.b9, seasR_all fun k hk => ?_, R.pre.l60, R.pre.f0, R.pre.f1⟩
  have := R.yr k hk
  simp [allIn, inR]
  omega

theorem state_link {g : Gr} {d r : Nat} (R : Runs g d r) : ∀ k, k ≤ g.seas.length → stateP d r (start7 g) g.seas k = pad7 (runL g.start (g.seas.take k)) ∧ goneK g d r k = pad7 (goneAt g k) := by
  have year : ∀ k, k < g.seas.length → YearFine d r (runL g.start (g.seas.take k)) (g.seas[k]?.getD (0, 0)) := fun k hk => by
    have := R.yr k hk
    exact ⟨by rw [runL_len, R.pre.ls], R.pre.d6, R.pre.r1, R.pre.rd, R.bnd k (by omega), this.1, this.2.1⟩
  have st : ∀ k, k ≤ g.seas.length → stateP d r (start7 g) g.seas k = pad7 (runL g.start (g.seas.take k)) := by
    intro k
    induction k with
    | zero => intro _; simp [stateP, runL, start7_pad]
    | succ k ih =>
      intro hk
      rw [stateP_succ (by omega), ih (by omega), runL_succ _ _ _ (by omega)]
      exact (stepP_pad (year k (by omega)) (R.yr k (by omega)).2.2).1
  intro k hk
  refine ⟨st k hk, ?_⟩
  cases k with
  | zero =>
    have h1 := R.pre.ls
    have h2 := R.pre.d6
    simp only [goneK, goneAt, pad7, List.length_replicate, List.replicate_append_replicate]
    rw [show g.start.length + (7 - g.start.length) = 7 by omega]
    rfl
  | succ k =>
    simp only [goneK, goneAt]
    rw [st k (by omega)]
    exact (stepP_pad (year k (by omega)) (R.yr k (by omega)).2.2).2

end Go.Proofs.YtpnnlmaipcjkmaaGreat

namespace Go.Proofs.YtpnnlmaipcjkmaaGreat
open Go.RowKit

set_option maxHeartbeats 1000000 in
theorem check_anyL1 (g : Gr) (A1 : Option Addr) (c1 : Nat) (A2 : Option Addr) (c2 : Nat) (B : Nat) (w : World) (hB : B ≤ w.heap.size) (hG : GrAt w B g A1 c1 A2 c2) :
    Calls Tryz.prog 78 #[grv g A1 c1 A2 c2] w fun e w' => e = .returned (.int .i64 (errG g)) ∧ Below w.heap.size w w' := by
  obtain ⟨W0, hW0⟩ : ∃ W0, w.alloc (.cells (gcs g A1 c1 A2 c2) 74) = W0 := ⟨_, rfl⟩
  have hb0 : Below w.heap.size w W0 := by rw [← hW0]; exact (Below.refl _ _).alloc (Nat.le_refl _) _
  have hs0 : W0.heap.size = w.heap.size + 1 := by rw [← hW0]; simp
  have hG0 := hG.below (hb0.mono hB)
  have h1 := validBounds_any g A1 c1 A2 c2 B W0 (by omega) hG0
  have hbox := box_cells (A := .cells (gcs g A1 c1 A2 c2) 74) (w := w) rfl (w' := W0) (by rw [hW0]; exact Below.refl _ _)
  have H1 := Lib.hid h1
  have HG := Lib.hid hG0
  have Hb := Lib.hid hb0
  clear h1 hG hG0 hb0
  rcases Bool.eq_false_or_eq_true (okPre g && okStart g && seasR g.seas) with hv | hv
  · obtain ⟨d, r, hf, -⟩ := fine_of hv
    have hl := okGrove_link hf hv
    rw [hv] at H1
    unfold errG
    rw [hl]
    have HF := Lib.hid hf
    clear hf hv hl
    rcases Bool.eq_false_or_eq_true (cutsP g d r) with hc | hc
    all_goals
      have hc' := Lib.hid hc
      rw [hc]
      clear hc
      unfold grv
      go_enter Tryz.func78, Tryz.ntmps78
      go_wp2_with (first
        | (go_at_call 122
           try rw [show w.alloc (.cells #[.int .i64 g.id, .int .i64 g.hab.lo, .int .i64 g.hab.hi, .int .i64 g.hab.bears, .int .i64 g.hab.ripe, .int .i64 g.hab.dies, .int .i64 g.hab.keep, .int .i64 g.first, .slice A1 g.start.length c1, .slice A2 g.seas.length c2] 74) = W0 from hW0]
           refine H1.out.mono ?_
           rintro e w1 ⟨rfl, hB1⟩
           have hbox1 : ∀ i, w1.cell? ⟨w.heap.size, i, none⟩ = _ := fun i => (hB1.cell (p := ⟨w.heap.size, i, none⟩) (by simp; omega)).trans (hbox i)
           have HB1 := Lib.hid hB1
           clear hB1)
        | (go_at_call 123
           refine (validCuts_any g A1 c1 A2 c2 d r HF.out B _ (by have := HB1.out.size; omega) (HG.out.below (HB1.out.mono (by omega)))).mono ?_
           rintro e w2 ⟨rfl, hB2⟩
           rw [hc'.out]
           have HB2 := Lib.hid hB2
           clear hB2))
      go_ret
      exact ⟨rfl, (Hb.out.trans (HB1.out.mono (by omega))).trans (HB2.out.mono (by have := HB1.out.size; omega))⟩
  · have hl := okGrove_not hv
    rw [hv] at H1
    unfold errG
    rw [hl]
    clear hl hv
    unfold grv
    go_enter Tryz.func78, Tryz.ntmps78
    go_wp2_with
      (go_at_call 122
       try rw [show w.alloc (.cells #[.int .i64 g.id, .int .i64 g.hab.lo, .int .i64 g.hab.hi, .int .i64 g.hab.bears, .int .i64 g.hab.ripe, .int .i64 g.hab.dies, .int .i64 g.hab.keep, .int .i64 g.first, .slice A1 g.start.length c1, .slice A2 g.seas.length c2] 74) = W0 from hW0]
       refine H1.out.mono ?_
       rintro e w1 ⟨rfl, hB1⟩
       have HB1 := Lib.hid hB1
       clear hB1)
    go_ret
    exact ⟨rfl, Hb.out.trans (HB1.out.mono (by omega))⟩

end Go.Proofs.YtpnnlmaipcjkmaaGreat

namespace Go.Proofs.YtpnnlmaipcjkmaaGreat
open Go.RowKit Go.Shelf

attribute [local go_sem] Oper.semAt_some

def recR (g : Gr) (y : Int) : Value := if okGrove g = true ∧ hasY g y = true then recK g g.hab.dies.toNat g.hab.ripe.toNat (y - g.first).toNat else recV (0, 0) 0 zero7 zero7

structure Four (w : World) (c : Nat) (y : Int) (rc : Array Value) (er : Int) : Prop where
  y : w.heap[c + 1]? = some (.cells #[.int .i64 y] 3 (0, 0))
  r : w.heap[c + 1 + 1]? = some (.cells rc 139 (0, 0))
  e : w.heap[c + 1 + 1 + 1]? = some (.cells #[.int .i64 er] 35 (0, 0))
theorem Four.below {w w' : World} {c : Nat} {y : Int} {rc : Array Value} {er : Int} {B : Nat} (h : Four w c y rc er) (hb : Below B w w') (hB : c + 4 ≤ B) : Four w' c y rc er :=
  ⟨(hb.block _ (by omega)).trans h.y, (hb.block _ (by omega)).trans h.r, (hb.block _ (by omega)).trans h.e⟩

theorem four_new (w : World) (G : Obj) (y : Int) (rc : Array Value) : Four ((((w.alloc G).alloc (.cells #[.int .i64 y] 3)).alloc (.cells rc 139)).alloc (.cells #[.int .i64 0] 35)) w.heap.size y rc 0 :=
  ⟨(Below.heap_alloc _ _ _ (by simp <;> omega)).trans (alloc3_at1 w _ _ _), (Below.heap_alloc _ _ _ (by simp)).trans (alloc3_at2 w _ _ _), by have := alloc_at0 (((w.alloc G).alloc (.cells #[.int .i64 y] 3)).alloc (.cells rc 139)) (.cells #[.int .i64 0] 35); simpa using this⟩
theorem below4 (w : World) (G Y R E : Obj) : Below w.heap.size w ((((w.alloc G).alloc Y).alloc R).alloc E) :=
  ((((Below.refl _ _).alloc (Nat.le_refl _) _).alloc (by simp) _).alloc (by simp; omega) _).alloc (by simp; omega) _

abbrev zero17 : Array Value := #[.int .i64 0, .int .i64 0, .int .i64 0, .int .i64 0, .int .i64 0, .int .i64 0, .int .i64 0, .int .i64 0, .int .i64 0, .int .i64 0, .int .i64 0, .int .i64 0, .int .i64 0, .int .i64 0, .int .i64 0, .int .i64 0, .int .i64 0]

set_option maxHeartbeats 4000000 in
theorem recordOf_bad (g : Gr) (y : Int) (A1 : Option Addr) (c1 : Nat) (A2 : Option Addr) (c2 : Nat) (B : Nat) (w : World) (hB : B ≤ w.heap.size) (hG : GrAt w B g A1 c1 A2 c2) (hno : okGrove g = false) :
    Calls Tryz.prog 64 #[grv g A1 c1 A2 c2, .int .i64 y] w fun e w' => e = .returned (.tuple #[recR g y, .int .i64 (standErr g y)]) ∧ Below w.heap.size w w' := by
  have e1 : recR g y = .agg #[.int .i64 0, .int .i64 0, .int .i64 0, .int .i64 0, .int .i64 0, .int .i64 0, .int .i64 0, .int .i64 0, .int .i64 0, .int .i64 0, .int .i64 0, .int .i64 0, .int .i64 0, .int .i64 0, .int .i64 0, .int .i64 0, .int .i64 0] := by
    simp only [recR, hno]; rfl
  have e2 : standErr g y = 10 := by simp [standErr, hno]
  have e3 : errG g = 10 := by simp [errG, hno]
  rw [e1, e2]
  have HG := Lib.hid hG
  have E3 := Lib.hid e3
  clear hG e1 e2 e3 hno
  obtain ⟨W4, hW4⟩ : ∃ W4, ((((w.alloc (.cells (gcs g A1 c1 A2 c2) 74)).alloc (.cells #[.int .i64 y] 3)).alloc (.cells zero17 139)).alloc (.cells #[.int .i64 0] 35)) = W4 := ⟨_, rfl⟩
  have hF4 : Four W4 w.heap.size y zero17 0 := by rw [← hW4]; exact four_new w _ y _
  have hb4 : Below w.heap.size w W4 := by rw [← hW4]; exact below4 w _ _ _ _
  have hs4 : W4.heap.size = w.heap.size + 4 := by rw [← hW4]; simp
  have hcG : ∀ i, W4.cell? ⟨w.heap.size, i, none⟩ = _ := fun i => cell_of_row _ w.heap.size i _ _ _ (by rw [← hW4]; exact (Below.heap_alloc _ _ _ (by simp; omega)).trans (alloc3_at0 w _ _ _))
  have HF4 := Lib.hid hF4
  have Hb4 := Lib.hid hb4
  clear hF4 hb4
  unfold grv
  refine (callsIn_wide (n := 4)).1 ?_
  refine callsIn_of_wp_marks Tryz.func64 rfl trivial ?_ rfl
  simp only [Tryz.ntmps64, List.size_toArray, List.length_cons, List.length_nil, Nat.reduceAdd, Nat.reduceSub, Array.replicate_succ, Array.replicate_zero, List.push_toArray, List.append_toArray, List.nil_append, List.cons_append]
  gi_wp2_with (first
    | (refine ⟨trivial, ?_⟩
       gi_at_call 78
       refine (callsIn_wide.2 (check_anyL1 g A1 c1 A2 c2 B W4 (by omega) (HG.out.below (Hb4.out.mono hB)))).mono ?_
       rintro e w1 ⟨rfl, hB1⟩
       rw [E3.out]
       have F1 := Lib.hid (HF4.out.below hB1 (by omega))
       have B1 := Lib.hid (Hb4.out.trans (hB1.mono (by omega)))
       clear hB1)
    | (show wpListIn _ _ _ _ _ (Oper.mk none (Op.store _ (Operand.tmp 4) (Operand.tmp 13)) _ _ _ _ :: _) _ _
       refine wpListIn_store_blk 139 (.tmp 4) (.tmp 13) rfl rfl rfl rfl F1.out.r rfl ?h1 rowRecord ?_
       case h1 => simp [Value.oneCell']
       intro w2 hP2 hM2
       have hE2 := (hP2.other (w.heap.size + 1 + 1 + 1) (by omega)).trans F1.out.e
       have hce := cell_of_row _ (w.heap.size + 1 + 1 + 1) 0 _ _ _ hE2
       have hfe := frozen_of_row _ (w.heap.size + 1 + 1 + 1) 0 _ _ hE2
       have H2 := Lib.hid (And.intro hE2 (And.intro hM2 (B1.out.trans (hP2.below (by omega)))))
       clear hE2 hP2 hM2))
  have hset := heap_setCell_same w2 (w.heap.size + 1 + 1 + 1) 0 _ _ (.int .i64 10) H2.out.1
  have hset' : (w2.setCell ⟨w.heap.size + 1 + 1 + 1, 0, none⟩ (.int .i64 10)).heap[w.heap.size + 1 + 1 + 1]? = some (.cells #[.int .i64 10] 35 (0, 0)) := hset
  have hce3 := fun i => cell_of_row _ (w.heap.size + 1 + 1 + 1) i _ _ _ hset'
  have hcr := fun i => cell_of_row _ (w.heap.size + 1 + 1) i _ _ _ ((heap_setCell_other w2 ⟨w.heap.size + 1 + 1 + 1, 0, none⟩ (w.heap.size + 1 + 1) (.int .i64 10) (by simp)).trans H2.out.2.1)
  refine ⟨.tuple #[.agg zero17, .int .i64 10], by simp [results, Tryz.results64, go_sem, hce3, hcr], rfl, ?_⟩
  exact H2.out.2.2.setCell (by simp; omega) _

end Go.Proofs.YtpnnlmaipcjkmaaGreat
