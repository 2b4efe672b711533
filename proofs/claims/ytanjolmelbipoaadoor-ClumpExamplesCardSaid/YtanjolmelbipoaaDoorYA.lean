/-
  Numbers in memory; sums; the plain model of groves; steps of alloc, make and clone.
-/
import Derived.Test.YtanjolmelbipoaaDoorProg
import Derived.WalkKit
import Derived.WalkSpells
import Derived.WalkLawsBesides
import Derived.Lib.Hide
import Derived.Deep.QuietTactic
import Derived.BigQuiet
import Derived.RegionTactic
import Derived.ChangeAlike
import Derived.Outline
import Derived.Maps.AppendAt
namespace Go.Proofs.YtanjolmelbipoaaDoor
open Go.RowKit

/-- The slice at address A holds the ints zs, in a block below B (nothing is asked of an empty one). -/
def Ints (w : World) (B : Nat) (A : Option Addr) (zs : List Int) : Prop :=
  0 < zs.length → ∃ b off, A = some ⟨b, off, none⟩ ∧ b < B ∧ ∀ k, k < zs.length → w.cell? ⟨b, off + k, none⟩ = some (.int .i64 (zs[k]?.getD 0))

theorem Ints.below {w w' : World} {B : Nat} {A : Option Addr} {zs : List Int} (h : Ints w B A zs) (hb : Below B w w') : Ints w' B A zs := fun hl => by
  obtain ⟨b, off, rfl, hlt, hc⟩ := h hl
  exact ⟨b, off, rfl, hlt, fun k hk => (hb.cell (p := ⟨b, off + k, none⟩) hlt).trans (hc k hk)⟩
theorem Ints.mono {w : World} {B B' : Nat} {A : Option Addr} {zs : List Int} (h : Ints w B A zs) (hB : B ≤ B') : Ints w B' A zs := fun hl => by
  obtain ⟨b, off, rfl, hlt, hc⟩ := h hl
  exact ⟨b, off, rfl, by omega, hc⟩

theorem ret_int {k : IntKind} {a b : Int} (h : a = b) : Ending.returned (.int k a) = .returned (.int k b) := by rw [h]

/-- Each number is from lo to hi. -/
def Bnd (lo hi : Int) (zs : List Int) : Prop := ∀ k, k < zs.length → lo ≤ zs[k]?.getD 0 ∧ zs[k]?.getD 0 ≤ hi

theorem sum_take_succ (zs : List Int) (k : Nat) (hk : k < zs.length) : (zs.take (k + 1)).sum = (zs.take k).sum + zs[k]?.getD 0 := by
  rw [List.take_add_one, List.sum_append]; simp [List.getElem?_eq_getElem hk]
theorem sum_take_bnd {lo hi : Int} {zs : List Int} (h : Bnd lo hi zs) : ∀ k, k ≤ zs.length → lo * k ≤ (zs.take k).sum ∧ (zs.take k).sum ≤ hi * k := by
  intro k
  induction k with
  | zero => simp
  | succ k ih =>
    intro hk
    have h1 := ih (by omega)
    have h2 := h k (by omega)
    rw [sum_take_succ zs k (by omega)]
    have e1 : lo * ((k + 1 : Nat) : Int) = lo * k + lo := by push_cast; rw [Int.mul_add]; simp
    have e2 : hi * ((k + 1 : Nat) : Int) = hi * k + hi := by push_cast; rw [Int.mul_add]; simp
    omega

theorem alloc_at0 (w : World) (A : Obj) : (w.alloc A).heap[w.heap.size]? = some A := heap_alloc_new w A
theorem alloc2_at0 (w : World) (A B : Obj) : ((w.alloc A).alloc B).heap[w.heap.size]? = some A := (Below.heap_alloc _ _ _ (by simp)).trans (alloc_at0 w A)
theorem alloc2_at1 (w : World) (A B : Obj) : ((w.alloc A).alloc B).heap[w.heap.size + 1]? = some B := by have := alloc_at0 (w.alloc A) B; simpa using this
theorem alloc3_at0 (w : World) (A B C : Obj) : (((w.alloc A).alloc B).alloc C).heap[w.heap.size]? = some A := (Below.heap_alloc _ _ _ (by simp; omega)).trans (alloc2_at0 w A B)
theorem alloc3_at1 (w : World) (A B C : Obj) : (((w.alloc A).alloc B).alloc C).heap[w.heap.size + 1]? = some B := (Below.heap_alloc _ _ _ (by simp)).trans (alloc2_at1 w A B)
theorem alloc3_at2 (w : World) (A B C : Obj) : (((w.alloc A).alloc B).alloc C).heap[w.heap.size + 1 + 1]? = some C := by have := alloc_at0 ((w.alloc A).alloc B) C; simpa using this

/-- Two stores into two blocks. -/
theorem set2 {w : World} {P G i j : Nat} {cs ds : Array Value} {t s : TypeId} (hP : w.heap[P]? = some (.cells cs t (0, 0))) (hG : w.heap[G]? = some (.cells ds s (0, 0))) (hne : P ≠ G) (u v : Value) :
    ((w.setCell ⟨G, j, none⟩ u).setCell ⟨P, i, none⟩ v).heap[P]? = some (.cells (cs.setIfInBounds i v) t (0, 0)) ∧
    ((w.setCell ⟨G, j, none⟩ u).setCell ⟨P, i, none⟩ v).heap[G]? = some (.cells (ds.setIfInBounds j u) s (0, 0)) ∧
    ∀ k, k ≠ P → k ≠ G → ((w.setCell ⟨G, j, none⟩ u).setCell ⟨P, i, none⟩ v).heap[k]? = w.heap[k]? :=
  ⟨heap_setCell_same _ _ _ _ _ _ ((heap_setCell_other _ _ _ _ hne).trans hP),
   (heap_setCell_other _ _ _ _ hne.symm).trans (heap_setCell_same _ _ _ _ _ _ hG),
   fun _ h1 h2 => (heap_setCell_other _ _ _ _ h1).trans (heap_setCell_other _ _ _ _ h2)⟩

/-! ### Groves at work: six numbers of the habit, and seven of the culms -/
structure Hab where
  lo : Int
  hi : Int
  bears : Int
  ripe : Int
  dies : Int
  keep : Int

def ints (l : List Int) : List Value := l.map (Value.int .i64)
def hcells (h : Hab) : List Value := [.int .i64 h.lo, .int .i64 h.hi, .int .i64 h.bears, .int .i64 h.ripe, .int .i64 h.dies, .int .i64 h.keep]
def gcells (h : Hab) (c : List Int) : Array Value := (hcells h ++ ints c).toArray
def gv (h : Hab) (c : List Int) : Value := .agg (gcells h c)

theorem len7 {c : List Int} (hc : c.length = 7) : ∃ c0 c1 c2 c3 c4 c5 c6, c = [c0, c1, c2, c3, c4, c5, c6] := by
  match c, hc with
  | [c0, c1, c2, c3, c4, c5, c6], _ => exact ⟨c0, c1, c2, c3, c4, c5, c6, rfl⟩

theorem gcells_at (h : Hab) (c : List Int) (k : Nat) (hk : k < c.length) : (gcells h c)[6 + k]? = some (.int .i64 (c[k]?.getD 0)) := by
  unfold gcells
  rw [List.getElem?_toArray, List.getElem?_append_right (by simp [hcells])]
  simp [hcells, ints, hk]
theorem gcells_set (h : Hab) (c : List Int) (k : Nat) (x : Int) : (gcells h c).setIfInBounds (6 + k) (.int .i64 x) = gcells h (c.set k x) := by
  unfold gcells
  rw [List.setIfInBounds_toArray, List.set_append_right _ _ (by simp [hcells])]
  simp [hcells, ints, List.map_set]

theorem ints_at (c : List Int) (k : Nat) (hk : k < c.length) : (ints c).toArray[k]? = some (.int .i64 (c[k]?.getD 0)) := by
  rw [List.getElem?_toArray]; simp [ints, hk]
theorem ints_set (c : List Int) (k : Nat) (x : Int) : (ints c).toArray.setIfInBounds k (.int .i64 x) = (ints (c.set k x)).toArray := by
  rw [List.setIfInBounds_toArray]; simp [ints, List.map_set]

/-- The culms of a grove in a block of its own, from some age on, are a slice of ints. -/
theorem ints_of_block {w : World} {g B r : Nat} {t : TypeId} {h : Hab} {c : List Int} (hb : w.heap[g]? = some (.cells (gcells h c) t (0, 0))) (hB : g < B) (n : Nat) (hn : r + n ≤ c.length) :
    Ints w B (some ⟨g, 6 + r, none⟩) ((c.drop r).take n) := by
  intro _
  refine ⟨g, 6 + r, rfl, hB, fun k hk => ?_⟩
  simp only [List.length_take, List.length_drop] at hk
  rw [cell_of_row w g _ _ _ _ hb, Nat.add_assoc, gcells_at h c (r + k) (by omega)]
  simp [List.getElem?_take, List.getElem?_drop]
  rw [if_pos (by omega)]

end Go.Proofs.YtanjolmelbipoaaDoor

namespace Go.Proofs.YtanjolmelbipoaaDoor
open Go.RowKit

set_option maxHeartbeats 400000 in
theorem sum_any (A : Option Addr) (cap : Nat) (zs : List Int) (B : Nat) (w : World) (h : Ints w B A zs) (hl : zs.length ≤ 1000) (hb : Bnd 0 1000000 zs) :
    Calls Tryd.prog 47 #[.slice A zs.length cap] w fun e w' => e = .returned (.int .i64 zs.sum) ∧ w = w' := by
  have hbd := sum_take_bnd hb
  have hbd' := Lib.hid hbd
  have hb' := Lib.hid hb
  have h' := Lib.hid h
  clear h hb hbd
  go_enter Tryd.func47, Tryd.ntmps47
  go_wp2
  go_loop [3, 8] (fun t i => ∃ k : Nat, k ≤ zs.length ∧ i = .int .i64 k ∧ t = .int .i64 (zs.take k).sum) (fun _ i => zs.length - (intOf i).toNat)
  case atStart => exact ⟨0, Nat.zero_le _, rfl, by simp⟩
  case round =>
    obtain ⟨k, hk, rfl, rfl⟩ := hrel
    by_cases hlt : k < zs.length
    · obtain ⟨b, off, hA, _, hc⟩ := h'.out (by omega)
      subst hA
      have hcell := hc k hlt
      clear hc
      have hbk := hbd'.out k (by omega)
      have hbb := hb'.out k hlt
      have hs := sum_take_succ zs k hlt
      generalize zs[k]?.getD 0 = x at hcell hbb hs
      have hs' := Lib.hid hs
      clear hs
      go_wp2
      go_round
      case rel => exact ⟨k + 1, by omega, by go_num, by rw [hs'.out]⟩
      case measure => simp [intOf]; omega
    · go_wp2
      go_ret
      exact ⟨ret_int (by rw [List.take_of_length_le (by omega)]), rfl⟩

theorem Bnd.drop {lo hi : Int} {c : List Int} (h : Bnd lo hi c) (r : Nat) : Bnd lo hi (c.drop r) := fun k hk => by
  simp only [List.length_drop] at hk
  have := h (r + k) (by omega)
  simpa [List.getElem?_drop] using this
theorem Bnd.take {lo hi : Int} {c : List Int} (h : Bnd lo hi c) (r : Nat) : Bnd lo hi (c.take r) := fun k hk => by
  simp only [List.length_take] at hk
  have := h k (by omega)
  simpa [List.getElem?_take, show k < r by omega] using this

set_option maxHeartbeats 400000 in
theorem standing_any (h : Hab) (c : List Int) (hc : c.length = 7) (hb : Bnd 0 1000000 c) (w : World) :
    Calls Tryd.prog 36 #[gv h c] w fun e w' => e = .returned (.int .i64 c.sum) ∧ Below w.heap.size w w' := by
  have H := Lib.hid (sum_any (some ⟨w.heap.size, 6, none⟩) 7 c (w.heap.size + 1) (w.alloc (.cells (gcells h c) 71))
    (by have := ints_of_block (B := w.heap.size + 1) (r := 0) (heap_alloc_new w (.cells (gcells h c) 71)) (by omega) 7 (by omega); simpa [List.take_of_length_le (Nat.le_of_eq hc)] using this) (by omega) hb)
  rw [hc] at H
  obtain ⟨c0, c1, c2, c3, c4, c5, c6, rfl⟩ := len7 hc
  simp only [gv, gcells, hcells, ints, List.map_cons, List.map_nil, List.cons_append, List.nil_append] at H ⊢
  go_enter Tryd.func36, Tryd.ntmps36
  go_wp2_with (go_at_call 47; refine (H.out).mono ?_; rintro e w' ⟨rfl, rfl⟩)
  go_ret
  exact ⟨by simp, (Below.refl _ _).alloc (Nat.le_refl _) _⟩

end Go.Proofs.YtanjolmelbipoaaDoor

namespace Go.Proofs.YtanjolmelbipoaaDoor

/-- k steps of a cut of n culms, from the age hi downwards: what is left, what is gone, what is still to be cut. -/
def cutTo (c : List Int) (n : Int) (hi : Nat) : Nat → List Int × List Int × Int
  | 0 => (c, List.replicate c.length 0, n)
  | k + 1 =>
    let s := cutTo c n hi k
    let t := min s.2.2 (s.1[hi - k]?.getD 0)
    (s.1.set (hi - k) (s.1[hi - k]?.getD 0 - t), s.2.1.set (hi - k) t, s.2.2 - t)

theorem cutTo_succ {c : List Int} {n : Int} {hi k a : Nat} (ha : a = hi - k) {x m : Int} (hx : (cutTo c n hi k).1[a]?.getD 0 = x) (hm : (cutTo c n hi k).2.2 = m) {t u v : Int} (ht : min m x = t) (hu : x - t = u) (hv : m - t = v) :
    cutTo c n hi (k + 1) = ((cutTo c n hi k).1.set a u, (cutTo c n hi k).2.1.set a t, v) := by
  subst ha hx hm ht hu hv; rfl

theorem cutTo_len (c : List Int) (n : Int) (hi k : Nat) : (cutTo c n hi k).1.length = c.length ∧ (cutTo c n hi k).2.1.length = c.length := by
  induction k with
  | zero => simp [cutTo]
  | succ k ih => simp [cutTo, ih]

theorem Bnd.set {lo hi : Int} {c : List Int} (h : Bnd lo hi c) (a : Nat) {x : Int} (h1 : lo ≤ x) (h2 : x ≤ hi) : Bnd lo hi (c.set a x) := fun k hk => by
  rw [List.length_set] at hk
  by_cases e : a = k
  · subst e; simp [hk, h1, h2]
  · rw [List.getElem?_set_ne e]; exact h k hk

theorem Bnd.replicate {lo hi x : Int} (n : Nat) (h1 : lo ≤ x) (h2 : x ≤ hi) : Bnd lo hi (List.replicate n x) := fun k hk => by
  rw [List.length_replicate] at hk
  simp [hk, h1, h2]

/-- Of a grove whose culms are from 0 to M, a cut of 0 to M leaves so many. -/
theorem cutTo_bnd {c : List Int} {n M : Int} (hc : Bnd 0 M c) (hn : 0 ≤ n) (hM : n ≤ M) (hi : Nat) (hh : hi < c.length) : ∀ k, k ≤ hi + 1 →
    Bnd 0 M (cutTo c n hi k).1 ∧ Bnd 0 M (cutTo c n hi k).2.1 ∧ 0 ≤ (cutTo c n hi k).2.2 ∧ (cutTo c n hi k).2.2 ≤ M := by
  intro k
  induction k with
  | zero => intro _; exact ⟨hc, Bnd.replicate _ (by omega) (by omega), hn, hM⟩
  | succ k ih =>
    intro hk
    obtain ⟨h1, h2, h3, h4⟩ := ih (by omega)
    have h5 := h1 (hi - k) (by rw [(cutTo_len c n hi k).1]; omega)
    simp only [cutTo]
    generalize (cutTo c n hi k).1[hi - k]?.getD 0 = x at *
    refine ⟨h1.set _ (by omega) (by omega), h2.set _ (by omega) (by omega), by omega, by omega⟩

/-- A year later, before a cut: s young ones, and those of each age up to d - 1 are a year older. -/
def laterP (d : Nat) (c : List Int) (s : Int) : List Int := s :: (c.take d ++ List.replicate (6 - d) 0)

theorem laterP_len {d : Nat} {c : List Int} (s : Int) (hd : d ≤ 6) (hc : c.length = 7) : (laterP d c s).length = 7 := by simp [laterP, hc]; omega

theorem laterP_succ {k : Nat} {c : List Int} (s : Int) (hk : k < 6) (hc : c.length = 7) : (laterP k c s).set (k + 1) (c[k]?.getD 0) = laterP (k + 1) c s := by
  obtain ⟨c0, c1, c2, c3, c4, c5, c6, rfl⟩ := len7 hc
  match k, hk with
  | 0, _ => rfl
  | 1, _ => rfl
  | 2, _ => rfl
  | 3, _ => rfl
  | 4, _ => rfl
  | 5, _ => rfl

end Go.Proofs.YtanjolmelbipoaaDoor

namespace Go.Proofs.YtanjolmelbipoaaDoor
open Go.RowKit

set_option maxHeartbeats 1000000 in
theorem cut_any (h : Hab) (d r : Nat) (hd : h.dies = d) (hr : h.ripe = r) (hr1 : 1 ≤ r) (hrd : r ≤ d) (hd6 : d ≤ 6) (c : List Int) (hc : c.length = 7) (M : Int) (hM : M ≤ 1000000) (hb : Bnd 0 M c) (n : Int) (hn : 0 ≤ n) (hn2 : n ≤ M) (w : World) :
    Calls Tryd.prog 46 #[gv h c, .int .i64 n] w fun e w' => e = .returned (.tuple #[gv h (cutTo c n d (d - r + 1)).1, .agg (ints (cutTo c n d (d - r + 1)).2.1).toArray]) ∧ Below w.heap.size w w' := by
  obtain ⟨lo, hi, be, ri, di, ke⟩ := h
  simp only at hd hr
  subst hd hr
  have hc0 := Lib.hid hc
  obtain ⟨c0, c1, c2, c3, c4, c5, c6, hc7⟩ := len7 hc
  clear hc
  rw [show gv ⟨lo, hi, be, (r : Int), (d : Int), ke⟩ c = .agg #[.int .i64 lo, .int .i64 hi, .int .i64 be, .int .i64 r, .int .i64 d, .int .i64 ke, .int .i64 c0, .int .i64 c1, .int .i64 c2, .int .i64 c3, .int .i64 c4, .int .i64 c5, .int .i64 c6] from by rw [hc7]; rfl]
  go_enter Tryd.func46, Tryd.ntmps46
  go_wp2
  go_loopw [1, 6] (fun m i wr => ∃ k : Nat, k ≤ d - r + 1 ∧ i = .int .i64 ((d : Int) - k) ∧ m = .int .i64 (cutTo c n d k).2.2 ∧
      wr.heap[w.heap.size]? = some (.cells (gcells ⟨lo, hi, be, r, d, ke⟩ (cutTo c n d k).1) 71 (0, 0)) ∧
      wr.heap[w.heap.size + 1]? = some (.cells (gcells ⟨0, 0, 0, 0, 0, 0⟩ [0, 0, 0, 0, 0, 0, 0]) 71 (0, 0)) ∧
      wr.heap[w.heap.size + 1 + 1]? = some (.cells (ints (cutTo c n d k).2.1).toArray 58 (0, 0)) ∧ Below w.heap.size w wr)
    (fun _ i _ => (intOf i - r + 1).toNat)
  case atStart =>
    refine ⟨0, Nat.zero_le _, by simp, rfl, ?_, ?_, ?_, (((Below.refl _ _).alloc (Nat.le_refl _) _).alloc (by simp) _).alloc (by simp; omega) _⟩
    · rw [alloc3_at0, hc7]; rfl
    · rw [alloc3_at1]; rfl
    · rw [alloc3_at2, hc7]; rfl
  case round =>
    obtain ⟨k, hk, rfl, rfl, hP, hR, hG, hBel⟩ := hrel
    by_cases hlt : k ≤ d - r
    · obtain ⟨a, ha⟩ : ∃ a : Nat, a = d - k := ⟨_, rfl⟩
      have e1 : ((d : Int) - k) = (a : Int) := by omega
      have hlen := cutTo_len c n d k
      rw [hc0.out] at hlen
      have hbk := cutTo_bnd hb hn hn2 d (by rw [hc0.out]; omega) k (by omega)
      have hx := hbk.1 a (by omega)
      have cx : wr.cell? ⟨w.heap.size, 6 + a, none⟩ = _ := (cell_of_row wr _ _ _ _ _ hP).trans (gcells_at _ _ a (by omega))
      have cr : wr.cell? ⟨w.heap.size, 3, none⟩ = some (.int .i64 r) := (cell_of_row wr _ _ _ _ _ hP).trans rfl
      have cg : wr.cell? ⟨w.heap.size + 1 + 1, a, none⟩ = _ := (cell_of_row wr _ _ _ _ _ hG).trans (ints_at _ a (by omega))
      have fx := frozen_of_row wr _ (6 + a) _ _ hP
      have fg := frozen_of_row wr _ a _ _ hG
      have hm := hbk.2.2
      have hstep := fun t u v => @cutTo_succ c n d k a ha _ _ rfl rfl t u v
      generalize hmm : (cutTo c n d k).2.2 = m at hm hstep ⊢
      generalize (cutTo c n d k).1[a]?.getD 0 = x at cx hx hstep
      generalize (cutTo c n d k).2.1[a]?.getD 0 = y at cg
      rw [e1]
      have Hs := Lib.hid hstep
      have HP := Lib.hid hP
      have HR := Lib.hid hR
      have HG := Lib.hid hG
      have HBel := Lib.hid hBel
      have Ha := Lib.hid ha
      have H7 := Lib.hid hc7
      clear hstep hP hR hG hBel e1 hbk hlen ha hmm hc7
      have hr' : (r : Int) ≤ a := by have := Ha.out; omega
      have ha7 : a < 7 := by have := Ha.out; omega
      have hak : (a : Int) - 1 = (d : Int) - ((k + 1 : Nat) : Int) := by have := Ha.out; omega
      have Hak := Lib.hid hak
      clear hak
      rcases Int.lt_or_le x m with hmx | hmx
      · have hs := set2 (i := 6 + a) (j := a) HP.out HG.out (by omega) (.int .i64 x) (.int .i64 0)
        have hBel2 := (HBel.out.setCell (p := ⟨w.heap.size + 1 + 1, a, none⟩) (by simp; omega) (.int .i64 x)).setCell (p := ⟨w.heap.size, 6 + a, none⟩) (Nat.le_refl _) (.int .i64 0)
        have e2 := Hs.out x 0 (m - x) (by omega) (by omega) rfl
        rw [gcells_set, ints_set] at hs
        have HS := Lib.hid hs
        have HB := Lib.hid hBel2
        have HE := Lib.hid e2
        clear hs hBel2 e2
        go_wp2
        go_region
        go_wp2
        go_roundw
        case rel =>
          have e2 := HE.out
          exact ⟨k + 1, by have := Ha.out; omega, by rw [Hak.out], by rw [e2], by rw [e2]; exact HS.out.1, by exact (HS.out.2.2 _ (by omega) (by omega)).trans HR.out, by rw [e2]; exact HS.out.2.1, HB.out.drew⟩
        case measure => simp [intOf]; omega
      · have hs := set2 (i := 6 + a) (j := a) HP.out HG.out (by omega) (.int .i64 m) (.int .i64 (x - m))
        have hBel2 := (HBel.out.setCell (p := ⟨w.heap.size + 1 + 1, a, none⟩) (by simp; omega) (.int .i64 m)).setCell (p := ⟨w.heap.size, 6 + a, none⟩) (Nat.le_refl _) (.int .i64 (x - m))
        have e2 := Hs.out m (x - m) 0 (by omega) rfl (by omega)
        rw [gcells_set, ints_set] at hs
        have HS := Lib.hid hs
        have HB := Lib.hid hBel2
        have HE := Lib.hid e2
        clear hs hBel2 e2
        go_wp2
        go_region
        go_wp2
        go_roundw
        case rel =>
          have e2 := HE.out
          exact ⟨k + 1, by have := Ha.out; omega, by rw [Hak.out], by rw [e2], by rw [e2]; exact HS.out.1, by exact (HS.out.2.2 _ (by omega) (by omega)).trans HR.out, by rw [e2]; exact HS.out.2.1, HB.out.drew⟩
        case measure => simp [intOf]; omega
    · obtain rfl : k = d - r + 1 := by omega
      have e1 : ((d : Int) - ((d - r + 1 : Nat) : Int)) = (r : Int) - 1 := by omega
      have hlen := cutTo_len c n d (d - r + 1)
      rw [hc0.out] at hlen
      rw [e1]
      have cr : wr.cell? ⟨w.heap.size, 3, none⟩ = some (.int .i64 r) := (cell_of_row wr _ _ _ _ _ hP).trans rfl
      generalize hst : cutTo c n d (d - r + 1) = st at hP hG hlen ⊢
      obtain ⟨c', g', m'⟩ := st
      simp only at hP hG hlen ⊢
      obtain ⟨p0, p1, p2, p3, p4, p5, p6, hp⟩ := len7 hlen.1
      obtain ⟨q0, q1, q2, q3, q4, q5, q6, hq⟩ := len7 hlen.2
      have cP := fun i => cell_of_row wr w.heap.size i _ _ _ hP
      have cG := fun i => cell_of_row wr (w.heap.size + 1 + 1) i _ _ _ hG
      have fG := fun i => frozen_of_row wr (w.heap.size + 1 + 1) i _ _ hG
      have fR := fun i => frozen_of_row wr (w.heap.size + 1) i _ _ hR
      have cR := fun i => cell_of_row wr (w.heap.size + 1) i _ _ _ hR
      rw [hp] at cP
      rw [hq] at cG
      simp only [gcells, hcells, ints, List.map_cons, List.map_nil, List.cons_append, List.nil_append] at cP cG cR
      have HP := Lib.hid hP
      have HR := Lib.hid hR
      have HG := Lib.hid hG
      have HBel := Lib.hid hBel
      have H7 := Lib.hid hc7
      have Hp := Lib.hid hp
      have Hq := Lib.hid hq
      have Hst := Lib.hid hst
      clear hP hR hG hBel e1 hlen hc7 hp hq hst
      go_wp2
      go_region
      go_wp2
      refine bodyPost_ret (v := .tuple #[.agg #[.int .i64 lo, .int .i64 hi, .int .i64 be, .int .i64 r, .int .i64 d, .int .i64 ke, .int .i64 p0, .int .i64 p1, .int .i64 p2, .int .i64 p3, .int .i64 p4, .int .i64 p5, .int .i64 p6], .agg #[.int .i64 q0, .int .i64 q1, .int .i64 q2, .int .i64 q3, .int .i64 q4, .int .i64 q5, .int .i64 q6]]) (by simp [results, Tryd.results46, go_sem, cR, cG]) rfl ⟨?_, ?_⟩
      · have e2 := Hst.out
        rw [e2, Hp.out, Hq.out]; rfl
      · have hBel := HBel.out
        repeat (first | with_reducible assumption | with_reducible refine Below.drew ?_ | (with_reducible refine Below.setCell ?_ ?hp _; case hp => simp; try omega))

end Go.Proofs.YtanjolmelbipoaaDoor

namespace Go.Proofs.YtanjolmelbipoaaDoor
open Go.RowKit

/-- The slice at address A holds the cells vs, in a block below B (nothing is asked of an empty one). -/
def Vals (w : World) (B : Nat) (A : Option Addr) (vs : List Value) : Prop :=
  0 < vs.length → ∃ b off, A = some ⟨b, off, none⟩ ∧ b < B ∧ ∀ j u, vs[j]? = some u → w.cell? ⟨b, off + j, none⟩ = some u

theorem Vals.below {w w' : World} {B : Nat} {A : Option Addr} {vs : List Value} (h : Vals w B A vs) (hb : Below B w w') : Vals w' B A vs := fun hl => by
  obtain ⟨b, off, rfl, hlt, hc⟩ := h hl
  exact ⟨b, off, rfl, hlt, fun k u hk => (hb.cell (p := ⟨b, off + k, none⟩) hlt).trans (hc k u hk)⟩
theorem Vals.mono {w : World} {B B' : Nat} {A : Option Addr} {vs : List Value} (h : Vals w B A vs) (hB : B ≤ B') : Vals w B' A vs := fun hl => by
  obtain ⟨b, off, rfl, hlt, hc⟩ := h hl
  exact ⟨b, off, rfl, by omega, hc⟩
theorem Ints.vals {w : World} {B : Nat} {A : Option Addr} {zs : List Int} (h : Ints w B A zs) : Vals w B A (ints zs) := fun hl => by
  simp only [ints, List.length_map] at hl
  obtain ⟨b, off, rfl, hlt, hc⟩ := h hl
  refine ⟨b, off, rfl, hlt, fun k u hk => ?_⟩
  simp only [ints, List.getElem?_map, Option.map_eq_some_iff] at hk
  obtain ⟨z, hz, rfl⟩ := hk
  have hk : k < zs.length := (List.getElem?_eq_some_iff.1 hz).1
  rw [hc k hk, hz]; rfl
theorem Vals.ints {w : World} {B : Nat} {A : Option Addr} {zs : List Int} (h : Vals w B A (ints zs)) : Ints w B A zs := fun hl => by
  obtain ⟨b, off, rfl, hlt, hc⟩ := h (by simpa [YtanjolmelbipoaaDoor.ints] using hl)
  refine ⟨b, off, rfl, hlt, fun k hk => hc k _ ?_⟩
  simp [YtanjolmelbipoaaDoor.ints, hk]

/-- An owned row is read as cells. -/
theorem Vals.own {w : World} {base : Nat} {e : TypeId} {size n : Nat} {A : Option Addr} {cap : Nat} {vs : List Value} (h : w.ownsRow base e size (.slice A n cap) n vs) : Vals w w.heap.size A vs := fun hl => by
  have hcs := fun g hg => h.cells (g := g) hg
  rcases h.2 with ⟨_, rfl⟩ | ⟨g, cap', cur, hv, _, hh, _⟩
  · rw [h.1] at hl; omega
  · simp only [Value.slice.injEq] at hv
    obtain ⟨rfl, _, rfl⟩ := hv
    refine ⟨g, 0, rfl, (Array.getElem?_eq_some_iff.1 hh).1, fun j u hj => ?_⟩
    have := hcs g rfl j u hj
    unfold Addr.add at this
    by_cases hj0 : j = 0
    · subst hj0; simpa using this
    · rw [if_neg hj0] at this; simpa using this

theorem run_app_nil {P : Program} (w : World) (base : Nat) (t ty e : TypeId) (i : TypeInfo) (size : Nat) (ht : P.underlying t = some (.slice e)) (hi : P.info? e = some i)
    (v : Value) (n : Nat) (xs : List Value) (hown : w.ownsRow base e size v n xs) (c : Nat) : (Builtin.append_ #[t, t] ty #[v, .slice none 0 c]).run P w = .ok v w := by
  rcases hown.2 with ⟨rfl, rfl⟩ | ⟨g, cap, cur, rfl, _, _, hnc, _⟩
  · simp [Builtin.append_, run_underlying ht, sizeOf, typeInfo, hi, Builtin.lenOf, Builtin.firstCells]
  · simp [Builtin.append_, run_underlying ht, sizeOf, typeInfo, hi, Builtin.lenOf, Builtin.firstCells, hnc, storeCells]

/-- append onto an owned row, of a slice that reads as cells: nil, empty or not. -/
theorem run_app {P : Program} (w : World) (base : Nat) (t ty e : TypeId) (i : TypeInfo) (z : Value) (size bytes : Nat) (ht : P.underlying t = some (.slice e)) (hi : P.info? e = some i) (hz : i.zero = some z)
    (hsize : i.size = size) (hby : i.bytes = bytes) (hzs : z.cells.size = size) (hsz : 0 < size)
    (v : Value) (n : Nat) (xs : List Value) (hown : w.ownsRow base e size v n xs)
    (B : Nat) (A : Option Addr) (m c : Nat) (vs : List Value) (hr : Vals w B A vs) (hl : vs.length = m * size) (h1 : ∀ u ∈ vs, u.oneCell' = true)
    (h63 : n + m ≤ maxLen) (hbytes : (n + m) * bytes ≤ 140737488355328) (hbase : base ≤ w.heap.size) :
    ∃ v' w', (Builtin.append_ #[t, t] ty #[v, .slice A m c]).run P w = .ok v' w' ∧ w'.ownsRow base e size v' (n + m) (xs ++ vs) ∧ w.grownBy w' v.ownBlock ∧
      (v'.ownBlock = v.ownBlock ∨ v'.ownBlock = some w.heap.size) := by
  rcases A with _ | ad
  · have hm : vs = [] := by
      rcases Nat.eq_zero_or_pos vs.length with h0 | h0
      · exact List.eq_nil_of_length_eq_zero h0
      · obtain ⟨b, off, h, _⟩ := hr h0; cases h
    subst hm
    have hm0 : m = 0 := by
      rcases Nat.eq_zero_or_pos m with h0 | h0
      · exact h0
      · have := Nat.mul_pos h0 hsz; simp at hl; omega
    subst hm0
    exact ⟨v, w, run_app_nil w base t ty e i size ht hi v n xs hown c, by simpa using hown, ⟨rfl, rfl, rfl, Nat.le_refl _, fun _ _ _ => rfl⟩, .inl rfl⟩
  · have hcells : ∀ j u, vs[j]? = some u → w.cell? (ad.add j) = some u := by
      intro j u hu
      have h0 : 0 < vs.length := by have := (List.getElem?_eq_some_iff.1 hu).1; omega
      obtain ⟨b, off, h, _, hc⟩ := hr h0
      injection h with h
      subst h
      have := hc j u hu
      unfold Addr.add
      by_cases hj0 : j = 0
      · subst hj0; simpa using this
      · rw [if_neg hj0]; simpa using this
    obtain ⟨v', w', hrun, h2, h3, _, h5⟩ := run_append_own_at (P := P) w base t ty e i z size bytes ht hi hz hsize hby hzs hsz v n xs hown ad m c vs hl hcells h1 h63 hbytes hbase
    exact ⟨v', w', hrun, h2, h3, h5⟩

theorem wpl_app {P : Program} {w : World} {ops : Array Oper} {rest : List Oper} {o : Oper} {a : Act} {Q : Exit → Act → World → Prop} (hgd : o.guard = none) (s x : Operand) (t : TypeId)
    (ho : o.op = .call { callee := .builtin .append, args := #[s, x], argTypes := #[t, t] })
    (base : Nat) (e : TypeId) (i : TypeInfo) (z : Value) (size bytes : Nat) (ht : P.underlying t = some (.slice e)) (hi : P.info? e = some i) (hz : i.zero = some z)
    (hsize : i.size = size) (hby : i.bytes = bytes) (hzs : z.cells.size = size) (hsz : 0 < size)
    (v : Value) (n : Nat) (xs : List Value) (hs : a.eval s = v) (hown : w.ownsRow base e size v n xs)
    (B : Nat) (A : Option Addr) (m c : Nat) (vs : List Value) (hx : a.eval x = .slice A m c) (hr : Vals w B A vs) (hl : vs.length = m * size) (h1 : ∀ u ∈ vs, u.oneCell' = true)
    (h63 : n + m ≤ maxLen) (hbytes : (n + m) * bytes ≤ 140737488355328) (hbase : base ≤ w.heap.size)
    (h : ∀ v' w', w'.ownsRow base e size v' (n + m) (xs ++ vs) → w.grownBy w' v.ownBlock → (v'.ownBlock = v.ownBlock ∨ v'.ownBlock = some w.heap.size) → wpList P ops Q rest (a.put o.dst v') w') : wpList P ops Q (o :: rest) a w :=
  wpList_plain hgd fun _ hK => by
    obtain ⟨v', w', hrun, h2, h3, h4⟩ := run_app (P := P) w base t o.type e i z size bytes ht hi hz hsize hby hzs hsz v n xs hown B A m c vs hr hl h1 h63 hbytes hbase
    unfold Oper.wp execOp
    simp only [ho, resolve, invoke, builtin, Sem.run_bind, Sem.run_pure, Result.andThen_ok, List.map_toArray, List.map_cons, List.map_nil, hs, hx, hrun]
    exact hK _ _ (h v' w' h2 h3 h4)

/-- .. as one step of a region that draws its order. -/
theorem step_app {P : Program} {ops : Array Oper} {o : Oper} {a : Act} {w : World} {K : Act → World → Prop} {Q : Exit → Act → World → Prop} {E : Prop} (hgd : o.guard = none) (s x : Operand) (t : TypeId)
    (ho : o.op = .call { callee := .builtin .append, args := #[s, x], argTypes := #[t, t] })
    (base : Nat) (e : TypeId) (i : TypeInfo) (z : Value) (size bytes : Nat) (ht : P.underlying t = some (.slice e)) (hi : P.info? e = some i) (hz : i.zero = some z)
    (hsize : i.size = size) (hby : i.bytes = bytes) (hzs : z.cells.size = size) (hsz : 0 < size)
    (v : Value) (n : Nat) (xs : List Value) (hs : a.eval s = v) (hown : w.ownsRow base e size v n xs)
    (B : Nat) (A : Option Addr) (m c : Nat) (vs : List Value) (hx : a.eval x = .slice A m c) (hr : Vals w B A vs) (hl : vs.length = m * size) (h1 : ∀ u ∈ vs, u.oneCell' = true)
    (h63 : n + m ≤ maxLen) (hbytes : (n + m) * bytes ≤ 140737488355328) (hbase : base ≤ w.heap.size)
    (h : ∀ v' w', w'.ownsRow base e size v' (n + m) (xs ++ vs) → w.grownBy w' v.ownBlock → (v'.ownBlock = v.ownBlock ∨ v'.ownBlock = some w.heap.size) → K (a.put o.dst v') w') :
    if Region.wanted o (yielded ops a.tmps) = true then Oper.wp P o a w K Q else E := by
  have hw : Region.wanted o (yielded ops a.tmps) = true := by simp [Region.wanted, hgd]
  rw [if_pos hw]
  obtain ⟨v', w', hrun, h2, h3, h4⟩ := run_app (P := P) w base t o.type e i z size bytes ht hi hz hsize hby hzs hsz v n xs hown B A m c vs hr hl h1 h63 hbytes hbase
  unfold Oper.wp execOp
  simp only [ho, resolve, invoke, builtin, Sem.run_bind, Sem.run_pure, Result.andThen_ok, List.map_toArray, List.map_cons, List.map_nil, hs, hx, hrun]
  exact h v' w' h2 h3 h4

/-- make([]int, n). -/
theorem run_make_ints {P : Program} (t e : TypeId) (i : TypeInfo) (ht : P.underlying t = some (.slice e)) (hi : P.info? e = some i) (hz : i.zero = some (.int .i64 0)) (hs : i.size = 1) (hb : i.bytes = 8) (n : Nat) (hn : n ≤ 1000000) (w : World) :
    (Instr.makeSlice t (.int .i64 (n : Int)) (.int .i64 (n : Int))).run P w = .ok (.slice (some ⟨w.heap.size, 0, none⟩) n n) (w.alloc (.cells (ints (List.replicate n 0)).toArray e)) := by
  have hr := run_make (P := P) w t e i (.int .i64 0) ht hi hz .i64 .i64 n n (by omega) (by omega) (by rw [hb]; omega) (by omega)
  simp only [Int.toNat_natCast] at hr
  rw [hr, hs]
  have e1 : madeCells (Value.int .i64 0).cells (n * 1) = (ints (List.replicate n 0)).toArray := by
    apply Array.ext'
    rw [show (Value.int .i64 0).cells = #[.int .i64 0] from rfl, toList_madeCells_one]
    simp [ints]
  rw [e1]

theorem oneCells_ints (zs : List Int) : ∀ u ∈ ints zs, u.oneCell' = true := by
  intro u hu
  simp only [ints, List.mem_map] at hu
  obtain ⟨z, _, rfl⟩ := hu
  rfl

end Go.Proofs.YtanjolmelbipoaaDoor

namespace Go.Proofs.YtanjolmelbipoaaDoor
open Go.RowKit

theorem own_empty {w : World} {base g : Nat} {e : TypeId} {size : Nat} (h : w.heap[g]? = some (.cells #[] e (0, 0))) (hb : base ≤ g) : w.ownsRow base e size (.slice (some ⟨g, 0, none⟩) 0 0) 0 [] :=
  ⟨by simp, .inr ⟨g, 0, #[], rfl, hb, h, Nat.le_refl _, by simp, by simp, by simp⟩⟩

theorem own_form {w : World} {base : Nat} {e : TypeId} {size n : Nat} {v : Value} {xs : List Value} (h : w.ownsRow base e size v n xs) (hn : v ≠ .slice none 0 0) : ∃ g cap, v = .slice (some ⟨g, 0, none⟩) n cap ∧ base ≤ g ∧ g < w.heap.size := by
  rcases h.2 with ⟨h0, _⟩ | ⟨g, cap, cur, hv, hb, hg, _⟩
  · exact absurd h0 hn
  · exact ⟨g, cap, hv, hb, (Array.getElem?_eq_some_iff.1 hg).1⟩

theorem run_clone {P : Program} (w : World) (base : Nat) (t ty e : TypeId) (i : TypeInfo) (z : Value) (size bytes : Nat) (ht : P.underlying t = some (.slice e)) (hi : P.info? e = some i) (hz : i.zero = some z)
    (hsize : i.size = size) (hby : i.bytes = bytes) (hzs : z.cells.size = size) (hsz : 0 < size)
    (g0 : Nat) (h0 : w.heap[g0]? = some (.cells #[] e (0, 0))) (hb0 : base ≤ g0)
    (B : Nat) (A : Option Addr) (m c : Nat) (vs : List Value) (hr : Vals w B A vs) (hl : vs.length = m * size) (h1 : ∀ u ∈ vs, u.oneCell' = true)
    (h63 : m ≤ maxLen) (hbytes : m * bytes ≤ 140737488355328) :
    ∃ g1 c1 w', (Builtin.append_ #[t, t] ty #[.slice (some ⟨g0, 0, none⟩) 0 0, .slice A m c]).run P w = .ok (.slice (some ⟨g1, 0, none⟩) m c1) w' ∧ w'.ownsRow base e size (.slice (some ⟨g1, 0, none⟩) m c1) m vs ∧ w.grownBy w' (some g0) ∧
      (g1 = g0 ∨ g1 = w.heap.size) ∧ base ≤ g1 ∧ g1 < w'.heap.size := by
  have hlt := (Array.getElem?_eq_some_iff.1 h0).1
  obtain ⟨v', w', hrun, hown, hg, hat⟩ := run_app (P := P) w base t ty e i z size bytes ht hi hz hsize hby hzs hsz _ 0 [] (own_empty h0 hb0) B A m c vs hr hl h1 (by omega) (by rw [Nat.zero_add]; exact hbytes) (by omega)
  simp only [Nat.zero_add, List.nil_append] at hown
  have hne : v' ≠ .slice none 0 0 := by
    rintro rfl
    rcases hat with h | h <;> simp [Value.ownBlock] at h
  obtain ⟨g1, c1, rfl, hb1, hl1⟩ := own_form hown hne
  refine ⟨g1, c1, w', hrun, hown, hg, ?_, hb1, hl1⟩
  simpa [Value.ownBlock] using hat

theorem wpl_clone {P : Program} {w : World} {ops : Array Oper} {rest : List Oper} {o : Oper} {a : Act} {Q : Exit → Act → World → Prop} (hgd : o.guard = none) (s x : Operand) (t : TypeId)
    (ho : o.op = .call { callee := .builtin .append, args := #[s, x], argTypes := #[t, t] })
    (base : Nat) (e : TypeId) (i : TypeInfo) (z : Value) (size bytes : Nat) (ht : P.underlying t = some (.slice e)) (hi : P.info? e = some i) (hz : i.zero = some z)
    (hsize : i.size = size) (hby : i.bytes = bytes) (hzs : z.cells.size = size) (hsz : 0 < size)
    (g0 : Nat) (hs : a.eval s = .slice (some ⟨g0, 0, none⟩) 0 0) (h0 : w.heap[g0]? = some (.cells #[] e (0, 0))) (hb0 : base ≤ g0)
    (B : Nat) (A : Option Addr) (m c : Nat) (vs : List Value) (hx : a.eval x = .slice A m c) (hr : Vals w B A vs) (hl : vs.length = m * size) (h1 : ∀ u ∈ vs, u.oneCell' = true)
    (h63 : m ≤ maxLen) (hbytes : m * bytes ≤ 140737488355328)
    (h : ∀ g1 c1 w', w'.ownsRow base e size (.slice (some ⟨g1, 0, none⟩) m c1) m vs → w.grownBy w' (some g0) → (g1 = g0 ∨ g1 = w.heap.size) → base ≤ g1 → g1 < w'.heap.size → wpList P ops Q rest (a.put o.dst (.slice (some ⟨g1, 0, none⟩) m c1)) w') :
    wpList P ops Q (o :: rest) a w :=
  wpList_plain hgd fun _ hK => by
    obtain ⟨g1, c1, w', hrun, h2, h3, h4, h5, h6⟩ := run_clone (P := P) w base t o.type e i z size bytes ht hi hz hsize hby hzs hsz g0 h0 hb0 B A m c vs hr hl h1 h63 hbytes
    unfold Oper.wp execOp
    simp only [ho, resolve, invoke, builtin, Sem.run_bind, Sem.run_pure, Result.andThen_ok, List.map_toArray, List.map_cons, List.map_nil, hs, hx, hrun]
    exact hK _ _ (h g1 c1 w' h2 h3 h4 h5 h6)

theorem step_clone {P : Program} {ops : Array Oper} {o : Oper} {a : Act} {w : World} {K : Act → World → Prop} {Q : Exit → Act → World → Prop} {E : Prop} (hgd : o.guard = none) (s x : Operand) (t : TypeId)
    (ho : o.op = .call { callee := .builtin .append, args := #[s, x], argTypes := #[t, t] })
    (base : Nat) (e : TypeId) (i : TypeInfo) (z : Value) (size bytes : Nat) (ht : P.underlying t = some (.slice e)) (hi : P.info? e = some i) (hz : i.zero = some z)
    (hsize : i.size = size) (hby : i.bytes = bytes) (hzs : z.cells.size = size) (hsz : 0 < size)
    (g0 : Nat) (hs : a.eval s = .slice (some ⟨g0, 0, none⟩) 0 0) (h0 : w.heap[g0]? = some (.cells #[] e (0, 0))) (hb0 : base ≤ g0)
    (B : Nat) (A : Option Addr) (m c : Nat) (vs : List Value) (hx : a.eval x = .slice A m c) (hr : Vals w B A vs) (hl : vs.length = m * size) (h1 : ∀ u ∈ vs, u.oneCell' = true)
    (h63 : m ≤ maxLen) (hbytes : m * bytes ≤ 140737488355328)
    (h : ∀ g1 c1 w', w'.ownsRow base e size (.slice (some ⟨g1, 0, none⟩) m c1) m vs → w.grownBy w' (some g0) → (g1 = g0 ∨ g1 = w.heap.size) → base ≤ g1 → g1 < w'.heap.size → K (a.put o.dst (.slice (some ⟨g1, 0, none⟩) m c1)) w') :
    if Region.wanted o (yielded ops a.tmps) = true then Oper.wp P o a w K Q else E := by
  have hw : Region.wanted o (yielded ops a.tmps) = true := by simp [Region.wanted, hgd]
  rw [if_pos hw]
  obtain ⟨g1, c1, w', hrun, h2, h3, h4, h5, h6⟩ := run_clone (P := P) w base t o.type e i z size bytes ht hi hz hsize hby hzs hsz g0 h0 hb0 B A m c vs hr hl h1 h63 hbytes
  unfold Oper.wp execOp
  simp only [ho, resolve, invoke, builtin, Sem.run_bind, Sem.run_pure, Result.andThen_ok, List.map_toArray, List.map_cons, List.map_nil, hs, hx, hrun]
  exact h g1 c1 w' h2 h3 h4 h5 h6

/-- One limb of 'grownBy', where the row that may be written is a new one. -/
theorem Below.ofGrown {B : Nat} {a w w' : World} {g : Nat} (h : Below B a w) (hg : w.grownBy w' (some g)) (hB : B ≤ w.heap.size) (hr : B ≤ g) : Below B a w' :=
  h.grown hg hB (fun k e => by injection e with e; omega)

theorem ints_atL (c : List Int) (k : Nat) (hk : k < c.length) : (ints c)[k]? = some (.int .i64 (c[k]?.getD 0)) := by simp [ints, hk]

theorem own_far {w : World} {base : Nat} {e : TypeId} {size n g cap : Nat} {xs : List Value} (h : w.ownsRow base e size (.slice (some ⟨g, 0, none⟩) n cap) n xs) {p : Addr} (hp : g ≠ p.block) (u : Value) :
    (w.setCell p u).ownsRow base e size (.slice (some ⟨g, 0, none⟩) n cap) n xs := by
  rcases h.2 with ⟨h0, _⟩ | ⟨g', cap', cur, hv, hb, hh, h3⟩
  · cases h0
  · simp only [Value.slice.injEq, Option.some.injEq, Addr.mk.injEq, and_true, true_and] at hv
    obtain ⟨rfl, rfl⟩ := hv
    exact ⟨h.1, .inr ⟨g, cap, cur, rfl, hb, (heap_setCell_other w p g u hp).trans hh, h3⟩⟩

theorem ints_new {w : World} {g B : Nat} {zs : List Int} {fr : Nat × Nat} (h : w.heap[g]? = some (.cells (ints zs).toArray 3 fr)) (hB : g < B) : Ints w B (some ⟨g, 0, none⟩) zs := fun _ =>
  ⟨g, 0, rfl, hB, fun k hk => by rw [Nat.zero_add]; exact (cell_of_row w g k _ _ _ h).trans (ints_at zs k hk)⟩
theorem lt_of_heap {w : World} {g : Nat} {o : Obj} (h : w.heap[g]? = some o) : g < w.heap.size := (Array.getElem?_eq_some_iff.1 h).1
theorem own_cap {w : World} {base : Nat} {e : TypeId} {size n g cap : Nat} {xs : List Value} (h : w.ownsRow base e size (.slice (some ⟨g, 0, none⟩) n cap) n xs) : n ≤ cap := by
  rcases h.2 with ⟨h0, _⟩ | ⟨g', cap', cur, hv, hb, hh, h3, _⟩
  · cases h0
  · simp only [Value.slice.injEq, Option.some.injEq, Addr.mk.injEq, and_true, true_and] at hv
    omega

end Go.Proofs.YtanjolmelbipoaaDoor

