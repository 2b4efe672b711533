/-
  The program's records, validCuts.
-/
import Derived.Test.YtkjdapgkojfbmaaRecA
import Derived.RangeFuncBound
import Derived.RangeFuncCalls
import Derived.Shelf.Abstract
namespace Go.Proofs.Ytkjdapgkojfbmaa
open Go.RowKit Go.Shelf

attribute [local go_sem] Oper.semAt_some

/-- A grove's cells. -/
abbrev gcs (g : Gr) (A1 : Option Addr) (c1 : Nat) (A2 : Option Addr) (c2 : Nat) : Array Value :=
  #[.int .i64 g.id, .int .i64 g.hab.lo, .int .i64 g.hab.hi, .int .i64 g.hab.bears, .int .i64 g.hab.ripe, .int .i64 g.hab.dies, .int .i64 g.hab.keep, .int .i64 g.first, .slice A1 g.start.length c1, .slice A2 g.seas.length c2]

theorem records_any (g : Gr) (A1 : Option Addr) (c1 : Nat) (A2 : Option Addr) (c2 : Nat) (w : World) :
    Calls Try.prog 58 #[.agg (gcs g A1 c1 A2 c2)] w fun e w' => e = .returned (.func (.func 74) #[] #[.pointer (some ⟨w.heap.size, 0, none⟩)]) ∧ w' = w.alloc (.cells (gcs g A1 c1 A2 c2) 29) := by
  unfold gcs
  go_enter Try.func58, Try.ntmps58
  go_wp2
  go_ret
  exact ⟨rfl, rfl⟩

/-- The cut and the ripe culms of the k-th record. -/
def cutK (g : Gr) (k : Nat) : Int := match k with | 0 => 0 | k + 1 => (g.seas[k]?.getD (0, 0)).2
def ripeK (g : Gr) (d r k : Nat) : Int := match k with | 0 => 0 | k + 1 => ripeP d r (stateP d r (start7 g) g.seas k) (g.seas[k]?.getD (0, 0))
def goneK (g : Gr) (d r k : Nat) : List Int := match k with | 0 => zero7 | k + 1 => goneP d r (stateP d r (start7 g) g.seas k) (g.seas[k]?.getD (0, 0))
def shotK (g : Gr) (k : Nat) : Int := match k with | 0 => 0 | k + 1 => (g.seas[k]?.getD (0, 0)).1
theorem recK_eq (g : Gr) (d r k : Nat) : recK g d r k = recV (shotK g k, cutK g k) (ripeK g d r k) (goneK g d r k) (stateP d r (start7 g) g.seas k) := by
  cases k with
  | zero => simp [recK, shotK, cutK, ripeK, goneK, stateP]
  | succ k => rfl
theorem goneK_len {g : Gr} {d r : Nat} (hf : Fine g d r) {k : Nat} (hk : k ≤ g.seas.length) : (goneK g d r k).length = 7 := by
  cases k with
  | zero => rfl
  | succ k => exact (stepP_len hf.d6 (stateP_len hf.d6 (start7_len (by have := hf.st; have := hf.d6; omega)) k (by omega))).2

/-- All cuts are of ripe culms. -/
def cutsP (g : Gr) (d r : Nat) : Bool := decide (∀ k, k < g.seas.length → cutK g (k + 1) ≤ ripeK g d r (k + 1))

set_option maxHeartbeats 4000000 in
theorem validCuts_any (g : Gr) (A1 : Option Addr) (c1 : Nat) (A2 : Option Addr) (c2 : Nat) (d r : Nat) (hf : Fine g d r) (B : Nat) (w : World) (hB : B ≤ w.heap.size) (hG : GrAt w B g A1 c1 A2 c2) :
    Calls Try.prog 44 #[grv g A1 c1 A2 c2] w fun e w' => e = .returned (.bool (cutsP g d r)) ∧ Below w.heap.size w w' := by
  have HG := Lib.hid hG
  have HF := Lib.hid hf
  clear hG hf
  unfold grv
  refine (callsIn_wide (n := 4)).1 ?_
  refine callsIn_of_wp_marks Try.func44 rfl trivial ?_ rfl
  simp only [Try.ntmps44, List.size_toArray, List.length_cons, List.length_nil, Nat.reduceAdd, Nat.reduceSub, Array.replicate_succ, Array.replicate_zero, List.push_toArray, List.append_toArray, List.nil_append, List.cons_append]
  gi_wp2_with
    (refine ⟨trivial, ?_⟩
     gi_at_call 58
     refine (callsIn_wide.2 (records_any g A1 c1 A2 c2 _)).mono ?_
     rintro e w1 ⟨rfl, rfl⟩)
  obtain ⟨W, hW⟩ : ∃ W, (((w.alloc (.cells (gcs g A1 c1 A2 c2) 29)).alloc (.cells #[.bool false] 4)).alloc (.cells (gcs g A1 c1 A2 c2) 29)) = W := ⟨_, rfl⟩
  have hWs : W.heap.size = w.heap.size + 3 := by rw [← hW]; simp
  have hbW : Below w.heap.size w W := by rw [← hW]; exact (((Below.refl _ _).alloc (Nat.le_refl _) _).alloc (by simp) _).alloc (by simp; omega) _
  have hW2 : W.heap[w.heap.size + 1 + 1]? = some (.cells (gcs g A1 c1 A2 c2) 29 (0, 0)) := by rw [← hW]; exact alloc3_at2 w _ _ _
  have hW1 : W.heap[w.heap.size + 1]? = some (.cells #[.bool false] 4 (0, 0)) := by rw [← hW]; exact alloc3_at1 w _ _ _
  have hGW : GrAt W w.heap.size g A1 c1 A2 c2 := (HG.out.mono hB).below hbW
  rw [show (((w.alloc (.cells #[.int .i64 g.id, .int .i64 g.hab.lo, .int .i64 g.hab.hi, .int .i64 g.hab.bears, .int .i64 g.hab.ripe, .int .i64 g.hab.dies, .int .i64 g.hab.keep, .int .i64 g.first, .slice A1 g.start.length c1, .slice A2 g.seas.length c2] 29)).alloc (.cells #[.bool false] 4)).alloc (.cells (gcs g A1 c1 A2 c2) 29)) = W from hW]
  clear hW
  refine wpIn_rangeX rfl (by omega) (gf := 74) (lb := #[.pointer (some ⟨w.heap.size + 1 + 1, 0, none⟩)]) rfl trivial (enters_of Try.func74 (by kernel_rfl) rfl)
    (records1 g A1 c1 A2 c2 d r HF.out (4 - 1) w.heap.size (w.heap.size + 1 + 1) (by omega) W (by omega) (by omega) hGW hW2) (Below.refl _ _) (by omega) (by omega)
    (fun r' hr' => by
      obtain ⟨k, hk, rfl⟩ := List.mem_map.1 hr'
      rfl)
    (fun k => k = w.heap.size + 1) (fun k hk => by omega)
    (fun k A => (∀ j, j < k → cutK g j ≤ ripeK g d r j) ∧ A.heap[w.heap.size + 1]? = some (.cells #[.bool false] 4 (0, 0)) ∧ Below w.heap.size w A)
    (fun c k A => c = .ret ∧ ripeK g d r k < cutK g k ∧ A.heap[w.heap.size + 1]? = some (.cells #[.bool false] 4 (0, 0)) ∧ Below w.heap.size w A)
    (fun k A B hi hb => ⟨hi.1, (hb.block _ (by omega)).trans hi.2.1, hi.2.2.trans (hb.mono (by omega))⟩)
    (fun c k A B hi hb => ⟨hi.1, hi.2.1, (hb.block _ (by omega)).trans hi.2.2.1, hi.2.2.2.trans (hb.mono (by omega))⟩)
    ⟨fun j hj => by omega, hW1, hbW⟩
    (fun k b a' A => ∃ b', b ≤ b' ∧ A.heap[b']? = some (.cells (recC (shotK g k, cutK g k) (ripeK g d r k) (goneK g d r k) (stateP d r (start7 g) g.seas k)).toArray 83 (0, 0)) ∧
      a' = { tmps := #[.agg #[.int .i64 g.id, .int .i64 g.hab.lo, .int .i64 g.hab.hi, .int .i64 g.hab.bears, .int .i64 g.hab.ripe, .int .i64 g.hab.dies, .int .i64 g.hab.keep, .int .i64 g.first, .slice A1 g.start.length c1, .slice A2 g.seas.length c2],
        .pointer (some ⟨w.heap.size, 0, none⟩), .pointer (some ⟨w.heap.size + 1, 0, none⟩), undef, .pointer (some ⟨b', 0, none⟩),
        .agg #[.int .i64 g.id, .int .i64 g.hab.lo, .int .i64 g.hab.hi, .int .i64 g.hab.bears, .int .i64 g.hab.ripe, .int .i64 g.hab.dies, .int .i64 g.hab.keep, .int .i64 g.first, .slice A1 g.start.length c1, .slice A2 g.seas.length c2],
        .func (.func 74) #[] #[.pointer (some ⟨w.heap.size + 1 + 1, 0, none⟩)], .int .i64 (g.first + k), recK g d r k, undef, undef, undef, undef, undef, undef], defers := [] })
    (fun k b a' A B hx hj => by
      obtain ⟨b', hb, hc, ha⟩ := hx
      exact ⟨b', hb, (hj b' hb).trans hc, ha⟩) ?assign ?body ?done ?stop
  case assign =>
    rintro l k r' W1 K hr' ⟨_, _, _⟩ hK
    have hk : k < (rowsP g d r).length := (List.getElem?_eq_some_iff.1 hr').1
    rw [rowsP_len] at hk
    rw [rowsP_at (by omega)] at hr'
    obtain rfl : rowP g d r k = r' := Option.some.inj hr'
    obtain ⟨t0, t1, t2, t3, t4, t5, t6, ht⟩ := len7 (goneK_len HF.out (show k ≤ g.seas.length by omega))
    obtain ⟨f0, f1, f2, f3, f4, f5, f6, hf⟩ := len7 (stateP_len (r := r) (ss := g.seas) HF.out.d6 (start7_len (g := g) (by have := HF.out.st; have := HF.out.d6; omega)) k (by omega))
    rw [show rowP g d r k = #[.int .i64 (g.first + k), recK g d r k] from rfl]
    rw [recK_eq, ht, hf] at hK ⊢
    simp only [recV, recC, ints, List.map_cons, List.map_nil, List.cons_append, List.nil_append] at hK ⊢
    have hKK := Lib.hid hK
    clear hK hr' ht hf
    gi_wp2_with
      (show wpListIn _ _ _ _ _ (Oper.mk none (Op.store _ (Operand.tmp 4) (Operand.tmp 8)) _ _ _ _ :: _) _ _
       refine wpListIn_store_blk 83 (.tmp 4) (.tmp 8) rfl rfl rfl rfl (alloc_at0 W1 _) rfl ?h1 rowRecord ?_
       case h1 => simp [Value.oneCell']
       intro w2 hP2 hM2
       have H2 := Lib.hid (And.intro hP2 hM2)
       clear hP2 hM2)
    exact hKK.out _ _ (((Below.refl _ W1).alloc (Nat.le_refl _) _).trans (H2.out.1.below (Nat.le_refl _))) ⟨_, Nat.le_refl _, H2.out.2, rfl⟩
  case body =>
    rintro l k b r' a' W1 hr' hwb hbW' ⟨hcut, hres, hbel⟩ ⟨b', hbb, hc, rfl⟩
    have hcc := fun i => cell_of_row _ b' i _ _ _ hc
    simp only [recC] at hcc
    have HH := Lib.hid (And.intro hcut (And.intro hres hbel))
    have hcr := cell_of_row _ (w.heap.size + 1) 0 _ _ _ hres
    have hfr := frozen_of_row W1 (w.heap.size + 1) 0 _ _ hres
    clear hcut hres hbel hc hr'
    by_cases hle : cutK g k ≤ ripeK g d r k
    · gi_wp2_with fail
      exact ⟨KeepsX.refl _ _, fun j hj => by
        rcases Nat.lt_succ_iff_lt_or_eq.1 hj with h | rfl
        · exact HH.out.1 j h
        · exact hle, HH.out.2.1, HH.out.2.2⟩
    · have hset := heap_setCell_same W1 (w.heap.size + 1) 0 _ _ (.bool false) HH.out.2.1
      have HS := Lib.hid (show _ = some (Obj.cells #[.bool false] 4 (0, 0)) from hset)
      clear hset
      gi_wp2_with fail
      exact ⟨(KeepsX.refl _ _).setCell (.inl (.inl rfl)) _, rfl, HS.out, HH.out.2.2.setCell (by simp) _⟩
  case done =>
    rintro D W3 rfl ⟨hcuts, hres, hbel⟩ hD
    have hcr := cell_of_row _ (w.heap.size + 1) 0 _ _ _ hres
    have hfr := frozen_of_row W3 (w.heap.size + 1) 0 _ _ hres
    have HH := Lib.hid (And.intro hcuts (And.intro hres (And.intro hbel hD)))
    clear hcuts hres hbel hD
    gi_wp2_with fail
    have hset := heap_setCell_same W3 (w.heap.size + 1) 0 _ _ (.bool true) HH.out.2.1
    have hset' : (W3.setCell ⟨w.heap.size + 1, 0, none⟩ (.bool true)).heap[w.heap.size + 1]? = some (.cells #[.bool true] 4 (0, 0)) := hset
    have hd2 := (heap_setCell_other W3 ⟨w.heap.size + 1, 0, none⟩ W.heap.size (.bool true) (by simp; omega)).trans HH.out.2.2.2
    have hc := cell_of_row _ (w.heap.size + 1) 0 _ _ _ ((World.putObj_heap_other (r := W.heap.size) (o := .deferred none) (show w.heap.size + 1 ≠ W.heap.size by omega)).trans hset')
    have e : cutsP g d r = true := by
      simp only [cutsP, decide_eq_true_eq]
      intro k hk
      exact HH.out.1 (k + 1) (by rw [rowsP_len]; omega)
    rw [e]
    refine ⟨by simp, .inl ⟨_, _, rfl, run_takeDeferred hd2, ?_⟩⟩
    refine ⟨.bool true, by simp [results, Try.results44, go_sem, hc], rfl, ?_⟩
    exact below_putObj (HH.out.2.2.1.setCell (by simp) _) (by omega) _
  case stop =>
    rintro D c k W3 rfl hk ⟨rfl, hlt, hres, hbel⟩ hD
    have hcr := cell_of_row _ (w.heap.size + 1) 0 _ _ _ hres
    have HH := Lib.hid (And.intro hlt (And.intro hres (And.intro hbel hD)))
    clear hlt hres hbel hD
    gi_wp2_with fail
    have hc := cell_of_row _ (w.heap.size + 1) 0 _ _ _ ((World.putObj_heap_other (r := W.heap.size) (o := .deferred none) (show w.heap.size + 1 ≠ W.heap.size by omega)).trans HH.out.2.1)
    rw [rowsP_len] at hk
    have e : cutsP g d r = false := by
      simp only [cutsP, decide_eq_false_iff_not]
      intro h
      have hlt := HH.out.1
      cases k with
      | zero => simp [cutK, ripeK] at hlt
      | succ k => have := h k (by omega); omega
    rw [e]
    refine ⟨by simp, .inl ⟨_, _, rfl, run_takeDeferred HH.out.2.2.2, ?_⟩⟩
    refine ⟨.bool false, by simp [results, Try.results44, go_sem, hc], rfl, ?_⟩
    exact below_putObj HH.out.2.2.1 (by omega) _

end Go.Proofs.Ytkjdapgkojfbmaa
