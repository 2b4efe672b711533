/-
  The length of the air in a tube.
-/
import Derived.Test.YthjpgpelbagceaaFuE
set_option linter.all false
namespace Go.Proofs.Ythjpgpelbagceaa
open Go.RowKit
open R6 (done done_ne done_me upd_ne upd_me)

attribute [local go_sem] gives

/-- A list of spans that a region makes, and a result that it stores. -/
structure AirC (W0 : World) (g : Nat) (X Y : Obj) (ks kb tb n : Nat) (L : List Value) (D : Nat → Bool) (σ : Nat → Value) (W : World) : Prop where
  one : OneW W0 g X Y ks D σ W
  lt0 : g < W0.heap.size
  new : D kb = true → ∃ b, σ tb = .slice (some ⟨b, 0, none⟩) n n ∧ W0.heap.size ≤ b ∧ W.heap[b]? = some (.cells L.toArray 25 (0, 0))
def airK (ks kb tb k : Nat) (d : Option Nat) : Bool := !(k == ks || k == kb || d == some tb)
section
variable {W0 W W' : World} {g : Nat} {X Y : Obj} {ks kb tb n : Nat} {L : List Value} {D : Nat → Bool} {σ : Nat → Value}
theorem AirC.move {k : Nat} {d : Option Nat} {v : Value} (h : AirC W0 g X Y ks kb tb n L D σ W) (hk : airK ks kb tb k d = true) : AirC W0 g X Y ks kb tb n L (done D k) (R4.upd σ d v) W := by
  simp only [airK, Bool.not_eq_true', Bool.or_eq_false_iff, beq_eq_false_iff_ne, ne_eq] at hk
  have e1 := done_ne (D := D) (k := k) (j := kb) (fun e => hk.1.2 e.symm)
  have u1 := upd_ne (ρ := σ) (v := v) hk.2
  exact ⟨h.one.move (by simpa using hk.1.1), h.lt0, by rw [e1, u1]; exact h.new⟩
theorem AirC.next (h : AirC W0 g X Y ks kb tb n L D σ W) (hg : Grows W W') : AirC W0 g X Y ks kb tb n L D σ W' :=
  ⟨h.one.next hg, h.lt0, fun e => let ⟨b, h1, h2, h3⟩ := h.new e; ⟨b, h1, h2, (hg.block _ (lt_of_heap h3)).trans h3⟩⟩
theorem AirC.made (h : AirC W0 g X Y ks kb tb n L D σ W) (hne : (kb == ks) = false) : AirC W0 g X Y ks kb tb n L (done D kb) (R4.upd σ (some tb) (.slice (some ⟨W.heap.size, 0, none⟩) n n)) (W.alloc (.cells L.toArray 25)) :=
  ⟨(h.one.next (grow1 _ _)).move hne, h.lt0, fun _ => ⟨_, upd_me, h.one.gb.size, alloc_at0 _ _⟩⟩
theorem AirC.put (h : AirC W0 g X Y ks kb tb n L D σ W) (hp : Put W W' g) (hM : W'.heap[g]? = some Y) : OneW W0 g X Y ks (done D ks) σ W' := h.one.put hp hM
theorem AirC.start (hb : W0.heap[g]? = some X) (hD : ∀ k, D k = false) : AirC W0 g X Y ks kb tb n L D σ W0.drew :=
  ⟨OneW.start hb (hD _), lt_of_heap hb, fun e => by rw [hD] at e; cases e⟩
end

theorem sumSp_rep (c : Int × Int) (k : Nat) : sumSp (List.replicate k c) = (k * c.1, k * c.2) := by
  induction k with
  | zero => simp [sumSp]
  | succ k ih =>
    rw [List.replicate_succ', sumSp_snoc, ih]
    simp only [spAdd, Prod.mk.injEq]
    constructor <;> (rw [Int.natCast_succ, Int.add_mul, Int.one_mul])

set_option maxRecDepth 100000 in
set_option maxHeartbeats 4000000 in
theorem closedAir_any (len e0 e1 : Int) (h1 : 0 ≤ len ∧ len ≤ 100000) (h2 : 0 ≤ e0 ∧ e0 ≤ 60) (h3 : 0 ≤ e1 ∧ e1 ≤ 60) (w : World) :
    Calls Try.prog 113 #[.agg #[.int .i64 len, .int .i64 e0, .int .i64 e1]] w fun e w' => e = .returned (.agg #[.int .i64 (len + e0), .int .i64 (len + e1)]) ∧ Below w.heap.size w w' := by
  have hs : sumSp [(len, len), (e0, e1)] = (len + e0, len + e1) := by simp [sumSp, spAdd]
  have hsm : smSp [(len, len), (e0, e1)] := by
    intro x hx
    simp only [List.mem_cons, List.not_mem_nil, or_false] at hx
    rcases hx with rfl | rfl <;> (dsimp only; omega)
  have hsum := fun (W : World) b (hb : W.heap[b]? = some (.cells [Value.int .i64 len, .int .i64 len, .int .i64 e0, .int .i64 e1].toArray 25 (0, 0))) => sum_any [(len, len), (e0, e1)] hsm (by simp) (some ⟨b, 0, none⟩) 2 W.heap.size W (Nat.le_refl _) (vals_in hb (lt_of_heap hb) at0)
  rw [hs] at hsum
  simp only [List.length_cons, List.length_nil, Nat.zero_add, Nat.reduceAdd] at hsum
  have HS := Lib.hid hsum
  clear hs hsm hsum
  obtain ⟨w3, hw3⟩ : ∃ w3, (w.alloc (.cells #[.int .i64 len, .int .i64 e0, .int .i64 e1] 115)).alloc (.cells #[.int .i64 0, .int .i64 0] 86) = w3 := ⟨_, rfl⟩
  have hb : Below w.heap.size w w3 := by rw [← hw3]; exact ((Below.refl _ _).alloc (Nat.le_refl _) _).alloc (by simp) _
  have m0 : w3.heap[w.heap.size]? = some (.cells #[.int .i64 len, .int .i64 e0, .int .i64 e1] 115 (0, 0)) := by rw [← hw3]; exact alloc2_at0 _ _ _
  have m2 : w3.heap[w.heap.size + 1]? = some (.cells #[.int .i64 0, .int .i64 0] 86 (0, 0)) := by rw [← hw3]; exact alloc2_at1 _ _ _
  have HM := Lib.hid (And.intro hb (And.intro m0 m2))
  have HO := Lib.hid (fun W => one_any len W)
  generalize len + e0 = t0 at HS ⊢
  generalize len + e1 = t1 at HS ⊢
  clear hb m0 m2 h1 h2 h3
  go_enter Try.func113, Try.ntmps113
  go_wp2
  refine R6.wp_walk (C := AirC w3 (w.heap.size + 1) (.cells #[.int .i64 0, .int .i64 0] 86 (0, 0)) (.cells #[.int .i64 t0, .int .i64 t1] 86 (0, 0)) 8 5 8 2 [.int .i64 len, .int .i64 len, .int .i64 e0, .int .i64 e1]) 11 (by kernel_rfl) (by kernel_rfl) rfl (AirC.start HM.out.2.2 (fun _ => rfl)) ?_
  simp only []
  iterate 5
    (refine' R6.WalkR.det (fun _ => rfl) (fun D ρ W hK hC => ?_) ?_
     rotate_left
     · have f0 := fun i => cell_of_row W w.heap.size i _ _ _ ((hC.one.other (lt_of_heap HM.out.2.1) (by omega)).trans HM.out.2.1)
       have HC := Lib.hid hC
       clear hC hK
       go_simp
       first
         | with_reducible exact ⟨rfl, HC.out.move (by decide)⟩
         | (go_at_call 115; refine (HO.out W).mono ?_; rintro e W1 ⟨rfl, hB1⟩; exact ⟨_, rfl, rfl, (HC.out.next hB1).move (by decide)⟩)
     simp only [Act.put, List.setIfInBounds_toArray, List.set_cons_succ, List.set_cons_zero])
  refine' R6.WalkR.nd (fun _ => rfl) rfl (fun D ρ W hK hC => ?_) ?_
  · have HC := Lib.hid hC
    clear hC hK
    go_simp
    exact HC.out.made rfl
  simp only [Act.put, List.setIfInBounds_toArray, List.set_cons_succ, List.set_cons_zero]
  refine' R6.WalkR.det (fun _ => rfl) (fun D ρ W hK hC => ?_) ?_
  rotate_left
  · obtain ⟨b, hv, -, hm⟩ := hC.new (hK.pre 5 (by first | decide +kernel | (dsimp only; decide +kernel)))
    have HC := Lib.hid hC
    have HMb := Lib.hid hm
    clear hC hK hm
    go_simp
    go_at_call 114
    refine (HS.out W b HMb.out).mono ?_
    rintro e W1 ⟨rfl, hB1⟩
    exact ⟨_, rfl, rfl, (HC.out.next hB1).move (by decide)⟩
  simp only [Act.put, List.setIfInBounds_toArray, List.set_cons_succ, List.set_cons_zero]
  iterate 1
    (refine' R6.WalkR.det (fun _ => rfl) (fun D ρ W hK hC => ?_) ?_
     rotate_left
     · have HC := Lib.hid hC
       clear hC hK
       go_simp
       with_reducible exact ⟨rfl, HC.out.move (by decide)⟩
     simp only [Act.put, List.setIfInBounds_toArray, List.set_cons_succ, List.set_cons_zero])
  refine' R6.WalkR.det (c := undef) (fun _ => rfl) (fun D ρ W hK hC => ?_) ?_
  · have h7 := hC.one.no hK.me
    refine gives_store_blk 86 (.tmp 2) (.tmp 10) rfl rfl (cs := [.int .i64 t0, .int .i64 t1]) (L := [.int .i64 0, .int .i64 0]) rfl h7 (Nat.le_refl 2) (by simp [Value.oneCell']) rowAir ?_
    intro W1 hP hM
    refine ⟨rfl, hC.one.put hP hM, hC.lt0, fun e => ?_⟩
    obtain ⟨b, h1, h2, h3⟩ := hC.new (by rwa [done_ne (by decide)] at e)
    exact ⟨b, h1, h2, (hP.other b (by have := hC.lt0; omega)).trans h3⟩
  simp only [Act.put]
  refine R6.WalkR.nil (fun D ρ W hD hC => ?_)
  have hM7 := hC.one.yes (hD 8 (by decide))
  have hB7 := HM.out.1.grown hC.one.gb HM.out.1.size (fun k e => by cases e; omega)
  have H7 := Lib.hid (And.intro hM7 hB7)
  have hc7 := fun i => cell_of_row W (w.heap.size + 1) i _ _ _ hM7
  clear hC hD hM7 hB7
  go_wp2
  refine bodyPost_ret (v := .agg #[.int .i64 t0, .int .i64 t1]) (by simp [results, Try.results113, go_sem, hc7]) rfl ⟨rfl, H7.out.2⟩

end Go.Proofs.Ythjpgpelbagceaa
