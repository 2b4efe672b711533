/-
  Texts laid together: FuW, FuX.
-/
import Derived.Lib.MinMax
import Derived.Test.YtjjipkgconmfcaaB912
set_option linter.all false
namespace Go.Proofs.Ytjjipkgconmfcaa
open Go.RowKit Go.Shelf
open R6 (done done_ne done_me upd_ne upd_me)

attribute [local go_sem] gives Oper.semAt_some

/-- One block is made, then written. -/
structure NwC (w0 : World) (X Y : Obj) (ka ks : Nat) (D : Nat → Bool) (σ : Nat → Value) (W : World) : Prop where
  bel : Below w0.heap.size w0 W
  sz : D ka = false → W.heap.size = w0.heap.size
  new : D ka = true → D ks = false → W.heap[w0.heap.size]? = some X ∧ W.heap.size = w0.heap.size + 1
  put : D ks = true → W.heap[w0.heap.size]? = some Y ∧ W.heap.size = w0.heap.size + 1
section
variable {w0 W W' : World} {X Y : Obj} {ka ks : Nat} {D : Nat → Bool} {σ σ' : Nat → Value}
theorem NwC.move {k : Nat} (h : NwC w0 X Y ka ks D σ W) (hk : (k == ka || k == ks) = false) : NwC w0 X Y ka ks (done D k) σ' W := by
  simp only [Bool.or_eq_false_iff, beq_eq_false_iff_ne, ne_eq] at hk
  have e1 := done_ne (D := D) (k := k) (j := ka) (fun e => hk.1 e.symm)
  have e2 := done_ne (D := D) (k := k) (j := ks) (fun e => hk.2 e.symm)
  exact ⟨h.bel, by rw [e1]; exact h.sz, by rw [e1, e2]; exact h.new, by rw [e2]; exact h.put⟩
theorem NwC.alloc (h : NwC w0 X Y ka ks D σ W) (hn : ka ≠ ks) (h1 : D ka = false) (h2 : D ks = false) (hX : W' = W.alloc X) (hm : W'.heap[W.heap.size]? = some X) : NwC w0 X Y ka ks (done D ka) σ' W' := by
  have e2 := done_ne (D := D) (k := ka) (j := ks) (fun e => hn e.symm)
  have hs := h.sz h1
  subst hX
  exact ⟨h.bel.alloc h.bel.size _, fun e => (by rw [done_me] at e; cases e), fun _ _ => ⟨by rw [← hs]; exact hm, by simp [hs]⟩, fun e => (by rw [e2, h2] at e; cases e)⟩
theorem NwC.store (h : NwC w0 X Y ka ks D σ W) (hn : ka ≠ ks) (h1 : D ka = true) (h2 : D ks = false) (hb : Below w0.heap.size W W') (hs : W'.heap.size = W.heap.size) (hM : W'.heap[w0.heap.size]? = some Y) : NwC w0 X Y ka ks (done D ks) σ' W' := by
  have e1 := done_ne (D := D) (k := ks) (j := ka) hn
  exact ⟨h.bel.trans hb, fun e => (by rw [e1, h1] at e; cases e), fun _ e => (by rw [done_me] at e; cases e), fun _ => ⟨hM, by rw [hs, (h.new h1 h2).2]⟩⟩
theorem NwC.start (hD : ∀ k, D k = false) : NwC w0 X Y ka ks D σ w0.drew :=
  ⟨(Below.refl _ _).drew, fun _ => rfl, fun e => (by rw [hD] at e; cases e), fun e => (by rw [hD] at e; cases e)⟩
end

def stepR (near : Int) (st : List (Int × Int) × Int) (z : Int) : List (Int × Int) × Int := (st.1 ++ [(max (z + near) 50, st.2)], min (z - near) st.2)
def stR (near : Int) (zs : List Int) (ks : List Nat) (m : Int) : List (Int × Int) × Int := ks.foldl (fun st k => stepR near st (zs[k]?.getD 0)) ([], m)
theorem stR_snoc (near : Int) (zs : List Int) (ks : List Nat) (k : Nat) (m : Int) : stR near zs (ks ++ [k]) m = stepR near (stR near zs ks m) (zs[k]?.getD 0) := by simp [stR, List.foldl_append]
theorem stR_len (near : Int) (zs : List Int) (m : Int) (ks : List Nat) : (stR near zs ks m).1.length = ks.length := by
  have h : ∀ (l : List Nat) (st : List (Int × Int) × Int), (l.foldl (fun st k => stepR near st (zs[k]?.getD 0)) st).1.length = st.1.length + l.length := by
    intro l
    induction l with
    | nil => intro st; rfl
    | cons a l ih => intro st; rw [List.foldl_cons, ih]; simp [stepR]; omega
  have := h ks ([], m)
  simpa [stR] using this
def roomL (b : Bk) (last : Option Int) : List (Int × Int) := match last with
  | none => [(50, b.len)]
  | some p => (stR b.near b.zs (List.range b.zs.length).reverse (p - b.gap)).1 ++ [(50, (stR b.near b.zs (List.range b.zs.length).reverse (p - b.gap)).2)]
def RoomPost (w : World) (l : List (Int × Int)) (e : Ending) (w' : World) : Prop := ∃ A cap, e = .returned (.slice A l.length cap) ∧ Vals w' w'.heap.size A (pairs l) ∧ Below w.heap.size w w'

set_option maxRecDepth 100000 in
theorem room_none (b : Bk) (A : Option Addr) (cap : Nat) (w : World) :
    Calls Try.prog 69 #[.agg (bkc b).toArray, .slice A 0 cap] w (RoomPost w (roomL b none)) := by
  unfold RoomPost roomL bkc
  go_enter Try.func69, Try.ntmps69
  go_wp2
  go_ret
  refine ⟨some ⟨w.heap.size + 1, 0, none⟩, 1, by first | rfl | simp, ?_, ((Below.refl _ _).alloc (Nat.le_refl _) _).alloc (by simp) _⟩
  exact vals_in (L := [.int .i64 50, .int .i64 b.len]) (alloc2_at1 _ _ _) (by simp) at0

theorem own_mono {w : World} {base base' : Nat} {e : TypeId} {size n : Nat} {v : Value} {xs : List Value} (h : w.ownsRow base e size v n xs) (hb : base' ≤ base) : w.ownsRow base' e size v n xs :=
  ⟨h.1, h.2.imp id fun ⟨g, cap, cur, hv, hg, rest⟩ => ⟨g, cap, cur, hv, Nat.le_trans hb hg, rest⟩⟩
theorem own_blockL {w : World} {base : Nat} {e : TypeId} {size n : Nat} {v : Value} {xs : List Value} (h : w.ownsRow base e size v n xs) : ∀ k, v.ownBlock = some k → base ≤ k := by
  intro k hk
  rcases h.2 with ⟨rfl, _⟩ | ⟨g, cap, cur, rfl, hg, _⟩
  · simp [Value.ownBlock] at hk
  · obtain rfl : g = k := by simpa [Value.ownBlock] using hk
    exact hg
theorem cell_two_new (w : World) (x y : Value) (t : TypeId) : ∀ j u, [x, y][j]? = some u → (w.alloc (.cells #[x, y] t)).cell? ((⟨w.heap.size, 0, none⟩ : Addr).add j) = some u := fun j u hj => by
  rw [Addr.add_mid, Nat.zero_add, cell_of_row _ w.heap.size j _ _ _ (alloc_at0 w _)]
  simpa using hj

def ixR {zs : List Int} (pre : List (Idx zs)) : List Nat := pre.map (·.1)
theorem ixR_app {zs : List Int} (pre : List (Idx zs)) (x : Idx zs) : ixR (pre ++ [x]) = ixR pre ++ [x.1] := by simp [ixR]
theorem ixR_len {zs : List Int} (pre : List (Idx zs)) : (ixR pre).length = pre.length := by simp [ixR]
/-- What lies while stretches are written down. -/
structure RoomI (b : Bk) (m0 : Int) (t6 : Nat) (w w7 : World) (pre : List (Idx b.zs)) (A : World) : Prop where
  b0 : A.heap[w.heap.size]? = some (.cells (bkc b).toArray 34 (0, 0))
  b2 : A.heap[t6]? = some (.cells #[.int .i64 (stR b.near b.zs (ixR pre) m0).2] 3 (0, 0))
  bel : Below w.heap.size w A
  sz : w7.heap.size ≤ A.heap.size
  bd : -20000 ≤ (stR b.near b.zs (ixR pre) m0).2 ∧ (stR b.near b.zs (ixR pre) m0).2 ≤ 20000
theorem RoomI.from {b : Bk} {m0 : Int} {t6 : Nat} {w w7 : World} (h2 : w.heap.size < w7.heap.size) (h6 : t6 < w7.heap.size) : OwnFrom w7.heap.size (RoomI b m0 t6 w w7) := by
  intro pre W W' row h hg hr
  have hk : ∀ k, k < w7.heap.size → W'.heap[k]? = W.heap[k]? := fun k hk => hg.block k (Nat.lt_of_lt_of_le hk h.sz) (fun e => by have := (hr k e.symm).1; omega)
  exact ⟨(hk _ h2).trans h.b0, (hk _ h6).trans h.b2, h.bel.grown hg h.bel.size (fun k e => by have := (hr k e).1; omega), Nat.le_trans h.sz hg.size, h.bd⟩

set_option maxRecDepth 100000 in
set_option maxHeartbeats 8000000 in
theorem room_some (b : Bk) (hbd : (1 ≤ b.gap ∧ b.gap ≤ 20000) ∧ (0 ≤ b.near ∧ b.near ≤ 20000) ∧ b.zs.length ≤ 10 ∧ ∀ k : Nat, 0 ≤ b.zs[k]?.getD 0 ∧ b.zs[k]?.getD 0 ≤ 20000)
    (S off k cap : Nat) (y : Int) (hy : 50 ≤ y ∧ y ≤ 20000) (hk : k ≤ 100) (B : Nat) (w : World) (hB : B ≤ w.heap.size) (hz : BkAt w B b) (hS : S < w.heap.size) (hcS : w.cell? ⟨S, off + k, none⟩ = some (.int .i64 y)) :
    Calls Try.prog 69 #[.agg (bkc b).toArray, .slice (some ⟨S, off, none⟩) (k + 1) cap] w (RoomPost w (roomL b (some y))) := by
  obtain ⟨hgap, hnear, hzl, hzz⟩ := hbd
  obtain ⟨m0, hm0⟩ : ∃ m0, m0 = y - b.gap := ⟨_, rfl⟩
  have hrl : roomL b (some y) = (stR b.near b.zs (List.range b.zs.length).reverse m0).1 ++ [(50, (stR b.near b.zs (List.range b.zs.length).reverse m0).2)] := by rw [hm0]; rfl
  unfold RoomPost
  rw [hrl]
  have hm01 : -20000 ≤ m0 ∧ m0 ≤ 20000 := by omega
  have HBZ := Lib.hid hz
  have HR := Lib.hid (And.intro hm01 (And.intro hzz (And.intro hzl hB)))
  obtain ⟨w2, hw2⟩ : ∃ w2, (w.alloc (.cells (bkc b).toArray 34)).alloc (.cells #[.slice none 0 0] 41) = w2 := ⟨_, rfl⟩
  have hs2 : w2.heap.size = w.heap.size + 2 := by rw [← hw2]; simp
  have hb2 : Below w.heap.size w w2 := by rw [← hw2]; exact ((Below.refl _ _).alloc (Nat.le_refl _) _).alloc (by simp) _
  have m0b : w2.heap[w.heap.size]? = some (.cells (bkc b).toArray 34 (0, 0)) := by rw [← hw2]; exact alloc2_at0 _ _ _
  have m1b : w2.heap[w.heap.size + 1]? = some (.cells #[.slice none 0 0] 41 (0, 0)) := by rw [← hw2]; exact alloc2_at1 _ _ _
  have hcS2 : w2.cell? ⟨S, off + k, none⟩ = some (.int .i64 y) := (hb2.cell (p := ⟨S, off + k, none⟩) hS).trans hcS
  have H2 := Lib.hid (And.intro hs2 (And.intro hb2 (And.intro m0b (And.intro m1b (And.intro hcS2 (show S < w2.heap.size by omega))))))
  have hkz : ((k + 1 : Nat) : Int) = (k : Int) + 1 := by omega
  have hne : (((k + 1 : Nat) : Int) == 0) = false := by simpa using (show ((k + 1 : Nat) : Int) ≠ 0 by omega)
  have HM0 := Lib.hid hm0
  have hy1 := hy.1
  have hy2 := hy.2
  have hg1 := hgap.1
  have hg2 := hgap.2
  have hn1 := hnear.1
  have hn2 := hnear.2
  clear hm0 hrl hm01 hzz hzl hs2 hb2 m0b m1b hcS2 hS hcS hy hgap hnear hz hB
  have hwk : IntKind.i64.wrap (k : Int) = (k : Int) := IntWalk.i64_in _ (by omega)
  have hwy : IntKind.i64.wrap (y - b.gap) = y - b.gap := IntWalk.i64_in _ (by omega)
  have hklt : (0 : Int) ≤ (k : Int) ∧ (k : Int) < (k : Int) + 1 := by omega
  unfold bkc at hw2 H2 ⊢
  refine (callsIn_wide (n := 4)).1 ?_
  refine callsIn_of_wp_marks Try.func69 rfl trivial ?_ rfl
  simp only [Try.ntmps69, List.size_toArray, List.length_cons, List.length_nil, Nat.reduceAdd, Nat.reduceSub, Array.replicate_succ, Array.replicate_zero, List.push_toArray, List.append_toArray, List.nil_append, List.cons_append]
  gi_wp2_with fail
  clear hne
  refine wpIn_wide.2 ?_
  refine R6.wp_walk (C := NwC w2 (.cells #[.int .i64 0] 3 (0, 0)) (.cells #[.int .i64 m0] 3 (0, 0)) 9 10) 51 (by kernel_rfl) (by kernel_rfl) rfl (NwC.start (fun _ => rfl)) ?_
  simp only []
  iterate 9
    (refine' R6.WalkR.det (fun _ => rfl) (fun D ρ W hK hC => ?_) ?_
     rotate_left
     · have f0 := fun i => cell_of_row W w.heap.size i _ _ _ ((hC.bel.block _ (lt_of_heap H2.out.2.2.1)).trans H2.out.2.2.1)
       have f1 : W.cell? ⟨S, off + k, none⟩ = some (.int .i64 y) := (hC.bel.cell (p := ⟨S, off + k, none⟩) H2.out.2.2.2.2.2).trans H2.out.2.2.2.2.1
       have HC := Lib.hid hC
       clear hC hK
       go_simp
       first
         | with_reducible exact ⟨rfl, HC.out.move rfl⟩
         | (rw [← HM0.out]; with_reducible exact ⟨rfl, HC.out.move rfl⟩)
     simp only [Act.put, List.setIfInBounds_toArray, List.set_cons_succ, List.set_cons_zero])
  refine' R6.WalkR.det (c := .pointer (some ⟨w2.heap.size, 0, none⟩)) (fun _ => rfl) (fun D ρ W hK hC => ?_) ?_
  · have HS := Lib.hid (And.intro (hC.sz hK.me) (And.intro hK.me (hK.post 10 (by first | decide +kernel | (dsimp only; decide +kernel)))))
    have HC := Lib.hid hC
    clear hC hK
    go_simp
    exact ⟨by rw [HS.out.1], HC.out.alloc (by decide) HS.out.2.1 HS.out.2.2 rfl (alloc_at0 _ _)⟩
  simp only [Act.put, List.setIfInBounds_toArray, List.set_cons_succ, List.set_cons_zero]
  refine' R6.WalkR.det (c := undef) (fun _ => rfl) (fun D ρ W hK hC => ?_) ?_
  · have h9 := hK.pre 9 (by first | decide +kernel | (dsimp only; decide +kernel))
    have hN := hC.new h9 hK.me
    have fN := fun i => cell_of_row W w2.heap.size i _ _ _ hN.1
    have gN := fun i => frozen_of_row W w2.heap.size i _ _ hN.1
    have HS := Lib.hid (And.intro h9 (And.intro hK.me hN))
    have HC := Lib.hid hC
    clear hC hK hN h9
    go_simp
    rw [← HM0.out]
    exact HC.out.store (by decide) HS.out.1 HS.out.2.1 ((Below.refl _ _).setCell (p := ⟨w2.heap.size, 0, none⟩) (Nat.le_refl _) _) (by simp) (heap_setCell_same _ _ _ _ _ _ HS.out.2.2.1)
  simp only [Act.put]
  refine R6.WalkR.nil (fun D ρ W hD hC => ?_)
  obtain ⟨w3, hw3⟩ : ∃ w3, W = w3 := ⟨_, rfl⟩
  rw [hw3] at hC ⊢
  have hp3 := hC.put (hD 10 (by decide))
  have H3 := Lib.hid (And.intro hC.bel hp3)
  clear hC hD hp3 hw3
  clear D ρ W
  have hc3 := fun i => cell_of_row w3 w.heap.size i _ _ _ ((H3.out.1.block _ (lt_of_heap H2.out.2.2.1)).trans H2.out.2.2.1)
  gi_wp2_with (refine ⟨trivial, ?_⟩
               gi_at_call 71
               refine (callsIn_wide.2 (backward_any _ _ _ _)).mono ?_
               rintro e w7 ⟨rfl, hw7⟩
               have H7 := Lib.hid hw7
               clear hw7 hc3)
  obtain ⟨i0, hi, he⟩ := Option.map_eq_some_iff.1 infoSpan
  simp only [Prod.mk.injEq] at he
  have HI := Lib.hid (And.intro hi he)
  clear hi he
  have hs2 := H2.out.1
  have hs3 := H3.out.2.2
  have h7e := H7.out
  have hs7 : w7.heap.size = w3.heap.size + 1 := by rw [h7e]; simp
  have hb7 : Below w3.heap.size w3 w7 := by rw [h7e]; exact grow1 _ _
  have hbg : w7.heap[w3.heap.size]? = some (.cells #[.slice b.A b.zs.length b.cap] 32 (0, 0)) := by rw [h7e]; exact alloc_at0 _ _
  have k3 : ∀ j, j < w2.heap.size → w7.heap[j]? = w2.heap[j]? := fun j hj => (hb7.block _ (by omega)).trans (H3.out.1.block _ hj)
  have hI0 : RoomI b m0 w2.heap.size w w7 [] w7 := ⟨(k3 _ (by omega)).trans H2.out.2.2.1, (hb7.block _ (by omega)).trans H3.out.2.1, H2.out.2.1.trans ((H3.out.1.mono (by omega)).trans (hb7.mono (by omega))), Nat.le_refl _, HR.out.1⟩
  have hbox : Boxed w7 (w.heap.size + 1) 41 (.slice none 0 0) := (k3 _ (by omega)).trans H2.out.2.2.2.1
  have hzz := Ints.below HBZ.out (hI0.bel.mono HR.out.2.2.2)
  obtain ⟨Sb, hSb, hseq⟩ := backward_all (4 - 1) w3.heap.size b.cap b.A b.zs (by omega) (by have := HR.out.2.2.1; omega) B w7 (by have := HR.out.2.2.2; omega) (by omega) hbg hzz
  have hSb2 : Sb < w.heap.size ∨ Sb = w3.heap.size := by rcases hSb with h | h; exact .inl (by have := HR.out.2.2.2; omega); exact .inr h
  clear h7e hSb
  refine wpIn_rangeFunc_ownF rfl (by omega) (gf := 89) (lb := #[.pointer (some ⟨w3.heap.size, 0, none⟩)]) rfl trivial (enters_of Try.func89 (by kernel_rfl) rfl) hseq
    (fun h k => ⟨k.1.trans h.1, k.2.trans h.2⟩)
    (fun W l o o' hl _ _ _ => ⟨World.putObj_heap_other (by omega), World.putObj_heap_other (by omega)⟩) (Below.refl _ _) (fun _ => rfl)
    (fun pre A => (∃ v, Boxed A (w.heap.size + 1) 41 v ∧ A.ownsRow w7.heap.size 25 2 v (stR b.near b.zs (ixR pre) m0).1.length (pairs (stR b.near b.zs (ixR pre) m0).1) ∧ True) ∧ RoomI b m0 w2.heap.size w w7 pre A)
    (fun _ _ _ => False)
    (OwnFrom.and (Own.from (holdsRow_own w7.heap.size (w.heap.size + 1) 41 25 2 _ _ (fun _ _ => True)) _) (RoomI.from (by omega) (by omega)))
    (fun _ _ _ _ _ hs _ _ => hs)
    ⟨⟨_, hbox, by simpa [stR, ixR, pairs] using World.ownsRow_nil w7 w7.heap.size 25 2, trivial⟩, hI0⟩
    (fun x => { tmps := #[.agg #[.int .i64 b.len, .int .i64 b.e0, .int .i64 b.e1, .int .i64 b.f0, .int .i64 b.f1, .int .i64 b.s0, .int .i64 b.s1, .int .i64 b.gap, .int .i64 b.near, .slice b.A b.zs.length b.cap], .slice (some ⟨S, off, none⟩) (k + 1) cap, .pointer (some ⟨w.heap.size, 0, none⟩), undef, .slice none 0 0, .pointer (some ⟨w.heap.size + 1, 0, none⟩), .pointer (some ⟨w2.heap.size, 0, none⟩), undef, .int .i64 (b.zs[x.1]?.getD 0), .slice (some ⟨S, off, none⟩) (k + 1) cap, .int .i64 ((k : Int) + 1), .bool false, undef, undef, undef, undef, .slice (some ⟨S, off, none⟩) (k + 1) cap, .slice (some ⟨S, off, none⟩) (k + 1) cap, .int .i64 ((k : Int) + 1), .int .i64 (k : Int), .pointer (some ⟨S, off + k, none⟩), .int .i64 y, .pointer (some ⟨w.heap.size, 7, none⟩), .int .i64 b.gap, .int .i64 (y - b.gap), .pointer (some ⟨w.heap.size, 9, none⟩), .slice b.A b.zs.length b.cap, .func (.func 89) #[] #[.pointer (some ⟨w3.heap.size, 0, none⟩)], .int .i64 (x.1 : Int), .int .i64 (b.zs[x.1]?.getD 0), undef, undef, undef, undef, undef, undef, undef, undef, undef, undef, undef, undef, undef, undef, undef, undef, undef, undef, undef, undef, undef], defers := [] }) ?assign ?body ?done ?stop
  case assign =>
    intro l x W K hK
    have hKK := Lib.hid hK
    clear hK
    simp only [encI]
    generalize b.zs[x.1]?.getD 0 = z at hKK ⊢
    clear hseq hI0 hbox hzz hbg hb7 k3 hs2 hs3 hs7 hw2
    gi_wp2_with fail
    exact hKK.out
  case body =>
    rintro l pre x W ⟨⟨v, hv, hrow, -⟩, hI⟩ hlt
    have hsn := stR_snoc b.near b.zs (ixR pre) x.1 m0
    have hln := stR_len b.near b.zs m0 (ixR pre)
    rw [ixR_len] at hln
    have hzb := HR.out.2.1 x.1
    have hzn := HR.out.2.2.1
    have hb0 := hI.b0
    have hb2 := hI.b2
    have hbd := hI.bd
    have hsz := hI.sz
    have hmp := ixR_app pre x
    rw [← hmp] at hsn
    generalize b.zs[x.1]?.getD 0 = z at hsn hzb ⊢
    generalize hst : stR b.near b.zs (ixR pre) m0 = st at hrow hsn hln hb2 hbd
    obtain ⟨L, mo⟩ := st
    dsimp only at hrow hln hb2 hbd
    have HST := Lib.hid (And.intro hst hsn)
    have HRW := Lib.hid (And.intro hv (And.intro hrow hI))
    have HLN := Lib.hid (And.intro hln (And.intro hlt hzn))
    have hvc := hv.cell
    have hc0 := fun i => cell_of_row W w.heap.size i _ _ _ hb0
    unfold bkc at hc0
    have hc2 := fun i => cell_of_row W w2.heap.size i _ _ _ hb2
    have HB0 := Lib.hid (And.intro hb0 hb2)
    have hz1 := hzb.1
    have hz2 := hzb.2
    have hm1 := hbd.1
    have hm2 := hbd.2
    have HSZ := Lib.hid (And.intro hs2 (And.intro hs3 (And.intro hs7 hsz)))
    have hwl1 : w.heap.size + 1 < w2.heap.size := by omega
    have hwl2 : w2.heap.size < W.heap.size := by omega
    clear hseq hI0 hbox hzz hbg hb7 k3 hs2 hs3 hs7 hw2 hv hrow hI hsn hln hst hzb hbd hb0 hb2 hsz hmp hlt hzn
    gi_wp2_with
      (gi_at_builtin
       refine wpListIn_append_own _ rfl (.tmp 30) (.tmp 38) 41 rfl w7.heap.size 25 i0 _ 2 16 Try.underlying41 HI.out.1 HI.out.2.1 HI.out.2.2.1 HI.out.2.2.2 rfl (by decide) v L.length (pairs L) rfl (HRW.out.2.1.alloc _)
         ⟨W.heap.size, 0, none⟩ 1 1 [.int .i64 (max (z + b.near) 50), .int .i64 mo] rfl rfl (cell_two_new _ _ _ _) (by simp [Value.oneCell']) (by have := HLN.out; have := HSZ.out; simp only [maxLen]; omega) (by have := HLN.out; have := HSZ.out; omega) (by have := HLN.out; have := HSZ.out; simp; omega) ?_
       intro v' w4 hown' hgrow _
       obtain ⟨g', cap', rfl⟩ := ownsRow_succ hown'
       obtain ⟨hv1, hv2, _, hk2, hb2⟩ := HRW.out.1.appended (n₀ := w.heap.size + 1) (by decide) (own_mono HRW.out.2.1 (by have := HSZ.out; omega)) (by have := HSZ.out; omega) (Nat.le_refl _) (own_mono hown' (by have := HSZ.out; omega)) hgrow
       have hk4 : ∀ j, j < w7.heap.size → w4.heap[j]? = W.heap[j]? := fun j hj => (hgrow.block j (by simp; have := HSZ.out; omega) (fun e => by have := own_blockL HRW.out.2.1 _ e.symm; omega)).trans (Below.heap_alloc _ _ _ (by have := HSZ.out; omega))
       have hd0 := fun i => cell_of_row w4 w.heap.size i _ _ _ ((hk4 _ (by have := HSZ.out; omega)).trans HB0.out.1)
       unfold bkc at hd0
       have hd2 := fun i => cell_of_row w4 w2.heap.size i _ _ _ ((hk4 _ (by have := HSZ.out; omega)).trans HB0.out.2)
       have he2 := fun i => frozen_of_row w4 w2.heap.size i _ _ ((hk4 _ (by have := HSZ.out; omega)).trans HB0.out.2)
       have hc1 := hv1.cell
       have hf1 := hv1.frozen
       have H4 := Lib.hid (And.intro hv1 (And.intro hv2 (And.intro hk2 (And.intro hb2 (And.intro hown' (And.intro hgrow hk4))))))
       clear hv1 hv2 hk2 hb2 hown' hgrow hk4 hc0 hc2 hvc)
    have hsn := HST.out.2
    simp only [HST.out.1, stepR] at hsn
    have hs := HSZ.out
    have h6 : ∀ j, j < w7.heap.size → j ≠ w.heap.size + 1 → j ≠ w2.heap.size → ((w4.setCell ⟨w.heap.size + 1, 0, none⟩ (.slice (some ⟨g', 0, none⟩) (L.length + 1) cap')).setCell ⟨w2.heap.size, 0, none⟩ (.int .i64 (min (z - b.near) mo))).heap[j]? = W.heap[j]? :=
      fun j hj h1 h2 => (Below.heap_setCell _ _ _ _ (by simpa using h2)).trans ((Below.heap_setCell _ _ _ _ (by simpa using h1)).trans (H4.out.2.2.2.2.2.2 j hj))
    have hown5 := H4.out.2.2.2.2.1.kept (grownBy_setCell' w4 (w.heap.size + 1) (.slice (some ⟨g', 0, none⟩) (L.length + 1) cap')) (.inr (H4.out.1.not_row (by decide) H4.out.2.2.2.2.1).symm)
    have hown6 := hown5.kept (grownBy_setCell' (w4.setCell ⟨w.heap.size + 1, 0, none⟩ (.slice (some ⟨g', 0, none⟩) (L.length + 1) cap')) w2.heap.size (.int .i64 (min (z - b.near) mo))) (.inr (fun e => by have := own_blockL hown5 _ e; omega))
    refine ⟨H4.out.2.2.1.trans (KeepsOthers.setCell _ _ _), ⟨h6 _ (by omega) (by omega) (by omega), h6 _ (by omega) (by omega) (by omega)⟩, ⟨_, (Below.heap_setCell _ _ _ _ (by simp; omega)).trans H4.out.2.1, ?_⟩, ?_⟩
    · rw [hsn]
      simpa [pairs_app, pairs] using hown6
    · refine ⟨(h6 _ (by omega) (by omega) (by omega)).trans HB0.out.1, ?_, ((HRW.out.2.2.bel.trans (H4.out.2.2.2.1.mono (by omega))).setCell (by simp; omega) _), ?_, ?_⟩
      · rw [hsn]
        exact heap_setCell_same _ _ _ _ _ _ ((Below.heap_setCell _ _ _ _ (by simp; omega)).trans ((H4.out.2.2.2.2.2.2 _ (by omega)).trans HB0.out.2))
      · have := H4.out.2.2.2.1.size; simp at this ⊢; omega
      · rw [hsn]; dsimp only; omega
  case done =>
    rintro D xs W hD hxs ⟨⟨v, hv, hrow, -⟩, hI⟩ hDd
    have hix : ixR xs = (List.range b.zs.length).reverse := hxs
    have hln := stR_len b.near b.zs m0 (ixR xs)
    have hb0 := hI.b0
    have hb2 := hI.b2
    have hsz := hI.sz
    have hzn := HR.out.2.2.1
    have hbel := hI.bel
    rw [hix] at hrow hb2 hln
    rw [List.length_reverse, List.length_range] at hln
    generalize hst : stR b.near b.zs (List.range b.zs.length).reverse m0 = st at hrow hb2 hln
    obtain ⟨L, mo⟩ := st
    dsimp only at hrow hln hb2
    have HST := Lib.hid hst
    clear hst
    have hvc := hv.cell
    have hc2 := fun i => cell_of_row W w2.heap.size i _ _ _ hb2
    have HRW := Lib.hid (And.intro hv (And.intro hrow (And.intro hbel (And.intro hDd hD))))
    have HLN := Lib.hid (And.intro hln hzn)
    have HSZ := Lib.hid (And.intro hs2 (And.intro hs3 (And.intro hs7 hsz)))
    clear hseq hI0 hbox hzz hbg hb7 k3 hs2 hs3 hs7 hw2 hv hrow hI hln hb0 hb2 hsz hzn hbel hDd hix hxs hD
    gi_wp2_with
      (gi_at_builtin
       refine wpListIn_append_own _ rfl (.tmp 46) (.tmp 49) 41 rfl w7.heap.size 25 i0 _ 2 16 Try.underlying41 HI.out.1 HI.out.2.1 HI.out.2.2.1 HI.out.2.2.2 rfl (by decide) v L.length (pairs L) rfl (HRW.out.2.1.alloc _)
         ⟨W.heap.size, 0, none⟩ 1 1 [.int .i64 50, .int .i64 mo] rfl rfl (cell_two_new _ _ _ _) (by simp [Value.oneCell']) (by have := HLN.out; have := HSZ.out; simp only [maxLen]; omega) (by have := HLN.out; have := HSZ.out; omega) (by have := HLN.out; have := HSZ.out; simp; omega) ?_
       intro v' w4 hown' hgrow _
       obtain ⟨g', cap', rfl⟩ := ownsRow_succ hown'
       have H4 := Lib.hid (And.intro hown' hgrow)
       clear hown' hgrow hc2 hvc)
    have hs := HSZ.out
    have hDn : v.ownBlock ≠ some D := by
      rcases HRW.out.2.1.2 with ⟨rfl, _⟩ | ⟨g, cap, cur, rfl, _, hgb, _⟩
      · simp [Value.ownBlock]
      · intro e'
        obtain rfl : g = D := by simpa [Value.ownBlock] using e'
        have := HRW.out.2.2.2.1.symm.trans hgb
        cases this
    have hD4 : w4.heap[D]? = some (.deferred (some [])) := (H4.out.2.block D (by have := lt_of_heap HRW.out.2.2.2.1; simp; omega) (fun e => hDn e.symm)).trans ((Below.heap_alloc _ _ _ (lt_of_heap HRW.out.2.2.2.1)).trans HRW.out.2.2.2.1)
    have hb4 : Below w.heap.size w w4 := (HRW.out.2.2.1.alloc HRW.out.2.2.1.size _).grown H4.out.2 (by have := HRW.out.2.2.1.size; simp; omega) (fun k e => by have := own_blockL HRW.out.2.1 _ e; omega)
    refine ⟨by simp, .inl ⟨_, _, rfl, run_takeDeferred hD4, ?_⟩⟩
    refine ⟨.slice (some ⟨g', 0, none⟩) (L.length + 1) cap', by simp [results, Try.results69, go_sem], some ⟨g', 0, none⟩, cap', by rw [HST.out]; simp, ?_, below_putObj hb4 (r := D) (by have := HRW.out.2.2.2.2; omega) (.deferred none)⟩
    have := Vals.own (ownsRow_putObj H4.out.1 (.deferred none) hD4 rfl)
    rw [HST.out]
    simpa [pairs_app, pairs] using this
  case stop =>
    rintro D c' pre W _ _ h _
    exact h.elim

end Go.Proofs.Ytjjipkgconmfcaa

namespace Go.Proofs.Ytjjipkgconmfcaa
open Go.RowKit Go.Shelf

def grN (so : Int → Bool) (lo : Int) : Nat → Option Int
  | 0 => none
  | k + 1 => if so (lo + k) = true then some (lo + k) else grN so lo k
def grF (so : Int → Bool) (lo hi : Int) : Option Int := grN so lo (hi + 1 - lo).toNat
theorem grN_is (so : Int → Bool) (lo x : Int) (hx : lo - 1 ≤ x) : ∀ k : Nat, (∀ m, x < m → m < lo + k → so m = false) → (lo ≤ x → so x = true ∧ x < lo + k) → grN so lo k = if lo ≤ x then some x else none
  | 0, _, h2 => by
    have hn : ¬ lo ≤ x := fun h => by have := (h2 h).2; omega
    rw [if_neg hn]; rfl
  | k + 1, h1, h2 => by
    unfold grN
    by_cases he : x = lo + k
    · have hle : lo ≤ x := by omega
      rw [← he, if_pos (h2 hle).1, if_pos hle]
    · have hlt : x < lo + k := by
        by_cases hle : lo ≤ x
        · have := (h2 hle).2; omega
        · omega
      have hf := h1 (lo + k) hlt (by omega)
      rw [hf, if_neg (by decide)]
      exact grN_is so lo x hx k (fun m h h' => h1 m h (by omega)) (fun h => ⟨(h2 h).1, hlt⟩)
theorem grF_is {so : Int → Bool} {lo hi x : Int} (h : IsGr so lo hi x) : grF so lo hi = if lo ≤ x then some x else none := by
  obtain ⟨h1, h2, h3, h4⟩ := h
  refine grN_is so lo x h1 _ (fun m h h' => h4 m h (by omega)) (fun hle => ⟨h3 hle, ?_⟩)
  rcases h2 with h | h <;> omega

def soB (b : Bk) (first : Bool) (o : Int × Int) (m : Int) : Bool := decide (o.1 ≤ (tonB b first m).1)
def tryS (b : Bk) (first : Bool) (o : Int × Int) : List (Int × Int) → Option Int
  | [] => none
  | s :: l => match grF (soB b first o) s.1 s.2 with
    | some x => if insB o (tonB b first x) = true then some x else tryS b first o l
    | none => tryS b first o l
def drF (b : Bk) : List (Int × Int) → List Int → Option (List Int)
  | [], ps => some ps
  | o :: l, ps => match tryS b (ps.length == 0) o (roomL b ps.getLast?) with
    | some x => drF b l (ps ++ [x])
    | none => none

theorem ediv_anti {N x y : Int} (hN : 0 ≤ N) (hx : 0 < x) (hxy : x ≤ y) : N / y ≤ N / x := by
  have hy : 0 < y := by omega
  have h0 : 0 ≤ N / y := Int.ediv_nonneg hN (by omega)
  refine (Int.le_ediv_iff_mul_le hx).2 ?_
  exact Int.le_trans (Int.mul_le_mul_of_nonneg_left hxy h0) (Int.ediv_mul_le N (by omega))
theorem soB_mono (b : Bk) (hb : bndB b) (first : Bool) (o : Int × Int) (p q : Int) (hp : 50 ≤ p) (hpq : p ≤ q) (h : soB b first o q = true) : soB b first o p = true := by
  obtain ⟨h1, h2, h3⟩ := hb
  unfold soB tonB tonA airB at h ⊢
  simp only [decide_eq_true_eq] at h ⊢
  refine Int.le_trans h ?_
  cases first
  · exact ediv_anti (by omega) (show 0 < p + b.f1 by omega) (show p + b.f1 ≤ q + b.f1 by omega)
  · exact ediv_anti (by omega) (show 0 < p + b.e1 by omega) (show p + b.e1 ≤ q + b.e1 by omega)

/-- What of a blank the search needs. -/
def bndR (b : Bk) : Prop := (1 ≤ b.gap ∧ b.gap ≤ 20000) ∧ (0 ≤ b.near ∧ b.near ≤ 20000) ∧ b.zs.length ≤ 10 ∧ ∀ k : Nat, 0 ≤ b.zs[k]?.getD 0 ∧ b.zs[k]?.getD 0 ≤ 20000
def smRm (l : List (Int × Int)) : Prop := ∀ s ∈ l, 50 ≤ s.1 ∧ s.1 ≤ 40050 ∧ -40000 ≤ s.2 ∧ s.2 ≤ 20000
theorem stR_bnd (b : Bk) (hb : bndR b) (m : Int) (hm : -20000 ≤ m ∧ m ≤ 20000) (ks : List Nat) : smRm (stR b.near b.zs ks m).1 ∧ -20000 ≤ (stR b.near b.zs ks m).2 ∧ (stR b.near b.zs ks m).2 ≤ 20000 := by
  obtain ⟨_, hn, _, hz⟩ := hb
  have h : ∀ (l : List Nat) (st : List (Int × Int) × Int), smRm st.1 → (-20000 ≤ st.2 ∧ st.2 ≤ 20000) → smRm (l.foldl (fun st k => stepR b.near st (b.zs[k]?.getD 0)) st).1 ∧ -20000 ≤ (l.foldl (fun st k => stepR b.near st (b.zs[k]?.getD 0)) st).2 ∧ (l.foldl (fun st k => stepR b.near st (b.zs[k]?.getD 0)) st).2 ≤ 20000 := by
    intro l
    induction l with
    | nil => intro st h1 h2; exact ⟨h1, h2⟩
    | cons a l ih =>
      intro st h1 h2
      rw [List.foldl_cons]
      have hza := hz a
      refine ih _ ?_ ?_
      · intro s hs
        simp only [stepR, List.mem_append, List.mem_singleton] at hs
        rcases hs with hs | rfl
        · exact h1 s hs
        · dsimp only; omega
      · simp only [stepR]; omega
  exact h ks ([], m) (fun s hs => by simp at hs) hm
theorem roomL_bnd (b : Bk) (hb : bndR b) (hl : 50 ≤ b.len ∧ b.len ≤ 20000) (last : Option Int) (h : ∀ p, last = some p → 50 ≤ p ∧ p ≤ 20000) : smRm (roomL b last) ∧ (roomL b last).length ≤ 11 := by
  cases last with
  | none => exact ⟨fun s hs => by simp only [roomL, List.mem_singleton] at hs; subst hs; dsimp only; omega, by simp [roomL]⟩
  | some p =>
    have hp := h p rfl
    have hg := hb.1
    have h1 := stR_bnd b hb (p - b.gap) (by omega) (List.range b.zs.length).reverse
    refine ⟨fun s hs => ?_, ?_⟩
    · simp only [roomL, List.mem_append, List.mem_singleton] at hs
      rcases hs with hs | rfl
      · exact h1.1 s hs
      · dsimp only; omega
    · have := stR_len b.near b.zs (p - b.gap) (List.range b.zs.length).reverse
      have hzl := hb.2.2.1
      simp only [roomL, List.length_append, this]
      simp; omega
theorem grF_some {so : Int → Bool} {lo hi x : Int} (h : grF so lo hi = some x) : lo ≤ x ∧ x ≤ hi := by
  have : ∀ k : Nat, grN so lo k = some x → lo ≤ x ∧ x < lo + k := by
    intro k
    induction k with
    | zero => intro h; cases h
    | succ k ih =>
      intro h
      unfold grN at h
      split at h
      · have := Option.some.inj h; omega
      · have := ih h; omega
  have := this _ h
  omega

theorem noL_bnd (len : Int) : ∀ (l : List Int) (least : Int), 0 ≤ least → noL len l least = true → ∀ z ∈ l, 0 ≤ z ∧ z ≤ len
  | [], _, _, _ => fun z hz => by simp at hz
  | y :: l, least, h0, h => fun z hz => by
    simp only [noL, Bool.and_eq_true, allB_one, inR_iff] at h
    rcases List.mem_cons.1 hz with rfl | hz
    · omega
    · exact noL_bnd len l (y + 1) (by omega) h.2 z hz
theorem okBk_bnd {b : Bk} (h : okBk b = true) : (50 ≤ b.len ∧ b.len ≤ 20000) ∧ bndB b ∧ bndR b := by
  simp only [okBk, Bool.and_eq_true, allB_one, inR_iff, okS_iff, decide_eq_true_eq] at h
  obtain ⟨⟨⟨⟨⟨⟨⟨h1, h2⟩, h3⟩, h4⟩, h5⟩, h6⟩, h7⟩, h8⟩ := h
  refine ⟨h1, ⟨by omega, by omega, by omega⟩, by omega, by omega, h7, fun k => ?_⟩
  have hz := noL_bnd b.len b.zs 0 (by omega) h8
  rcases Nat.lt_or_ge k b.zs.length with hk | hk
  · have := hz _ (List.getElem_mem hk)
    simp only [List.getElem?_eq_getElem hk, Option.getD_some]
    omega
  · simp [hk]

end Go.Proofs.Ytjjipkgconmfcaa
