/-
  Texts laid together: FwD, FvG.
-/
import Derived.RangeFuncFrom
import Derived.RangeFuncBox
import Derived.Test.YtjjipkgconmfcaaB915
import Derived.Test.YtjjipkgconmfcaaQN91
import Derived.Test.YtjjipkgconmfcaaB918
set_option linter.all false
namespace Go.Proofs.Ytjjipkgconmfcaa
open Go.RowKit Go.Shelf
open R6 (done done_ne done_me upd_ne upd_me)

attribute [local go_sem] gives
attribute [local go_sem] Oper.semAt_some

def hoR (b : Bk) (zs : List Int) (ks : List Nat) : List Ho := ks.map fun k => ⟨zs[k]?.getD 0, b.f0, b.f1⟩
def holL (b : Bk) (ps : List Int) : List Ho := (ps.drop 1).reverse.map fun p => ⟨p, b.f0, b.f1⟩
def mkF (b : Bk) (ps : List Int) (A : Option Addr) (c : Nat) : Fu := ⟨ps[0]?.getD 0, b.e0, b.e1, 0, 0, b.s0, b.s1, A, c, holL b ps⟩
theorem hoR_all (b : Bk) (p0 : Int) (zs : List Int) : hoR b zs (List.range zs.length).reverse = holL b (p0 :: zs) := by
  unfold hoR holL
  have e : zs.reverse = (List.range zs.length).reverse.map (fun k => zs[k]?.getD 0) := by
    rw [List.map_reverse]
    congr 1
    refine List.ext_getElem (by simp) fun i h1 h2 => ?_
    simp [h1]
  show _ = zs.reverse.map _
  rw [e, List.map_map]
  rfl
theorem hoR_app (b : Bk) (zs : List Int) (ks : List Nat) (k : Nat) : hoR b zs (ks ++ [k]) = hoR b zs ks ++ [⟨zs[k]?.getD 0, b.f0, b.f1⟩] := by simp [hoR]
def MadePost (w : World) (b : Bk) (ps : List Int) (e : Ending) (w' : World) : Prop := ∃ A c, e = .returned (.agg (fuc (mkF b ps A c)).toArray) ∧ w'.ownsRow w.heap.size 38 3 (.slice A (holL b ps).length c) (holL b ps).length ((holL b ps).flatMap hoc) ∧ Below w.heap.size w w'
/-- What lies while holes are written down. -/
structure MadI (b : Bk) (p0 : Int) (zs : List Int) (w w7 : World) (t5 : Nat) (pre : List (Idx zs)) (A : World) : Prop where
  b0 : A.heap[w.heap.size]? = some (.cells (bkc b).toArray 34 (0, 0))
  b4 : A.heap[w.heap.size + 1]? = some (.cells zeF.toArray 28 (0, 0))
  b5 : ∃ v, A.heap[t5]? = some (.cells #[.int .i64 p0, .int .i64 b.e0, .int .i64 b.e1, .int .i64 0, .int .i64 0, .int .i64 b.s0, .int .i64 b.s1, v] 28 (0, 0)) ∧ A.ownsRow w7.heap.size 38 3 v pre.length ((hoR b zs (ixR pre)).flatMap hoc)
  bel : Below w.heap.size w A
  sz : w7.heap.size ≤ A.heap.size
theorem MadI.from {b : Bk} {p0 : Int} {zs : List Int} {w w7 : World} {t5 : Nat} (h2 : w.heap.size + 1 < w7.heap.size) (h5 : t5 < w7.heap.size) : OwnFrom w7.heap.size (MadI b p0 zs w w7 t5) := by
  intro pre W W' row h hg hr
  have hk : ∀ k, k < w7.heap.size → W'.heap[k]? = W.heap[k]? := fun k hk => hg.block k (Nat.lt_of_lt_of_le hk h.sz) (fun e => by have := (hr k e.symm).1; omega)
  obtain ⟨v, hm, ho⟩ := h.b5
  refine ⟨(hk _ (by omega)).trans h.b0, (hk _ h2).trans h.b4, ⟨v, (hk _ h5).trans hm, ho.kept hg ?_⟩, h.bel.grown hg h.bel.size (fun k e => by have := (hr k e).1; omega), Nat.le_trans h.sz hg.size⟩
  rcases ho.2 with ⟨rfl, _⟩ | ⟨g, cap, cur, rfl, _, hgb, _⟩
  · exact .inl rfl
  · refine .inr fun e' => ?_
    obtain ⟨-, o, ho', hc⟩ := hr g (by simpa [Value.ownBlock] using e'.symm)
    rw [hgb] at ho'; cases ho'; cases hc

theorem cell_three_new (w : World) (x y z : Value) (t : TypeId) : ∀ j u, [x, y, z][j]? = some u → (w.alloc (.cells #[x, y, z] t)).cell? ((⟨w.heap.size, 0, none⟩ : Addr).add j) = some u := fun j u hj => by
  rw [Addr.add_mid, Nat.zero_add, cell_of_row _ w.heap.size j _ _ _ (alloc_at0 w _)]
  simpa using hj
theorem grownBy_setCell7 (w : World) (b o : Nat) (v : Value) : w.grownBy (w.setCell ⟨b, o, none⟩ v) (some b) :=
  ⟨rfl, rfl, rfl, by simp, fun k _ hk => Below.heap_setCell _ _ _ _ (fun e => hk (by rw [e]))⟩

set_option maxRecDepth 100000 in
set_option maxHeartbeats 8000000 in
theorem made_some (b : Bk) (A : Option Addr) (cap : Nat) (p0 : Int) (zs : List Int) (hl : zs.length ≤ 8) (hne : ¬ cap = 1) (hcp : zs.length + 1 ≤ cap) (hcap : cap ≤ 9223372036854775807) (B : Nat) (w : World) (hB : B ≤ w.heap.size) (hI : Ints w B A (p0 :: zs)) :
    Calls Try.prog 44 #[.agg (bkc b).toArray, .slice A (zs.length + 1) cap] w (MadePost w b (p0 :: zs)) := by
  obtain ⟨S, off, rfl, hS, hc⟩ := hI (by simp)
  unfold MadePost
  obtain ⟨w2, hw2⟩ : ∃ w2, (w.alloc (.cells (bkc b).toArray 34)).alloc (.cells zeF.toArray 28) = w2 := ⟨_, rfl⟩
  have hs2 : w2.heap.size = w.heap.size + 2 := by rw [← hw2]; simp
  have hb2 : Below w.heap.size w w2 := by rw [← hw2]; exact ((Below.refl _ _).alloc (Nat.le_refl _) _).alloc (by simp) _
  have m0b : w2.heap[w.heap.size]? = some (.cells (bkc b).toArray 34 (0, 0)) := by rw [← hw2]; exact alloc2_at0 _ _ _
  have m1b : w2.heap[w.heap.size + 1]? = some (.cells zeF.toArray 28 (0, 0)) := by rw [← hw2]; exact alloc2_at1 _ _ _
  have hcS := hc 0 (by simp)
  rw [Nat.add_zero] at hcS
  have hcS2 : w2.cell? ⟨S, off, none⟩ = some (.int .i64 p0) := (hb2.cell (p := ⟨S, off, none⟩) (Nat.lt_of_lt_of_le hS hB)).trans hcS
  have hzI : Ints w B (some ⟨S, off + 1, none⟩) zs := fun _ => ⟨S, off + 1, rfl, hS, fun j hj => by
    have := hc (j + 1) (by simp; omega)
    rw [show off + (j + 1) = off + 1 + j by omega] at this
    simpa using this⟩
  have H2 := Lib.hid (And.intro hs2 (And.intro hb2 (And.intro m0b (And.intro m1b (And.intro hcS2 (show S < w2.heap.size by omega))))))
  have HZ := Lib.hid hzI
  have hlz : (zs.length : Int) ≤ 8 := by omega
  have hcz : (cap : Int) ≤ 9223372036854775807 := by omega
  have hc1 : (zs.length : Int) + 1 ≤ cap := by omega
  have HCP := Lib.hid (And.intro hcp hcap)
  have HB := Lib.hid (And.intro hB hl)
  clear hI hc hcS hcS2 hzI hs2 hb2 m0b m1b hB hcp hcap hS
  unfold bkc zeF at hw2 H2
  unfold bkc
  refine (callsIn_wide (n := 4)).1 ?_
  refine callsIn_of_wp_marks Try.func44 rfl trivial ?_ rfl
  simp only [Try.ntmps44, List.size_toArray, List.length_cons, List.length_nil, Nat.reduceAdd, Nat.reduceSub, Array.replicate_succ, Array.replicate_zero, List.push_toArray, List.append_toArray, List.nil_append, List.cons_append]
  gi_wp2_with fail
  refine wpIn_wide.2 ?_
  refine R6.wp_walk (C := NwC w2 (.cells #[.int .i64 0, .int .i64 0, .int .i64 0, .int .i64 0, .int .i64 0, .int .i64 0, .int .i64 0, .slice none 0 0] 28 (0, 0)) (.cells #[.int .i64 p0, .int .i64 b.e0, .int .i64 b.e1, .int .i64 0, .int .i64 0, .int .i64 b.s0, .int .i64 b.s1, .slice none 0 0] 28 (0, 0)) 8 9) 31 (by kernel_rfl) (by kernel_rfl) rfl (NwC.start (fun _ => rfl)) ?_
  simp only []
  iterate 8
    (refine' R6.WalkR.det (fun _ => rfl) (fun D ρ W hK hC => ?_) ?_
     rotate_left
     · have f0 := fun i => cell_of_row W w.heap.size i _ _ _ ((hC.bel.block _ (lt_of_heap H2.out.2.2.1)).trans H2.out.2.2.1)
       have f1 : W.cell? ⟨S, off, none⟩ = some (.int .i64 p0) := (hC.bel.cell (p := ⟨S, off, none⟩) H2.out.2.2.2.2.2).trans H2.out.2.2.2.2.1
       have HC := Lib.hid hC
       clear hC hK
       go_simp
       with_reducible exact ⟨rfl, HC.out.move rfl⟩
     simp only [Act.put, List.setIfInBounds_toArray, List.set_cons_succ, List.set_cons_zero])
  refine' R6.WalkR.det (c := .pointer (some ⟨w2.heap.size, 0, none⟩)) (fun _ => rfl) (fun D ρ W hK hC => ?_) ?_
  · have HS := Lib.hid (And.intro (hC.sz hK.me) (And.intro hK.me (hK.post 9 (by first | decide +kernel | (dsimp only; decide +kernel)))))
    have HC := Lib.hid hC
    clear hC hK
    go_simp
    exact ⟨by rw [HS.out.1], HC.out.alloc (by decide) HS.out.2.1 HS.out.2.2 rfl (alloc_at0 _ _)⟩
  simp only [Act.put, List.setIfInBounds_toArray, List.set_cons_succ, List.set_cons_zero]
  refine' R6.WalkR.det (c := undef) (fun _ => rfl) (fun D ρ W hK hC => ?_) ?_
  · have h8 := hK.pre 8 (by first | decide +kernel | (dsimp only; decide +kernel))
    have hN := hC.new h8 hK.me
    have hme := hK.me
    refine gives_store_blk 28 (.tmp 5) (.tmp 15) rfl rfl (cs := [.int .i64 p0, .int .i64 b.e0, .int .i64 b.e1, .int .i64 0, .int .i64 0, .int .i64 b.s0, .int .i64 b.s1, .slice none 0 0]) rfl hN.1 (Nat.le_refl 8) (by simp [Value.oneCell']) rowFlute ?_
    intro W' hP hM
    exact ⟨rfl, hC.store (by decide) h8 hme (hP.below (Nat.le_refl _)) hP.size hM⟩
  simp only [Act.put]
  refine R6.WalkR.nil (fun D ρ W hD hC => ?_)
  obtain ⟨w3, hw3⟩ : ∃ w3, W = w3 := ⟨_, rfl⟩
  rw [hw3] at hC ⊢
  have hp3 := hC.put (hD 9 (by decide))
  have H3 := Lib.hid (And.intro hC.bel hp3)
  clear hC hD hp3 hw3
  clear D ρ W
  gi_wp2_with (refine ⟨trivial, ?_⟩
               gi_at_call 71
               refine (callsIn_wide.2 (backward_any _ _ _ _)).mono ?_
               rintro e w7 ⟨rfl, hw7⟩
               have H7 := Lib.hid hw7
               clear hw7)
  obtain ⟨i0, hi, he⟩ := Option.map_eq_some_iff.1 infoHole
  simp only [Prod.mk.injEq] at he
  have HI := Lib.hid (And.intro hi he)
  clear hi he
  have hs2 := H2.out.1
  have hs3 := H3.out.2.2
  have h7e := H7.out
  have hs7 : w7.heap.size = w3.heap.size + 1 := by rw [h7e]; simp
  have hb7 : Below w3.heap.size w3 w7 := by rw [h7e]; exact grow1 _ _
  have hbg : w7.heap[w3.heap.size]? = some (.cells #[.slice (some ⟨S, off + 1, none⟩) zs.length (cap - 1)] 32 (0, 0)) := by rw [h7e]; exact alloc_at0 _ _
  have k3 : ∀ j, j < w2.heap.size → w7.heap[j]? = w2.heap[j]? := fun j hj => (hb7.block _ (by omega)).trans (H3.out.1.block _ hj)
  have hI0 : MadI b p0 zs w w7 w2.heap.size [] w7 := ⟨(k3 _ (by omega)).trans H2.out.2.2.1, (k3 _ (by omega)).trans H2.out.2.2.2.1, ⟨.slice none 0 0, (hb7.block _ (by omega)).trans H3.out.2.1, by simpa [hoR, ixR] using World.ownsRow_nil w7 w7.heap.size 38 3⟩, H2.out.2.1.trans ((H3.out.1.mono (by omega)).trans (hb7.mono (by omega))), Nat.le_refl _⟩
  have hzz := Ints.below HZ.out (hI0.bel.mono HB.out.1)
  obtain ⟨Sb, hSb, hseq⟩ := backward_all (4 - 1) w3.heap.size (cap - 1) ((some ⟨S, off + 1, none⟩)) zs (by omega) (by have := HB.out.2; omega) B w7 (by have := HB.out.1; omega) (by omega) hbg hzz
  have hSb2 : Sb < w.heap.size ∨ Sb = w3.heap.size := by rcases hSb with h | h; exact .inl (by have := HB.out.1; omega); exact .inr h
  clear h7e hSb
  refine wpIn_rangeFunc_ownF rfl (by omega) (gf := 89) (lb := #[.pointer (some ⟨w3.heap.size, 0, none⟩)]) rfl trivial (enters_of Try.func89 (by kernel_rfl) rfl) hseq
    (fun h k => ⟨k.1.trans h.1, k.2.trans h.2⟩)
    (fun W l o o' hl _ _ _ => ⟨World.putObj_heap_other (by omega), World.putObj_heap_other (by omega)⟩) (Below.refl _ _) (fun _ => rfl)
    (MadI b p0 zs w w7 w2.heap.size)
    (fun _ _ _ => False)
    (MadI.from (by omega) (by omega))
    (fun _ _ _ _ _ hs _ _ => hs)
    hI0
    (fun x => { tmps := #[.agg #[.int .i64 b.len, .int .i64 b.e0, .int .i64 b.e1, .int .i64 b.f0, .int .i64 b.f1, .int .i64 b.s0, .int .i64 b.s1, .int .i64 b.gap, .int .i64 b.near, .slice b.A b.zs.length b.cap], .slice (some ⟨S, off, none⟩) (zs.length + 1) cap, .pointer (some ⟨w.heap.size, 0, none⟩), undef, .pointer (some ⟨w.heap.size + 1, 0, none⟩), .pointer (some ⟨w2.heap.size, 0, none⟩), undef, .int .i64 (zs[x.1]?.getD 0), .slice (some ⟨S, off, none⟩) (zs.length + 1) cap, .pointer (some ⟨S, off, none⟩), .int .i64 p0, .pointer (some ⟨w.heap.size, 1, none⟩), .agg #[.int .i64 b.e0, .int .i64 b.e1], .pointer (some ⟨w.heap.size, 5, none⟩), .agg #[.int .i64 b.s0, .int .i64 b.s1], .agg #[.int .i64 p0, .int .i64 b.e0, .int .i64 b.e1, .int .i64 0, .int .i64 0, .int .i64 b.s0, .int .i64 b.s1, .slice none 0 0], .slice (some ⟨S, off, none⟩) (zs.length + 1) cap, .slice (some ⟨S, off + 1, none⟩) zs.length (cap - 1), .func (.func 89) #[] #[.pointer (some ⟨w3.heap.size, 0, none⟩)], .int .i64 (x.1 : Int), .int .i64 (zs[x.1]?.getD 0), undef, undef, undef, undef, undef, undef, undef, undef, undef, undef], defers := [] }) ?assign ?body ?done ?stop
  case assign =>
    intro l x W K hK
    have hKK := Lib.hid hK
    clear hK
    simp only [encI]
    generalize zs[x.1]?.getD 0 = z at hKK ⊢
    clear hseq hI0 hzz hbg hb7 k3 hs2 hs3 hs7 hw2
    gi_wp2_with fail
    exact hKK.out
  case body =>
    rintro l pre x W hI hlt
    have hsn := hoR_app b zs (ixR pre) x.1
    have hb0 := hI.b0
    have hb4 := hI.b4
    obtain ⟨v, hb5, hrow⟩ := hI.b5
    have hsz := hI.sz
    have hbl := hI.bel
    have hmp := ixR_app pre x
    rw [← hmp] at hsn
    generalize zs[x.1]?.getD 0 = z at hsn ⊢
    generalize hoR b zs (ixR pre) = L at hrow hsn
    have HST := Lib.hid hsn
    have hrow1 := hrow.1
    have HRW := Lib.hid (And.intro hrow (And.intro hb5 (And.intro hbl hI)))
    have HLN := Lib.hid hlt
    have hc0 := fun i => cell_of_row W w.heap.size i _ _ _ hb0
    unfold bkc at hc0
    have hc5 := fun i => cell_of_row W w2.heap.size i _ _ _ hb5
    have HB0 := Lib.hid (And.intro hb0 (And.intro hb4 hb5))
    have HSZ := Lib.hid (And.intro hs2 (And.intro hs3 (And.intro hs7 hsz)))
    have hwl2 : w2.heap.size < W.heap.size := by omega
    clear hseq hI0 hzz hbg hb7 k3 hs2 hs3 hs7 hw2 hrow hI hsn hb0 hb4 hb5 hsz hmp hlt hbl hrow1
    gi_wp2_with
      (gi_at_builtin
       refine wpListIn_append_own _ rfl (.tmp 22) (.tmp 27) 26 rfl w7.heap.size 38 i0 _ 3 24 Try.underlying26 HI.out.1 HI.out.2.1 HI.out.2.2.1 HI.out.2.2.2 rfl (by decide) v pre.length (L.flatMap hoc) rfl (HRW.out.1.alloc _)
         ⟨W.heap.size, 0, none⟩ 1 1 [.int .i64 z, .int .i64 b.f0, .int .i64 b.f1] rfl rfl (cell_three_new _ _ _ _ _) (by simp [Value.oneCell']) (by have := HLN.out; have := HB.out.2; simp only [maxLen]; omega) (by have := HLN.out; have := HB.out.2; omega) (by have := HSZ.out; simp; omega) ?_
       intro v' w4 hown' hgrow _
       obtain ⟨g', cap', rfl⟩ := ownsRow_succ hown'
       have hk4 : ∀ j, j < w7.heap.size → w4.heap[j]? = W.heap[j]? := fun j hj => (hgrow.block j (by simp; have := HSZ.out; omega) (fun e => by have := own_blockL HRW.out.1 _ e.symm; omega)).trans (Below.heap_alloc _ _ _ (by have := HSZ.out; omega))
       have hd5 := fun i => cell_of_row w4 w2.heap.size i _ _ _ ((hk4 _ (by have := HSZ.out; omega)).trans HB0.out.2.2)
       have he5 := fun i => frozen_of_row w4 w2.heap.size i _ _ ((hk4 _ (by have := HSZ.out; omega)).trans HB0.out.2.2)
       have H4 := Lib.hid (And.intro hown' (And.intro hgrow hk4))
       clear hown' hgrow hk4 hc0 hc5)
    have hs := HSZ.out
    have h6 : ∀ j, j < w7.heap.size → j ≠ w2.heap.size → (w4.setCell ⟨w2.heap.size, 7, none⟩ (.slice (some ⟨g', 0, none⟩) (pre.length + 1) cap')).heap[j]? = W.heap[j]? :=
      fun j hj h1 => (Below.heap_setCell _ _ _ _ (by simpa using h1)).trans (H4.out.2.2 j hj)
    have hown5 := H4.out.1.kept (grownBy_setCell7 w4 w2.heap.size 7 (.slice (some ⟨g', 0, none⟩) (pre.length + 1) cap')) (.inr (fun e => by have := own_blockL H4.out.1 _ e; omega))
    have hko : KeepsOthers W w4 := (KeepsOthers.alloc W _).trans (KeepsOthers.of_grownBy H4.out.2.1 fun j o ej hj => by
      rcases (HRW.out.1.alloc (.cells #[.int .i64 z, .int .i64 b.f0, .int .i64 b.f1] 38)).2 with ⟨rfl, _⟩ | ⟨g, cap, cur, rfl, _, hgb, _⟩
      · simp [Value.ownBlock] at ej
      · obtain rfl : g = j := by simpa [Value.ownBlock] using ej
        rw [hgb] at hj; cases hj; rfl)
    have hb4 : Below w.heap.size w w4 := (HRW.out.2.2.1.alloc HRW.out.2.2.1.size _).grown H4.out.2.1 (by have := HRW.out.2.2.1.size; simp; omega) (fun k e => by have := own_blockL HRW.out.1 _ e; omega)
    refine ⟨hko.trans (KeepsOthers.setCell _ _ _), ⟨h6 _ (by omega) (by omega), h6 _ (by omega) (by omega)⟩, ⟨(h6 _ (by omega) (by omega)).trans HB0.out.1, (h6 _ (by omega) (by omega)).trans HB0.out.2.1, ⟨_, heap_setCell_same _ _ _ _ _ _ ((H4.out.2.2 _ (by omega)).trans HB0.out.2.2), ?_⟩, hb4.setCell (by simp; omega) _, ?_⟩⟩
    · rw [HST.out, List.length_append]
      simpa [hoc] using hown5
    · have := H4.out.2.1.size; simp at this ⊢; omega
  case done =>
    rintro D xs W hD hxs hI hDd
    have hix : ixR xs = (List.range zs.length).reverse := hxs
    obtain ⟨v, hb5, hrow⟩ := hI.b5
    have hxl : xs.length = (holL b (p0 :: zs)).length := by
      have h := congrArg List.length hix
      rw [ixR_len] at h
      simp at h
      simp [holL, h]
    rw [hix, hoR_all b p0 zs, hxl] at hrow
    obtain ⟨Av, cv, rfl⟩ := own_shape hrow
    have hb4 := hI.b4
    have hbel := hI.bel
    have hsz := hI.sz
    unfold zeF at hb4
    have hc5 := fun i => cell_of_row W w2.heap.size i _ _ _ hb5
    have hc4 := fun i => cell_of_row W (w.heap.size + 1) i _ _ _ hb4
    have hf4 := fun i => frozen_of_row W (w.heap.size + 1) i _ _ hb4
    have HRW := Lib.hid (And.intro hrow (And.intro hbel (And.intro hDd (And.intro hD hb4))))
    have HSZ := Lib.hid (And.intro hs2 (And.intro hs3 (And.intro hs7 hsz)))
    clear hseq hI0 hzz hbg hb7 k3 hs2 hs3 hs7 hw2 hrow hI hb4 hb5 hsz hbel hDd hix hxs hD hxl
    gi_wp2_with fail
    obtain ⟨W8, hW8⟩ : ∃ W8, ((((((((W.setCell ⟨w.heap.size + 1, 0, none⟩ (.int .i64 p0)).setCell ⟨w.heap.size + 1, 1, none⟩ (.int .i64 b.e0)).setCell ⟨w.heap.size + 1, 2, none⟩ (.int .i64 b.e1)).setCell ⟨w.heap.size + 1, 3, none⟩ (.int .i64 0)).setCell ⟨w.heap.size + 1, 4, none⟩ (.int .i64 0)).setCell ⟨w.heap.size + 1, 5, none⟩ (.int .i64 b.s0)).setCell ⟨w.heap.size + 1, 6, none⟩ (.int .i64 b.s1)).setCell ⟨w.heap.size + 1, 7, none⟩ (.slice Av (holL b (p0 :: zs)).length cv)) = W8 := ⟨_, rfl⟩
    have ho8 : ∀ k, k ≠ w.heap.size + 1 → W8.heap[k]? = W.heap[k]? := fun k hk => by
      rw [← hW8]
      iterate 8 (refine (Below.heap_setCell _ _ _ _ (by simpa using hk)).trans ?_)
      rfl
    have hm8 : W8.heap[w.heap.size + 1]? = some (.cells #[.int .i64 p0, .int .i64 b.e0, .int .i64 b.e1, .int .i64 0, .int .i64 0, .int .i64 b.s0, .int .i64 b.s1, .slice Av (holL b (p0 :: zs)).length cv] 28 (0, 0)) := by
      rw [← hW8]
      exact (heap_setCell_same _ _ _ _ _ _ (heap_setCell_same _ _ _ _ _ _ (heap_setCell_same _ _ _ _ _ _ (heap_setCell_same _ _ _ _ _ _ (heap_setCell_same _ _ _ _ _ _ (heap_setCell_same _ _ _ _ _ _ (heap_setCell_same _ _ _ _ _ _ (heap_setCell_same _ _ _ _ _ _ HRW.out.2.2.2.2))))))))
    have hs := HSZ.out
    have hown8 : W8.ownsRow w7.heap.size 38 3 (.slice Av (holL b (p0 :: zs)).length cv) (holL b (p0 :: zs)).length ((holL b (p0 :: zs)).flatMap hoc) := by
      rw [← hW8]
      iterate 8 (refine ownsRow_setCell_other ?_ (fun e => by have := own_blockL HRW.out.1 _ e; simp at this; omega) _)
      exact HRW.out.1
    have hb8 : Below w.heap.size w W8 := by
      rw [← hW8]
      iterate 8 (refine Below.setCell ?_ (by simp) _)
      exact HRW.out.2.1
    rw [hW8]
    have hDne : D ≠ w.heap.size + 1 := by have := HRW.out.2.2.2.1; omega
    have hD4 : W8.heap[D]? = some (.deferred (some [])) := (ho8 D hDne).trans HRW.out.2.2.1
    have hcE := fun i => cell_of_row (W8.putObj D (.deferred none)) (w.heap.size + 1) i _ _ _ ((World.putObj_heap_other (fun e => hDne e.symm)).trans hm8)
    refine ⟨by simp, .inl ⟨_, _, rfl, run_takeDeferred hD4, ?_⟩⟩
    refine ⟨.agg #[.int .i64 p0, .int .i64 b.e0, .int .i64 b.e1, .int .i64 0, .int .i64 0, .int .i64 b.s0, .int .i64 b.s1, .slice Av (holL b (p0 :: zs)).length cv], by simp [results, Try.results44, go_sem, hcE], Av, cv, rfl, ?_, below_putObj hb8 (r := D) (by have := HRW.out.2.2.2.1; omega) (.deferred none)⟩
    exact own_mono (ownsRow_putObj hown8 (.deferred none) hD4 rfl) (by omega)
  case stop =>
    rintro D c' pre W _ _ h _
    exact h.elim

set_option maxRecDepth 100000 in
set_option maxHeartbeats 8000000 in
theorem made_one (b : Bk) (A : Option Addr) (cap : Nat) (p0 : Int) (zs : List Int) (hl : zs.length ≤ 8) (hce : cap = 1) (hcp : zs.length + 1 ≤ cap) (hcap : cap ≤ 9223372036854775807) (B : Nat) (w : World) (hB : B ≤ w.heap.size) (hI : Ints w B A (p0 :: zs)) :
    Calls Try.prog 44 #[.agg (bkc b).toArray, .slice A (zs.length + 1) cap] w (MadePost w b (p0 :: zs)) := by
  obtain ⟨S, off, rfl, hS, hc⟩ := hI (by simp)
  subst hce
  unfold MadePost
  obtain ⟨w2, hw2⟩ : ∃ w2, (w.alloc (.cells (bkc b).toArray 34)).alloc (.cells zeF.toArray 28) = w2 := ⟨_, rfl⟩
  have hs2 : w2.heap.size = w.heap.size + 2 := by rw [← hw2]; simp
  have hb2 : Below w.heap.size w w2 := by rw [← hw2]; exact ((Below.refl _ _).alloc (Nat.le_refl _) _).alloc (by simp) _
  have m0b : w2.heap[w.heap.size]? = some (.cells (bkc b).toArray 34 (0, 0)) := by rw [← hw2]; exact alloc2_at0 _ _ _
  have m1b : w2.heap[w.heap.size + 1]? = some (.cells zeF.toArray 28 (0, 0)) := by rw [← hw2]; exact alloc2_at1 _ _ _
  have hcS := hc 0 (by simp)
  rw [Nat.add_zero] at hcS
  have hcS2 : w2.cell? ⟨S, off, none⟩ = some (.int .i64 p0) := (hb2.cell (p := ⟨S, off, none⟩) (Nat.lt_of_lt_of_le hS hB)).trans hcS
  have hzI : Ints w B (some ⟨S, off, none⟩) zs := fun h => absurd h (by omega)
  have H2 := Lib.hid (And.intro hs2 (And.intro hb2 (And.intro m0b (And.intro m1b (And.intro hcS2 (show S < w2.heap.size by omega))))))
  have HZ := Lib.hid hzI
  have hlz : (zs.length : Int) ≤ 8 := by omega
  have hc1 : (zs.length : Int) + 1 ≤ 1 := by omega
  have HCP := Lib.hid (And.intro hcp hcap)
  have HB := Lib.hid (And.intro hB hl)
  clear hI hc hcS hcS2 hzI hs2 hb2 m0b m1b hB hcp hcap hS
  unfold bkc zeF at hw2 H2
  unfold bkc
  refine (callsIn_wide (n := 4)).1 ?_
  refine callsIn_of_wp_marks Try.func44 rfl trivial ?_ rfl
  simp only [Try.ntmps44, List.size_toArray, List.length_cons, List.length_nil, Nat.reduceAdd, Nat.reduceSub, Array.replicate_succ, Array.replicate_zero, List.push_toArray, List.append_toArray, List.nil_append, List.cons_append]
  gi_wp2_with fail
  refine wpIn_wide.2 ?_
  refine R6.wp_walk (C := NwC w2 (.cells #[.int .i64 0, .int .i64 0, .int .i64 0, .int .i64 0, .int .i64 0, .int .i64 0, .int .i64 0, .slice none 0 0] 28 (0, 0)) (.cells #[.int .i64 p0, .int .i64 b.e0, .int .i64 b.e1, .int .i64 0, .int .i64 0, .int .i64 b.s0, .int .i64 b.s1, .slice none 0 0] 28 (0, 0)) 8 9) 31 (by kernel_rfl) (by kernel_rfl) rfl (NwC.start (fun _ => rfl)) ?_
  simp only []
  iterate 8
    (refine' R6.WalkR.det (fun _ => rfl) (fun D ρ W hK hC => ?_) ?_
     rotate_left
     · have f0 := fun i => cell_of_row W w.heap.size i _ _ _ ((hC.bel.block _ (lt_of_heap H2.out.2.2.1)).trans H2.out.2.2.1)
       have f1 : W.cell? ⟨S, off, none⟩ = some (.int .i64 p0) := (hC.bel.cell (p := ⟨S, off, none⟩) H2.out.2.2.2.2.2).trans H2.out.2.2.2.2.1
       have HC := Lib.hid hC
       clear hC hK
       go_simp
       with_reducible exact ⟨rfl, HC.out.move rfl⟩
     simp only [Act.put, List.setIfInBounds_toArray, List.set_cons_succ, List.set_cons_zero])
  refine' R6.WalkR.det (c := .pointer (some ⟨w2.heap.size, 0, none⟩)) (fun _ => rfl) (fun D ρ W hK hC => ?_) ?_
  · have HS := Lib.hid (And.intro (hC.sz hK.me) (And.intro hK.me (hK.post 9 (by first | decide +kernel | (dsimp only; decide +kernel)))))
    have HC := Lib.hid hC
    clear hC hK
    go_simp
    exact ⟨by rw [HS.out.1], HC.out.alloc (by decide) HS.out.2.1 HS.out.2.2 rfl (alloc_at0 _ _)⟩
  simp only [Act.put, List.setIfInBounds_toArray, List.set_cons_succ, List.set_cons_zero]
  refine' R6.WalkR.det (c := undef) (fun _ => rfl) (fun D ρ W hK hC => ?_) ?_
  · have h8 := hK.pre 8 (by first | decide +kernel | (dsimp only; decide +kernel))
    have hN := hC.new h8 hK.me
    have hme := hK.me
    refine gives_store_blk 28 (.tmp 5) (.tmp 15) rfl rfl (cs := [.int .i64 p0, .int .i64 b.e0, .int .i64 b.e1, .int .i64 0, .int .i64 0, .int .i64 b.s0, .int .i64 b.s1, .slice none 0 0]) rfl hN.1 (Nat.le_refl 8) (by simp [Value.oneCell']) rowFlute ?_
    intro W' hP hM
    exact ⟨rfl, hC.store (by decide) h8 hme (hP.below (Nat.le_refl _)) hP.size hM⟩
  simp only [Act.put]
  refine R6.WalkR.nil (fun D ρ W hD hC => ?_)
  obtain ⟨w3, hw3⟩ : ∃ w3, W = w3 := ⟨_, rfl⟩
  rw [hw3] at hC ⊢
  have hp3 := hC.put (hD 9 (by decide))
  have H3 := Lib.hid (And.intro hC.bel hp3)
  clear hC hD hp3 hw3
  clear D ρ W
  gi_wp2_with (refine ⟨trivial, ?_⟩
               gi_at_call 71
               refine (callsIn_wide.2 (backward_any _ _ _ _)).mono ?_
               rintro e w7 ⟨rfl, hw7⟩
               have H7 := Lib.hid hw7
               clear hw7)
  obtain ⟨i0, hi, he⟩ := Option.map_eq_some_iff.1 infoHole
  simp only [Prod.mk.injEq] at he
  have HI := Lib.hid (And.intro hi he)
  clear hi he
  have hs2 := H2.out.1
  have hs3 := H3.out.2.2
  have h7e := H7.out
  have hs7 : w7.heap.size = w3.heap.size + 1 := by rw [h7e]; simp
  have hb7 : Below w3.heap.size w3 w7 := by rw [h7e]; exact grow1 _ _
  have hbg : w7.heap[w3.heap.size]? = some (.cells #[.slice (some ⟨S, off, none⟩) zs.length 0] 32 (0, 0)) := by rw [h7e]; exact alloc_at0 _ _
  have k3 : ∀ j, j < w2.heap.size → w7.heap[j]? = w2.heap[j]? := fun j hj => (hb7.block _ (by omega)).trans (H3.out.1.block _ hj)
  have hI0 : MadI b p0 zs w w7 w2.heap.size [] w7 := ⟨(k3 _ (by omega)).trans H2.out.2.2.1, (k3 _ (by omega)).trans H2.out.2.2.2.1, ⟨.slice none 0 0, (hb7.block _ (by omega)).trans H3.out.2.1, by simpa [hoR, ixR] using World.ownsRow_nil w7 w7.heap.size 38 3⟩, H2.out.2.1.trans ((H3.out.1.mono (by omega)).trans (hb7.mono (by omega))), Nat.le_refl _⟩
  have hzz := Ints.below HZ.out (hI0.bel.mono HB.out.1)
  obtain ⟨Sb, hSb, hseq⟩ := backward_all (4 - 1) w3.heap.size 0 ((some ⟨S, off, none⟩)) zs (by omega) (by have := HB.out.2; omega) B w7 (by have := HB.out.1; omega) (by omega) hbg hzz
  have hSb2 : Sb < w.heap.size ∨ Sb = w3.heap.size := by rcases hSb with h | h; exact .inl (by have := HB.out.1; omega); exact .inr h
  clear h7e hSb
  refine wpIn_rangeFunc_ownF rfl (by omega) (gf := 89) (lb := #[.pointer (some ⟨w3.heap.size, 0, none⟩)]) rfl trivial (enters_of Try.func89 (by kernel_rfl) rfl) hseq
    (fun h k => ⟨k.1.trans h.1, k.2.trans h.2⟩)
    (fun W l o o' hl _ _ _ => ⟨World.putObj_heap_other (by omega), World.putObj_heap_other (by omega)⟩) (Below.refl _ _) (fun _ => rfl)
    (MadI b p0 zs w w7 w2.heap.size)
    (fun _ _ _ => False)
    (MadI.from (by omega) (by omega))
    (fun _ _ _ _ _ hs _ _ => hs)
    hI0
    (fun x => { tmps := #[.agg #[.int .i64 b.len, .int .i64 b.e0, .int .i64 b.e1, .int .i64 b.f0, .int .i64 b.f1, .int .i64 b.s0, .int .i64 b.s1, .int .i64 b.gap, .int .i64 b.near, .slice b.A b.zs.length b.cap], .slice (some ⟨S, off, none⟩) (zs.length + 1) 1, .pointer (some ⟨w.heap.size, 0, none⟩), undef, .pointer (some ⟨w.heap.size + 1, 0, none⟩), .pointer (some ⟨w2.heap.size, 0, none⟩), undef, .int .i64 (zs[x.1]?.getD 0), .slice (some ⟨S, off, none⟩) (zs.length + 1) 1, .pointer (some ⟨S, off, none⟩), .int .i64 p0, .pointer (some ⟨w.heap.size, 1, none⟩), .agg #[.int .i64 b.e0, .int .i64 b.e1], .pointer (some ⟨w.heap.size, 5, none⟩), .agg #[.int .i64 b.s0, .int .i64 b.s1], .agg #[.int .i64 p0, .int .i64 b.e0, .int .i64 b.e1, .int .i64 0, .int .i64 0, .int .i64 b.s0, .int .i64 b.s1, .slice none 0 0], .slice (some ⟨S, off, none⟩) (zs.length + 1) 1, .slice (some ⟨S, off, none⟩) zs.length 0, .func (.func 89) #[] #[.pointer (some ⟨w3.heap.size, 0, none⟩)], .int .i64 (x.1 : Int), .int .i64 (zs[x.1]?.getD 0), undef, undef, undef, undef, undef, undef, undef, undef, undef, undef], defers := [] }) ?assign ?body ?done ?stop
  case assign =>
    intro l x W K hK
    have hKK := Lib.hid hK
    clear hK
    simp only [encI]
    generalize zs[x.1]?.getD 0 = z at hKK ⊢
    clear hseq hI0 hzz hbg hb7 k3 hs2 hs3 hs7 hw2
    gi_wp2_with fail
    exact hKK.out
  case body =>
    rintro l pre x W hI hlt
    exact absurd x.2 (by have := HCP.out.1; omega)
  case done =>
    rintro D xs W hD hxs hI hDd
    have hix : ixR xs = (List.range zs.length).reverse := hxs
    obtain ⟨v, hb5, hrow⟩ := hI.b5
    have hxl : xs.length = (holL b (p0 :: zs)).length := by
      have h := congrArg List.length hix
      rw [ixR_len] at h
      simp at h
      simp [holL, h]
    rw [hix, hoR_all b p0 zs, hxl] at hrow
    obtain ⟨Av, cv, rfl⟩ := own_shape hrow
    have hb4 := hI.b4
    have hbel := hI.bel
    have hsz := hI.sz
    unfold zeF at hb4
    have hc5 := fun i => cell_of_row W w2.heap.size i _ _ _ hb5
    have hc4 := fun i => cell_of_row W (w.heap.size + 1) i _ _ _ hb4
    have hf4 := fun i => frozen_of_row W (w.heap.size + 1) i _ _ hb4
    have HRW := Lib.hid (And.intro hrow (And.intro hbel (And.intro hDd (And.intro hD hb4))))
    have HSZ := Lib.hid (And.intro hs2 (And.intro hs3 (And.intro hs7 hsz)))
    clear hseq hI0 hzz hbg hb7 k3 hs2 hs3 hs7 hw2 hrow hI hb4 hb5 hsz hbel hDd hix hxs hD hxl
    gi_wp2_with fail
    obtain ⟨W8, hW8⟩ : ∃ W8, ((((((((W.setCell ⟨w.heap.size + 1, 0, none⟩ (.int .i64 p0)).setCell ⟨w.heap.size + 1, 1, none⟩ (.int .i64 b.e0)).setCell ⟨w.heap.size + 1, 2, none⟩ (.int .i64 b.e1)).setCell ⟨w.heap.size + 1, 3, none⟩ (.int .i64 0)).setCell ⟨w.heap.size + 1, 4, none⟩ (.int .i64 0)).setCell ⟨w.heap.size + 1, 5, none⟩ (.int .i64 b.s0)).setCell ⟨w.heap.size + 1, 6, none⟩ (.int .i64 b.s1)).setCell ⟨w.heap.size + 1, 7, none⟩ (.slice Av (holL b (p0 :: zs)).length cv)) = W8 := ⟨_, rfl⟩
    have ho8 : ∀ k, k ≠ w.heap.size + 1 → W8.heap[k]? = W.heap[k]? := fun k hk => by
      rw [← hW8]
      iterate 8 (refine (Below.heap_setCell _ _ _ _ (by simpa using hk)).trans ?_)
      rfl
    have hm8 : W8.heap[w.heap.size + 1]? = some (.cells #[.int .i64 p0, .int .i64 b.e0, .int .i64 b.e1, .int .i64 0, .int .i64 0, .int .i64 b.s0, .int .i64 b.s1, .slice Av (holL b (p0 :: zs)).length cv] 28 (0, 0)) := by
      rw [← hW8]
      exact (heap_setCell_same _ _ _ _ _ _ (heap_setCell_same _ _ _ _ _ _ (heap_setCell_same _ _ _ _ _ _ (heap_setCell_same _ _ _ _ _ _ (heap_setCell_same _ _ _ _ _ _ (heap_setCell_same _ _ _ _ _ _ (heap_setCell_same _ _ _ _ _ _ (heap_setCell_same _ _ _ _ _ _ HRW.out.2.2.2.2))))))))
    have hs := HSZ.out
    have hown8 : W8.ownsRow w7.heap.size 38 3 (.slice Av (holL b (p0 :: zs)).length cv) (holL b (p0 :: zs)).length ((holL b (p0 :: zs)).flatMap hoc) := by
      rw [← hW8]
      iterate 8 (refine ownsRow_setCell_other ?_ (fun e => by have := own_blockL HRW.out.1 _ e; simp at this; omega) _)
      exact HRW.out.1
    have hb8 : Below w.heap.size w W8 := by
      rw [← hW8]
      iterate 8 (refine Below.setCell ?_ (by simp) _)
      exact HRW.out.2.1
    rw [hW8]
    have hDne : D ≠ w.heap.size + 1 := by have := HRW.out.2.2.2.1; omega
    have hD4 : W8.heap[D]? = some (.deferred (some [])) := (ho8 D hDne).trans HRW.out.2.2.1
    have hcE := fun i => cell_of_row (W8.putObj D (.deferred none)) (w.heap.size + 1) i _ _ _ ((World.putObj_heap_other (fun e => hDne e.symm)).trans hm8)
    refine ⟨by simp, .inl ⟨_, _, rfl, run_takeDeferred hD4, ?_⟩⟩
    refine ⟨.agg #[.int .i64 p0, .int .i64 b.e0, .int .i64 b.e1, .int .i64 0, .int .i64 0, .int .i64 b.s0, .int .i64 b.s1, .slice Av (holL b (p0 :: zs)).length cv], by simp [results, Try.results44, go_sem, hcE], Av, cv, rfl, ?_, below_putObj hb8 (r := D) (by have := HRW.out.2.2.2.1; omega) (.deferred none)⟩
    exact own_mono (ownsRow_putObj hown8 (.deferred none) hD4 rfl) (by omega)
  case stop =>
    rintro D c' pre W _ _ h _
    exact h.elim

theorem made_any (b : Bk) (A : Option Addr) (cap : Nat) (p0 : Int) (zs : List Int) (hl : zs.length ≤ 8) (hcp : zs.length + 1 ≤ cap) (hcap : cap ≤ 9223372036854775807) (B : Nat) (w : World) (hB : B ≤ w.heap.size) (hI : Ints w B A (p0 :: zs)) :
    Calls Try.prog 44 #[.agg (bkc b).toArray, .slice A (zs.length + 1) cap] w (MadePost w b (p0 :: zs)) := by
  by_cases h : cap = 1
  · exact made_one b A cap p0 zs hl h hcp hcap B w hB hI
  · exact made_some b A cap p0 zs hl h hcp hcap B w hB hI

end Go.Proofs.Ytjjipkgconmfcaa

namespace Go.Proofs.Ytjjipkgconmfcaa
open Go.RowKit Go.Maps
open R6 (done done_ne done_me upd_ne upd_me)

attribute [local go_sem] gives

/-- Which are the first two open holes. -/
def TwoOpen (n i j : Nat) : Prop := i < j ∧ n.testBit i = true ∧ n.testBit j = true ∧ (∀ k, k < i → n.testBit k = false) ∧ ∀ k, i < k → k < j → n.testBit k = false
theorem airF_two (f : Fu) {n i j : Nat} (hn : n < 256) (hl : f.hs.length ≤ 8) (hj : j < f.hs.length) (h : TwoOpen n i j) : airF f n = ((f.hs[i]?.getD ⟨0, 0, 0⟩).a + (f.hs[i]?.getD ⟨0, 0, 0⟩).lo + ((j - i - 1 : Nat) : Int) * f.c0, (f.hs[i]?.getD ⟨0, 0, 0⟩).a + (f.hs[i]?.getD ⟨0, 0, 0⟩).hi + ((j - i - 1 : Nat) : Int) * f.c1) := by
  obtain ⟨hij, hi, hjb, hb, hm⟩ := h
  have h0 : n ≠ 0 := fun e => by rw [e, Nat.zero_testBit] at hi; cases hi
  have ht := tz8_at hn hi hb
  have hc : cloF n i (f.hs.length - i - 1) = j - i - 1 := cloF_at hn (by omega) (fun k h1 h2 => hm k h1 (by omega)) (.inr (by rw [show i + 1 + (j - i - 1) = j by omega]; exact hjb)) (by omega)
  unfold airF
  rw [if_neg h0]
  dsimp only
  rw [ht, hc]
theorem airF_after (f : Fu) {n m i j : Nat} (hn : n < 256) (hm : m < 256) (hl : f.hs.length ≤ 8) (hj : j < f.hs.length) (h : TwoOpen n i j) (hb : ∀ k, k ≤ j → m.testBit k = n.testBit k) : airF f m = airF f n := by
  have h2 : TwoOpen m i j := by
    obtain ⟨hij, h1, h2, h3, h4⟩ := h
    exact ⟨hij, by rw [hb i (by omega)]; exact h1, by rw [hb j (Nat.le_refl _)]; exact h2, fun k hk => by rw [hb k (by omega)]; exact h3 k hk, fun k hk hk2 => by rw [hb k (by omega)]; exact h4 k hk hk2⟩
  rw [airF_two f hn hl hj h, airF_two f hm hl hj h2]
theorem tonF_after (f : Fu) {n m i j : Nat} (hn : n < 256) (hm : m < 256) (hl : f.hs.length ≤ 8) (hj : j < f.hs.length) (h : TwoOpen n i j) (hb : ∀ k, k ≤ j → m.testBit k = n.testBit k) : tonF f m = tonF f n := by
  unfold tonF; rw [airF_after f hn hm hl hj h hb]

set_option maxRecDepth 100000 in
set_option maxHeartbeats 4000000 in
theorem fingered_any (f : Fu) (hl : f.hs.length ≤ 8) (n : Nat) (hn : n < 256) (w : World) :
    Calls Try.prog 34 #[.agg (fuc f).toArray, .int .u8 (n : Int)] w fun e w' => e = .returned (.int .u8 ((n % 2 ^ f.hs.length : Nat) : Int)) ∧ Below w.heap.size w w' := by
  have hN8 : 2 ^ f.hs.length ≤ 256 := Nat.pow_le_pow_right (n := 2) (by omega) hl
  have hN0 : 0 < 2 ^ f.hs.length := Nat.pow_pos (by omega)
  obtain ⟨N, hN⟩ : ∃ N, N = 2 ^ f.hs.length := ⟨_, rfl⟩
  have hNz : ((2 : Int) ^ f.hs.length) = (N : Int) := by rw [hN]; simp
  have hNw : wrap64 ((2 : Int) ^ f.hs.length) = (N : Int) := by rw [hNz]; unfold wrap64; omega
  rw [← hN] at hN8 hN0 ⊢
  have hlz : (f.hs.length : Int) ≤ 8 := by omega
  have hr : ((n % N : Nat) : Int) = (n : Int).tmod (N : Int) := by rw [Int.tmod_eq_emod_of_nonneg (by omega)]; simp
  have hr2 : n % N < 256 := Nat.lt_of_lt_of_le (Nat.mod_lt _ hN0) hN8
  have HNW := Lib.hid (And.intro hNw (And.intro hr hr2))
  have hnz : (n : Int) ≤ 255 := by omega
  have hN0z : (N : Int) ≠ 0 := by omega
  have hNnz : ((N : Int) == 0) = false := by simpa using (show N ≠ 0 by omega)
  clear hN hNz hr hr2
  unfold fuc
  go_enter Try.func34, Try.ntmps34
  go_wp2
  go_ret
  refine ⟨?_, (Below.refl _ _).alloc (Nat.le_refl _) _⟩
  have h1 := HNW.out.2.2
  have h2 : (n : Int) % (N : Int) % 256 = ((n % N : Nat) : Int) := by rw [← Int.natCast_emod]; omega
  rw [h2]
  rfl

/-- How many holes are open, and which is the second one. -/
def opn (n L : Nat) : Nat → Nat × Nat
  | 0 => (0, L)
  | k + 1 => if n.testBit k = true then ((opn n L k).1 + 1, if (opn n L k).1 + 1 = 2 then k else (opn n L k).2) else opn n L k
theorem opn_le (n L : Nat) : ∀ k, (opn n L k).1 ≤ k
  | 0 => Nat.le_refl 0
  | k + 1 => by
    have := opn_le n L k
    unfold opn
    split
    · dsimp only; omega
    · omega
theorem opn_spec (n L : Nat) : ∀ k, ((opn n L k).1 = 0 → ∀ m, m < k → n.testBit m = false) ∧ ((opn n L k).1 = 1 → ∃ i, i < k ∧ n.testBit i = true ∧ (∀ m, m < i → n.testBit m = false) ∧ ∀ m, i < m → m < k → n.testBit m = false) ∧ (2 ≤ (opn n L k).1 → ∃ i, TwoOpen n i (opn n L k).2 ∧ (opn n L k).2 < k)
  | 0 => ⟨fun _ m hm => absurd hm (Nat.not_lt_zero m), ⟨fun h => absurd h (by simp [opn]), fun h => absurd h (by simp [opn])⟩⟩
  | k + 1 => by
    obtain ⟨h0, h1, h2⟩ := opn_spec n L k
    cases hb : n.testBit k
    · have e : opn n L (k + 1) = opn n L k := by simp [opn, hb]
      rw [e]
      refine ⟨fun h m hm => ?_, fun h => ?_, fun h => ?_⟩
      · rcases Nat.lt_or_ge m k with hk | hk
        · exact h0 h m hk
        · rw [show m = k by omega]; exact hb
      · obtain ⟨i, hi, hbi, hlo, hmid⟩ := h1 h
        refine ⟨i, by omega, hbi, hlo, fun m h3 h4 => ?_⟩
        rcases Nat.lt_or_ge m k with hk | hk
        · exact hmid m h3 hk
        · rw [show m = k by omega]; exact hb
      · obtain ⟨i, ht, hlt⟩ := h2 h
        exact ⟨i, ht, by omega⟩
    · have e : opn n L (k + 1) = ((opn n L k).1 + 1, if (opn n L k).1 + 1 = 2 then k else (opn n L k).2) := by simp [opn, hb]
      rw [e]
      dsimp only
      refine ⟨fun h => by omega, fun h => ?_, fun h => ?_⟩
      · have := h0 (by omega)
        exact ⟨k, by omega, hb, this, fun m h3 h4 => by omega⟩
      · by_cases h3 : (opn n L k).1 + 1 = 2
        · rw [if_pos h3]
          obtain ⟨i, hi, hbi, hlo, hmid⟩ := h1 (by omega)
          exact ⟨i, ⟨hi, hbi, hb, hlo, hmid⟩, by omega⟩
        · rw [if_neg h3]
          obtain ⟨i, ht, hlt⟩ := h2 (by omega)
          exact ⟨i, ht, by omega⟩

end Go.Proofs.Ytjjipkgconmfcaa
