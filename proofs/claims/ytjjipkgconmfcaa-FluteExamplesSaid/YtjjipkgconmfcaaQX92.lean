/-
  Texts laid together: FwD, FwE, FvV0.
-/
import Derived.RangeFuncFrom
import Derived.RangeFuncBox
import Derived.Test.YtjjipkgconmfcaaB915
import Derived.Test.YtjjipkgconmfcaaQX91
import Derived.Test.YtjjipkgconmfcaaB918
set_option linter.all false
namespace Go.Proofs.Ytjjipkgconmfcaa
open Go.RowKit Go.Shelf
open R6 (done done_ne done_me upd_ne upd_me)

attribute [local go_sem] gives
attribute [local go_sem] Oper.semAt_some

def hoR (b : Bk) (zs : List Int) (ks : List Nat) : List Ho := ks.map fun k => ⟨zs[k]?.getD 0, b.f0, b.f1⟩
def holL (b : Bk) (ps : List Int) : List Ho := (ps.drop 1).reverse.map fun p => ⟨p, b.f0, b.f1⟩
def mkF (b : Bk) (ps : List Int) (A : Option Addr) (c : Nat) : Fu := ⟨ps[0]?.getD 0, b.e0, b.e1, 0, 0, b.s0, b.s1, A, c, holL b ps⟩
theorem hoR_all (b : Bk) (p0 : Int) (zs : List Int) : hoR b zs (List.range zs.length).reverse = holL b (p0 :: zs) := by
  unfold hoR holL
  have e : zs.reverse = (List.range zs.length).reverse.map (fun k => zs[k]?.getD 0) := by
    rw [List.map_reverse]
    congr 1
    refine List.ext_getElem (by simp) fun i h1 h2 => ?_
    simp [h1]
  show _ = zs.reverse.map _
  rw [e, List.map_map]
  rfl
theorem hoR_app (b : Bk) (zs : List Int) (ks : List Nat) (k : Nat) : hoR b zs (ks ++ [k]) = hoR b zs ks ++ [⟨zs[k]?.getD 0, b.f0, b.f1⟩] := by simp [hoR]
def MadePost (w : World) (b : Bk) (ps : List Int) (e : Ending) (w' : World) : Prop := ∃ A c, e = .returned (.agg (fuc (mkF b ps A c)).toArray) ∧ w'.ownsRow w.heap.size 38 3 (.slice A (holL b ps).length c) (holL b ps).length ((holL b ps).flatMap hoc) ∧ Below w.heap.size w w'
/-- What lies while holes are written down. -/
structure MadI (b : Bk) (p0 : Int) (zs : List Int) (w w7 : World) (t5 : Nat) (pre : List (Idx zs)) (A : World) : Prop where
  b0 : A.heap[w.heap.size]? = some (.cells (bkc b).toArray 34 (0, 0))
  b4 : A.heap[w.heap.size + 1]? = some (.cells zeF.toArray 28 (0, 0))
  b5 : ∃ v, A.heap[t5]? = some (.cells #[.int .i64 p0, .int .i64 b.e0, .int .i64 b.e1, .int .i64 0, .int .i64 0, .int .i64 b.s0, .int .i64 b.s1, v] 28 (0, 0)) ∧ A.ownsRow w7.heap.size 38 3 v pre.length ((hoR b zs (ixR pre)).flatMap hoc)
  bel : Below w.heap.size w A
  sz : w7.heap.size ≤ A.heap.size
theorem MadI.from {b : Bk} {p0 : Int} {zs : List Int} {w w7 : World} {t5 : Nat} (h2 : w.heap.size + 1 < w7.heap.size) (h5 : t5 < w7.heap.size) : OwnFrom w7.heap.size (MadI b p0 zs w w7 t5) := by
  intro pre W W' row h hg hr
  have hk : ∀ k, k < w7.heap.size → W'.heap[k]? = W.heap[k]? := fun k hk => hg.block k (Nat.lt_of_lt_of_le hk h.sz) (fun e => by have := (hr k e.symm).1; omega)
  obtain ⟨v, hm, ho⟩ := h.b5
  refine ⟨(hk _ (by omega)).trans h.b0, (hk _ h2).trans h.b4, ⟨v, (hk _ h5).trans hm, ho.kept hg ?_⟩, h.bel.grown hg h.bel.size (fun k e => by have := (hr k e).1; omega), Nat.le_trans h.sz hg.size⟩
  rcases ho.2 with ⟨rfl, _⟩ | ⟨g, cap, cur, rfl, _, hgb, _⟩
  · exact .inl rfl
  · refine .inr fun e' => ?_
    obtain ⟨-, o, ho', hc⟩ := hr g (by simpa [Value.ownBlock] using e'.symm)
    rw [hgb] at ho'; cases ho'; cases hc

theorem cell_three_new (w : World) (x y z : Value) (t : TypeId) : ∀ j u, [x, y, z][j]? = some u → (w.alloc (.cells #[x, y, z] t)).cell? ((⟨w.heap.size, 0, none⟩ : Addr).add j) = some u := fun j u hj => by
  rw [Addr.add_mid, Nat.zero_add, cell_of_row _ w.heap.size j _ _ _ (alloc_at0 w _)]
  simpa using hj
theorem grownBy_setCell7 (w : World) (b o : Nat) (v : Value) : w.grownBy (w.setCell ⟨b, o, none⟩ v) (some b) :=
  ⟨rfl, rfl, rfl, by simp, fun k _ hk => Below.heap_setCell _ _ _ _ (fun e => hk (by rw [e]))⟩

set_option maxRecDepth 100000 in
set_option maxHeartbeats 8000000 in
theorem made_some (b : Bk) (A : Option Addr) (cap : Nat) (p0 : Int) (zs : List Int) (hl : zs.length ≤ 8) (hne : ¬ cap = 1) (hcp : zs.length + 1 ≤ cap) (hcap : cap ≤ 1000000000) (B : Nat) (w : World) (hB : B ≤ w.heap.size) (hI : Ints w B A (p0 :: zs)) :
    Calls Try.prog 44 #[.agg (bkc b).toArray, .slice A (zs.length + 1) cap] w (MadePost w b (p0 :: zs)) := by
  obtain ⟨S, off, rfl, hS, hc⟩ := hI (by simp)
  unfold MadePost
  obtain ⟨w2, hw2⟩ : ∃ w2, (w.alloc (.cells (bkc b).toArray 34)).alloc (.cells zeF.toArray 28) = w2 := ⟨_, rfl⟩
  have hs2 : w2.heap.size = w.heap.size + 2 := by rw [← hw2]; simp
  have hb2 : Below w.heap.size w w2 := by rw [← hw2]; exact ((Below.refl _ _).alloc (Nat.le_refl _) _).alloc (by simp) _
  have m0b : w2.heap[w.heap.size]? = some (.cells (bkc b).toArray 34 (0, 0)) := by rw [← hw2]; exact alloc2_at0 _ _ _
  have m1b : w2.heap[w.heap.size + 1]? = some (.cells zeF.toArray 28 (0, 0)) := by rw [← hw2]; exact alloc2_at1 _ _ _
  have hcS := hc 0 (by simp)
  rw [Nat.add_zero] at hcS
  have hcS2 : w2.cell? ⟨S, off, none⟩ = some (.int .i64 p0) := (hb2.cell (p := ⟨S, off, none⟩) (Nat.lt_of_lt_of_le hS hB)).trans hcS
  have hzI : Ints w B (some ⟨S, off + 1, none⟩) zs := fun _ => ⟨S, off + 1, rfl, hS, fun j hj => by
    have := hc (j + 1) (by simp; omega)
    rw [show off + (j + 1) = off + 1 + j by omega] at this
    simpa using this⟩
  have H2 := Lib.hid (And.intro hs2 (And.intro hb2 (And.intro m0b (And.intro m1b (And.intro hcS2 (show S < w2.heap.size by omega))))))
  have HZ := Lib.hid hzI
  have hlz : (zs.length : Int) ≤ 8 := by omega
  have hcz : (cap : Int) ≤ 1000000000 := by omega
  have hc1 : (zs.length : Int) + 1 ≤ cap := by omega
  have HCP := Lib.hid (And.intro hcp hcap)
  have HB := Lib.hid (And.intro hB hl)
  clear hI hc hcS hcS2 hzI hs2 hb2 m0b m1b hB hcp hcap hS
  unfold bkc zeF at hw2 H2
  unfold bkc
  refine (callsIn_wide (n := 4)).1 ?_
  refine callsIn_of_wp_marks Try.func44 rfl trivial ?_ rfl
  simp only [Try.ntmps44, List.size_toArray, List.length_cons, List.length_nil, Nat.reduceAdd, Nat.reduceSub, Array.replicate_succ, Array.replicate_zero, List.push_toArray, List.append_toArray, List.nil_append, List.cons_append]
  gi_wp2_with fail
  refine wpIn_wide.2 ?_
  refine R6.wp_walk (C := NwC w2 (.cells #[.int .i64 0, .int .i64 0, .int .i64 0, .int .i64 0, .int .i64 0, .int .i64 0, .int .i64 0, .slice none 0 0] 28 (0, 0)) (.cells #[.int .i64 p0, .int .i64 b.e0, .int .i64 b.e1, .int .i64 0, .int .i64 0, .int .i64 b.s0, .int .i64 b.s1, .slice none 0 0] 28 (0, 0)) 8 9) 31 (by kernel_rfl) (by kernel_rfl) rfl (NwC.start (fun _ => rfl)) ?_
  simp only []
  iterate 8
    (refine' R6.WalkR.det (fun _ => rfl) (fun D ρ W hK hC => ?_) ?_
     rotate_left
     · have f0 := fun i => cell_of_row W w.heap.size i _ _ _ ((hC.bel.block _ (lt_of_heap H2.out.2.2.1)).trans H2.out.2.2.1)
       have f1 : W.cell? ⟨S, off, none⟩ = some (.int .i64 p0) := (hC.bel.cell (p := ⟨S, off, none⟩) H2.out.2.2.2.2.2).trans H2.out.2.2.2.2.1
       have HC := Lib.hid hC
       clear hC hK
       go_simp
       with_reducible exact ⟨rfl, HC.out.move rfl⟩
     simp only [Act.put, List.setIfInBounds_toArray, List.set_cons_succ, List.set_cons_zero])
  refine' R6.WalkR.det (c := .pointer (some ⟨w2.heap.size, 0, none⟩)) (fun _ => rfl) (fun D ρ W hK hC => ?_) ?_
  · have HS := Lib.hid (And.intro (hC.sz hK.me) (And.intro hK.me (hK.post 9 (by first | decide +kernel | (dsimp only; decide +kernel)))))
    have HC := Lib.hid hC
    clear hC hK
    go_simp
    exact ⟨by rw [HS.out.1], HC.out.alloc (by decide) HS.out.2.1 HS.out.2.2 rfl (alloc_at0 _ _)⟩
  simp only [Act.put, List.setIfInBounds_toArray, List.set_cons_succ, List.set_cons_zero]
  refine' R6.WalkR.det (c := undef) (fun _ => rfl) (fun D ρ W hK hC => ?_) ?_
  · have h8 := hK.pre 8 (by first | decide +kernel | (dsimp only; decide +kernel))
    have hN := hC.new h8 hK.me
    have hme := hK.me
    refine gives_store_blk 28 (.tmp 5) (.tmp 15) rfl rfl (cs := [.int .i64 p0, .int .i64 b.e0, .int .i64 b.e1, .int .i64 0, .int .i64 0, .int .i64 b.s0, .int .i64 b.s1, .slice none 0 0]) rfl hN.1 (Nat.le_refl 8) (by simp [Value.oneCell']) rowFlute ?_
    intro W' hP hM
    exact ⟨rfl, hC.store (by decide) h8 hme (hP.below (Nat.le_refl _)) hP.size hM⟩
  simp only [Act.put]
  refine R6.WalkR.nil (fun D ρ W hD hC => ?_)
  obtain ⟨w3, hw3⟩ : ∃ w3, W = w3 := ⟨_, rfl⟩
  rw [hw3] at hC ⊢
  have hp3 := hC.put (hD 9 (by decide))
  have H3 := Lib.hid (And.intro hC.bel hp3)
  clear hC hD hp3 hw3
  clear D ρ W
  gi_wp2_with (refine ⟨trivial, ?_⟩
               gi_at_call 71
               refine (callsIn_wide.2 (backward_any _ _ _ _)).mono ?_
               rintro e w7 ⟨rfl, hw7⟩
               have H7 := Lib.hid hw7
               clear hw7)
  obtain ⟨i0, hi, he⟩ := Option.map_eq_some_iff.1 infoHole
  simp only [Prod.mk.injEq] at he
  have HI := Lib.hid (And.intro hi he)
  clear hi he
  have hs2 := H2.out.1
  have hs3 := H3.out.2.2
  have h7e := H7.out
  have hs7 : w7.heap.size = w3.heap.size + 1 := by rw [h7e]; simp
  have hb7 : Below w3.heap.size w3 w7 := by rw [h7e]; exact grow1 _ _
  have hbg : w7.heap[w3.heap.size]? = some (.cells #[.slice (some ⟨S, off + 1, none⟩) zs.length (cap - 1)] 32 (0, 0)) := by rw [h7e]; exact alloc_at0 _ _
  have k3 : ∀ j, j < w2.heap.size → w7.heap[j]? = w2.heap[j]? := fun j hj => (hb7.block _ (by omega)).trans (H3.out.1.block _ hj)
  have hI0 : MadI b p0 zs w w7 w2.heap.size [] w7 := ⟨(k3 _ (by omega)).trans H2.out.2.2.1, (k3 _ (by omega)).trans H2.out.2.2.2.1, ⟨.slice none 0 0, (hb7.block _ (by omega)).trans H3.out.2.1, by simpa [hoR, ixR] using World.ownsRow_nil w7 w7.heap.size 38 3⟩, H2.out.2.1.trans ((H3.out.1.mono (by omega)).trans (hb7.mono (by omega))), Nat.le_refl _⟩
  have hzz := Ints.below HZ.out (hI0.bel.mono HB.out.1)
  obtain ⟨Sb, hSb, hseq⟩ := backward_all (4 - 1) w3.heap.size (cap - 1) ((some ⟨S, off + 1, none⟩)) zs (by omega) (by have := HB.out.2; omega) B w7 (by have := HB.out.1; omega) (by omega) hbg hzz
  have hSb2 : Sb < w.heap.size ∨ Sb = w3.heap.size := by rcases hSb with h | h; exact .inl (by have := HB.out.1; omega); exact .inr h
  clear h7e hSb
  refine wpIn_rangeFunc_ownF rfl (by omega) (gf := 89) (lb := #[.pointer (some ⟨w3.heap.size, 0, none⟩)]) rfl trivial (enters_of Try.func89 (by kernel_rfl) rfl) hseq
    (fun h k => ⟨k.1.trans h.1, k.2.trans h.2⟩)
    (fun W l o o' hl _ _ _ => ⟨World.putObj_heap_other (by omega), World.putObj_heap_other (by omega)⟩) (Below.refl _ _) (fun _ => rfl)
    (MadI b p0 zs w w7 w2.heap.size)
    (fun _ _ _ => False)
    (MadI.from (by omega) (by omega))
    (fun _ _ _ _ _ hs _ _ => hs)
    hI0
    (fun x => { tmps := #[.agg #[.int .i64 b.len, .int .i64 b.e0, .int .i64 b.e1, .int .i64 b.f0, .int .i64 b.f1, .int .i64 b.s0, .int .i64 b.s1, .int .i64 b.gap, .int .i64 b.near, .slice b.A b.zs.length b.cap], .slice (some ⟨S, off, none⟩) (zs.length + 1) cap, .pointer (some ⟨w.heap.size, 0, none⟩), undef, .pointer (some ⟨w.heap.size + 1, 0, none⟩), .pointer (some ⟨w2.heap.size, 0, none⟩), undef, .int .i64 (zs[x.1]?.getD 0), .slice (some ⟨S, off, none⟩) (zs.length + 1) cap, .pointer (some ⟨S, off, none⟩), .int .i64 p0, .pointer (some ⟨w.heap.size, 1, none⟩), .agg #[.int .i64 b.e0, .int .i64 b.e1], .pointer (some ⟨w.heap.size, 5, none⟩), .agg #[.int .i64 b.s0, .int .i64 b.s1], .agg #[.int .i64 p0, .int .i64 b.e0, .int .i64 b.e1, .int .i64 0, .int .i64 0, .int .i64 b.s0, .int .i64 b.s1, .slice none 0 0], .slice (some ⟨S, off, none⟩) (zs.length + 1) cap, .slice (some ⟨S, off + 1, none⟩) zs.length (cap - 1), .func (.func 89) #[] #[.pointer (some ⟨w3.heap.size, 0, none⟩)], .int .i64 (x.1 : Int), .int .i64 (zs[x.1]?.getD 0), undef, undef, undef, undef, undef, undef, undef, undef, undef, undef], defers := [] }) ?assign ?body ?done ?stop
  case assign =>
    intro l x W K hK
    have hKK := Lib.hid hK
    clear hK
    simp only [encI]
    generalize zs[x.1]?.getD 0 = z at hKK ⊢
    clear hseq hI0 hzz hbg hb7 k3 hs2 hs3 hs7 hw2
    gi_wp2_with fail
    exact hKK.out
  case body =>
    rintro l pre x W hI hlt
    have hsn := hoR_app b zs (ixR pre) x.1
    have hb0 := hI.b0
    have hb4 := hI.b4
    obtain ⟨v, hb5, hrow⟩ := hI.b5
    have hsz := hI.sz
    have hbl := hI.bel
    have hmp := ixR_app pre x
    rw [← hmp] at hsn
    generalize zs[x.1]?.getD 0 = z at hsn ⊢
    generalize hoR b zs (ixR pre) = L at hrow hsn
    have HST := Lib.hid hsn
    have hrow1 := hrow.1
    have HRW := Lib.hid (And.intro hrow (And.intro hb5 (And.intro hbl hI)))
    have HLN := Lib.hid hlt
    have hc0 := fun i => cell_of_row W w.heap.size i _ _ _ hb0
    unfold bkc at hc0
    have hc5 := fun i => cell_of_row W w2.heap.size i _ _ _ hb5
    have HB0 := Lib.hid (And.intro hb0 (And.intro hb4 hb5))
    have HSZ := Lib.hid (And.intro hs2 (And.intro hs3 (And.intro hs7 hsz)))
    have hwl2 : w2.heap.size < W.heap.size := by omega
    clear hseq hI0 hzz hbg hb7 k3 hs2 hs3 hs7 hw2 hrow hI hsn hb0 hb4 hb5 hsz hmp hlt hbl hrow1
    gi_wp2_with
      (gi_at_builtin
       refine wpListIn_append_own _ rfl (.tmp 22) (.tmp 27) 26 rfl w7.heap.size 38 i0 _ 3 24 Try.underlying26 HI.out.1 HI.out.2.1 HI.out.2.2.1 HI.out.2.2.2 rfl (by decide) v pre.length (L.flatMap hoc) rfl (HRW.out.1.alloc _)
         ⟨W.heap.size, 0, none⟩ 1 1 [.int .i64 z, .int .i64 b.f0, .int .i64 b.f1] rfl rfl (cell_three_new _ _ _ _ _) (by simp [Value.oneCell']) (by have := HLN.out; have := HB.out.2; simp only [maxLen]; omega) (by have := HLN.out; have := HB.out.2; omega) (by have := HSZ.out; simp; omega) ?_
       intro v' w4 hown' hgrow _
       obtain ⟨g', cap', rfl⟩ := ownsRow_succ hown'
       have hk4 : ∀ j, j < w7.heap.size → w4.heap[j]? = W.heap[j]? := fun j hj => (hgrow.block j (by simp; have := HSZ.out; omega) (fun e => by have := own_blockL HRW.out.1 _ e.symm; omega)).trans (Below.heap_alloc _ _ _ (by have := HSZ.out; omega))
       have hd5 := fun i => cell_of_row w4 w2.heap.size i _ _ _ ((hk4 _ (by have := HSZ.out; omega)).trans HB0.out.2.2)
       have he5 := fun i => frozen_of_row w4 w2.heap.size i _ _ ((hk4 _ (by have := HSZ.out; omega)).trans HB0.out.2.2)
       have H4 := Lib.hid (And.intro hown' (And.intro hgrow hk4))
       clear hown' hgrow hk4 hc0 hc5)
    have hs := HSZ.out
    have h6 : ∀ j, j < w7.heap.size → j ≠ w2.heap.size → (w4.setCell ⟨w2.heap.size, 7, none⟩ (.slice (some ⟨g', 0, none⟩) (pre.length + 1) cap')).heap[j]? = W.heap[j]? :=
      fun j hj h1 => (Below.heap_setCell _ _ _ _ (by simpa using h1)).trans (H4.out.2.2 j hj)
    have hown5 := H4.out.1.kept (grownBy_setCell7 w4 w2.heap.size 7 (.slice (some ⟨g', 0, none⟩) (pre.length + 1) cap')) (.inr (fun e => by have := own_blockL H4.out.1 _ e; omega))
    have hko : KeepsOthers W w4 := (KeepsOthers.alloc W _).trans (KeepsOthers.of_grownBy H4.out.2.1 fun j o ej hj => by
      rcases (HRW.out.1.alloc (.cells #[.int .i64 z, .int .i64 b.f0, .int .i64 b.f1] 38)).2 with ⟨rfl, _⟩ | ⟨g, cap, cur, rfl, _, hgb, _⟩
      · simp [Value.ownBlock] at ej
      · obtain rfl : g = j := by simpa [Value.ownBlock] using ej
        rw [hgb] at hj; cases hj; rfl)
    have hb4 : Below w.heap.size w w4 := (HRW.out.2.2.1.alloc HRW.out.2.2.1.size _).grown H4.out.2.1 (by have := HRW.out.2.2.1.size; simp; omega) (fun k e => by have := own_blockL HRW.out.1 _ e; omega)
    refine ⟨hko.trans (KeepsOthers.setCell _ _ _), ⟨h6 _ (by omega) (by omega), h6 _ (by omega) (by omega)⟩, ⟨(h6 _ (by omega) (by omega)).trans HB0.out.1, (h6 _ (by omega) (by omega)).trans HB0.out.2.1, ⟨_, heap_setCell_same _ _ _ _ _ _ ((H4.out.2.2 _ (by omega)).trans HB0.out.2.2), ?_⟩, hb4.setCell (by simp; omega) _, ?_⟩⟩
    · rw [HST.out, List.length_append]
      simpa [hoc] using hown5
    · have := H4.out.2.1.size; simp at this ⊢; omega
  case done =>
    rintro D xs W hD hxs hI hDd
    have hix : ixR xs = (List.range zs.length).reverse := hxs
    obtain ⟨v, hb5, hrow⟩ := hI.b5
    have hxl : xs.length = (holL b (p0 :: zs)).length := by
      have h := congrArg List.length hix
      rw [ixR_len] at h
      simp at h
      simp [holL, h]
    rw [hix, hoR_all b p0 zs, hxl] at hrow
    obtain ⟨Av, cv, rfl⟩ := own_shape hrow
    have hb4 := hI.b4
    have hbel := hI.bel
    have hsz := hI.sz
    unfold zeF at hb4
    have hc5 := fun i => cell_of_row W w2.heap.size i _ _ _ hb5
    have hc4 := fun i => cell_of_row W (w.heap.size + 1) i _ _ _ hb4
    have hf4 := fun i => frozen_of_row W (w.heap.size + 1) i _ _ hb4
    have HRW := Lib.hid (And.intro hrow (And.intro hbel (And.intro hDd (And.intro hD hb4))))
    have HSZ := Lib.hid (And.intro hs2 (And.intro hs3 (And.intro hs7 hsz)))
    clear hseq hI0 hzz hbg hb7 k3 hs2 hs3 hs7 hw2 hrow hI hb4 hb5 hsz hbel hDd hix hxs hD hxl
    gi_wp2_with fail
    obtain ⟨W8, hW8⟩ : ∃ W8, ((((((((W.setCell ⟨w.heap.size + 1, 0, none⟩ (.int .i64 p0)).setCell ⟨w.heap.size + 1, 1, none⟩ (.int .i64 b.e0)).setCell ⟨w.heap.size + 1, 2, none⟩ (.int .i64 b.e1)).setCell ⟨w.heap.size + 1, 3, none⟩ (.int .i64 0)).setCell ⟨w.heap.size + 1, 4, none⟩ (.int .i64 0)).setCell ⟨w.heap.size + 1, 5, none⟩ (.int .i64 b.s0)).setCell ⟨w.heap.size + 1, 6, none⟩ (.int .i64 b.s1)).setCell ⟨w.heap.size + 1, 7, none⟩ (.slice Av (holL b (p0 :: zs)).length cv)) = W8 := ⟨_, rfl⟩
    have ho8 : ∀ k, k ≠ w.heap.size + 1 → W8.heap[k]? = W.heap[k]? := fun k hk => by
      rw [← hW8]
      iterate 8 (refine (Below.heap_setCell _ _ _ _ (by simpa using hk)).trans ?_)
      rfl
    have hm8 : W8.heap[w.heap.size + 1]? = some (.cells #[.int .i64 p0, .int .i64 b.e0, .int .i64 b.e1, .int .i64 0, .int .i64 0, .int .i64 b.s0, .int .i64 b.s1, .slice Av (holL b (p0 :: zs)).length cv] 28 (0, 0)) := by
      rw [← hW8]
      exact (heap_setCell_same _ _ _ _ _ _ (heap_setCell_same _ _ _ _ _ _ (heap_setCell_same _ _ _ _ _ _ (heap_setCell_same _ _ _ _ _ _ (heap_setCell_same _ _ _ _ _ _ (heap_setCell_same _ _ _ _ _ _ (heap_setCell_same _ _ _ _ _ _ (heap_setCell_same _ _ _ _ _ _ HRW.out.2.2.2.2))))))))
    have hs := HSZ.out
    have hown8 : W8.ownsRow w7.heap.size 38 3 (.slice Av (holL b (p0 :: zs)).length cv) (holL b (p0 :: zs)).length ((holL b (p0 :: zs)).flatMap hoc) := by
      rw [← hW8]
      iterate 8 (refine ownsRow_setCell_other ?_ (fun e => by have := own_blockL HRW.out.1 _ e; simp at this; omega) _)
      exact HRW.out.1
    have hb8 : Below w.heap.size w W8 := by
      rw [← hW8]
      iterate 8 (refine Below.setCell ?_ (by simp) _)
      exact HRW.out.2.1
    rw [hW8]
    have hDne : D ≠ w.heap.size + 1 := by have := HRW.out.2.2.2.1; omega
    have hD4 : W8.heap[D]? = some (.deferred (some [])) := (ho8 D hDne).trans HRW.out.2.2.1
    have hcE := fun i => cell_of_row (W8.putObj D (.deferred none)) (w.heap.size + 1) i _ _ _ ((World.putObj_heap_other (fun e => hDne e.symm)).trans hm8)
    refine ⟨by simp, .inl ⟨_, _, rfl, run_takeDeferred hD4, ?_⟩⟩
    refine ⟨.agg #[.int .i64 p0, .int .i64 b.e0, .int .i64 b.e1, .int .i64 0, .int .i64 0, .int .i64 b.s0, .int .i64 b.s1, .slice Av (holL b (p0 :: zs)).length cv], by simp [results, Try.results44, go_sem, hcE], Av, cv, rfl, ?_, below_putObj hb8 (r := D) (by have := HRW.out.2.2.2.1; omega) (.deferred none)⟩
    exact own_mono (ownsRow_putObj hown8 (.deferred none) hD4 rfl) (by omega)
  case stop =>
    rintro D c' pre W _ _ h _
    exact h.elim

set_option maxRecDepth 100000 in
set_option maxHeartbeats 8000000 in
theorem made_one (b : Bk) (A : Option Addr) (cap : Nat) (p0 : Int) (zs : List Int) (hl : zs.length ≤ 8) (hce : cap = 1) (hcp : zs.length + 1 ≤ cap) (hcap : cap ≤ 1000000000) (B : Nat) (w : World) (hB : B ≤ w.heap.size) (hI : Ints w B A (p0 :: zs)) :
    Calls Try.prog 44 #[.agg (bkc b).toArray, .slice A (zs.length + 1) cap] w (MadePost w b (p0 :: zs)) := by
  obtain ⟨S, off, rfl, hS, hc⟩ := hI (by simp)
  subst hce
  unfold MadePost
  obtain ⟨w2, hw2⟩ : ∃ w2, (w.alloc (.cells (bkc b).toArray 34)).alloc (.cells zeF.toArray 28) = w2 := ⟨_, rfl⟩
  have hs2 : w2.heap.size = w.heap.size + 2 := by rw [← hw2]; simp
  have hb2 : Below w.heap.size w w2 := by rw [← hw2]; exact ((Below.refl _ _).alloc (Nat.le_refl _) _).alloc (by simp) _
  have m0b : w2.heap[w.heap.size]? = some (.cells (bkc b).toArray 34 (0, 0)) := by rw [← hw2]; exact alloc2_at0 _ _ _
  have m1b : w2.heap[w.heap.size + 1]? = some (.cells zeF.toArray 28 (0, 0)) := by rw [← hw2]; exact alloc2_at1 _ _ _
  have hcS := hc 0 (by simp)
  rw [Nat.add_zero] at hcS
  have hcS2 : w2.cell? ⟨S, off, none⟩ = some (.int .i64 p0) := (hb2.cell (p := ⟨S, off, none⟩) (Nat.lt_of_lt_of_le hS hB)).trans hcS
  have hzI : Ints w B (some ⟨S, off, none⟩) zs := fun h => absurd h (by omega)
  have H2 := Lib.hid (And.intro hs2 (And.intro hb2 (And.intro m0b (And.intro m1b (And.intro hcS2 (show S < w2.heap.size by omega))))))
  have HZ := Lib.hid hzI
  have hlz : (zs.length : Int) ≤ 8 := by omega
  have hc1 : (zs.length : Int) + 1 ≤ 1 := by omega
  have HCP := Lib.hid (And.intro hcp hcap)
  have HB := Lib.hid (And.intro hB hl)
  clear hI hc hcS hcS2 hzI hs2 hb2 m0b m1b hB hcp hcap hS
  unfold bkc zeF at hw2 H2
  unfold bkc
  refine (callsIn_wide (n := 4)).1 ?_
  refine callsIn_of_wp_marks Try.func44 rfl trivial ?_ rfl
  simp only [Try.ntmps44, List.size_toArray, List.length_cons, List.length_nil, Nat.reduceAdd, Nat.reduceSub, Array.replicate_succ, Array.replicate_zero, List.push_toArray, List.append_toArray, List.nil_append, List.cons_append]
  gi_wp2_with fail
  refine wpIn_wide.2 ?_
  refine R6.wp_walk (C := NwC w2 (.cells #[.int .i64 0, .int .i64 0, .int .i64 0, .int .i64 0, .int .i64 0, .int .i64 0, .int .i64 0, .slice none 0 0] 28 (0, 0)) (.cells #[.int .i64 p0, .int .i64 b.e0, .int .i64 b.e1, .int .i64 0, .int .i64 0, .int .i64 b.s0, .int .i64 b.s1, .slice none 0 0] 28 (0, 0)) 8 9) 31 (by kernel_rfl) (by kernel_rfl) rfl (NwC.start (fun _ => rfl)) ?_
  simp only []
  iterate 8
    (refine' R6.WalkR.det (fun _ => rfl) (fun D ρ W hK hC => ?_) ?_
     rotate_left
     · have f0 := fun i => cell_of_row W w.heap.size i _ _ _ ((hC.bel.block _ (lt_of_heap H2.out.2.2.1)).trans H2.out.2.2.1)
       have f1 : W.cell? ⟨S, off, none⟩ = some (.int .i64 p0) := (hC.bel.cell (p := ⟨S, off, none⟩) H2.out.2.2.2.2.2).trans H2.out.2.2.2.2.1
       have HC := Lib.hid hC
       clear hC hK
       go_simp
       with_reducible exact ⟨rfl, HC.out.move rfl⟩
     simp only [Act.put, List.setIfInBounds_toArray, List.set_cons_succ, List.set_cons_zero])
  refine' R6.WalkR.det (c := .pointer (some ⟨w2.heap.size, 0, none⟩)) (fun _ => rfl) (fun D ρ W hK hC => ?_) ?_
  · have HS := Lib.hid (And.intro (hC.sz hK.me) (And.intro hK.me (hK.post 9 (by first | decide +kernel | (dsimp only; decide +kernel)))))
    have HC := Lib.hid hC
    clear hC hK
    go_simp
    exact ⟨by rw [HS.out.1], HC.out.alloc (by decide) HS.out.2.1 HS.out.2.2 rfl (alloc_at0 _ _)⟩
  simp only [Act.put, List.setIfInBounds_toArray, List.set_cons_succ, List.set_cons_zero]
  refine' R6.WalkR.det (c := undef) (fun _ => rfl) (fun D ρ W hK hC => ?_) ?_
  · have h8 := hK.pre 8 (by first | decide +kernel | (dsimp only; decide +kernel))
    have hN := hC.new h8 hK.me
    have hme := hK.me
    refine gives_store_blk 28 (.tmp 5) (.tmp 15) rfl rfl (cs := [.int .i64 p0, .int .i64 b.e0, .int .i64 b.e1, .int .i64 0, .int .i64 0, .int .i64 b.s0, .int .i64 b.s1, .slice none 0 0]) rfl hN.1 (Nat.le_refl 8) (by simp [Value.oneCell']) rowFlute ?_
    intro W' hP hM
    exact ⟨rfl, hC.store (by decide) h8 hme (hP.below (Nat.le_refl _)) hP.size hM⟩
  simp only [Act.put]
  refine R6.WalkR.nil (fun D ρ W hD hC => ?_)
  obtain ⟨w3, hw3⟩ : ∃ w3, W = w3 := ⟨_, rfl⟩
  rw [hw3] at hC ⊢
  have hp3 := hC.put (hD 9 (by decide))
  have H3 := Lib.hid (And.intro hC.bel hp3)
  clear hC hD hp3 hw3
  clear D ρ W
  gi_wp2_with (refine ⟨trivial, ?_⟩
               gi_at_call 71
               refine (callsIn_wide.2 (backward_any _ _ _ _)).mono ?_
               rintro e w7 ⟨rfl, hw7⟩
               have H7 := Lib.hid hw7
               clear hw7)
  obtain ⟨i0, hi, he⟩ := Option.map_eq_some_iff.1 infoHole
  simp only [Prod.mk.injEq] at he
  have HI := Lib.hid (And.intro hi he)
  clear hi he
  have hs2 := H2.out.1
  have hs3 := H3.out.2.2
  have h7e := H7.out
  have hs7 : w7.heap.size = w3.heap.size + 1 := by rw [h7e]; simp
  have hb7 : Below w3.heap.size w3 w7 := by rw [h7e]; exact grow1 _ _
  have hbg : w7.heap[w3.heap.size]? = some (.cells #[.slice (some ⟨S, off, none⟩) zs.length 0] 32 (0, 0)) := by rw [h7e]; exact alloc_at0 _ _
  have k3 : ∀ j, j < w2.heap.size → w7.heap[j]? = w2.heap[j]? := fun j hj => (hb7.block _ (by omega)).trans (H3.out.1.block _ hj)
  have hI0 : MadI b p0 zs w w7 w2.heap.size [] w7 := ⟨(k3 _ (by omega)).trans H2.out.2.2.1, (k3 _ (by omega)).trans H2.out.2.2.2.1, ⟨.slice none 0 0, (hb7.block _ (by omega)).trans H3.out.2.1, by simpa [hoR, ixR] using World.ownsRow_nil w7 w7.heap.size 38 3⟩, H2.out.2.1.trans ((H3.out.1.mono (by omega)).trans (hb7.mono (by omega))), Nat.le_refl _⟩
  have hzz := Ints.below HZ.out (hI0.bel.mono HB.out.1)
  obtain ⟨Sb, hSb, hseq⟩ := backward_all (4 - 1) w3.heap.size 0 ((some ⟨S, off, none⟩)) zs (by omega) (by have := HB.out.2; omega) B w7 (by have := HB.out.1; omega) (by omega) hbg hzz
  have hSb2 : Sb < w.heap.size ∨ Sb = w3.heap.size := by rcases hSb with h | h; exact .inl (by have := HB.out.1; omega); exact .inr h
  clear h7e hSb
  refine wpIn_rangeFunc_ownF rfl (by omega) (gf := 89) (lb := #[.pointer (some ⟨w3.heap.size, 0, none⟩)]) rfl trivial (enters_of Try.func89 (by kernel_rfl) rfl) hseq
    (fun h k => ⟨k.1.trans h.1, k.2.trans h.2⟩)
    (fun W l o o' hl _ _ _ => ⟨World.putObj_heap_other (by omega), World.putObj_heap_other (by omega)⟩) (Below.refl _ _) (fun _ => rfl)
    (MadI b p0 zs w w7 w2.heap.size)
    (fun _ _ _ => False)
    (MadI.from (by omega) (by omega))
    (fun _ _ _ _ _ hs _ _ => hs)
    hI0
    (fun x => { tmps := #[.agg #[.int .i64 b.len, .int .i64 b.e0, .int .i64 b.e1, .int .i64 b.f0, .int .i64 b.f1, .int .i64 b.s0, .int .i64 b.s1, .int .i64 b.gap, .int .i64 b.near, .slice b.A b.zs.length b.cap], .slice (some ⟨S, off, none⟩) (zs.length + 1) 1, .pointer (some ⟨w.heap.size, 0, none⟩), undef, .pointer (some ⟨w.heap.size + 1, 0, none⟩), .pointer (some ⟨w2.heap.size, 0, none⟩), undef, .int .i64 (zs[x.1]?.getD 0), .slice (some ⟨S, off, none⟩) (zs.length + 1) 1, .pointer (some ⟨S, off, none⟩), .int .i64 p0, .pointer (some ⟨w.heap.size, 1, none⟩), .agg #[.int .i64 b.e0, .int .i64 b.e1], .pointer (some ⟨w.heap.size, 5, none⟩), .agg #[.int .i64 b.s0, .int .i64 b.s1], .agg #[.int .i64 p0, .int .i64 b.e0, .int .i64 b.e1, .int .i64 0, .int .i64 0, .int .i64 b.s0, .int .i64 b.s1, .slice none 0 0], .slice (some ⟨S, off, none⟩) (zs.length + 1) 1, .slice (some ⟨S, off, none⟩) zs.length 0, .func (.func 89) #[] #[.pointer (some ⟨w3.heap.size, 0, none⟩)], .int .i64 (x.1 : Int), .int .i64 (zs[x.1]?.getD 0), undef, undef, undef, undef, undef, undef, undef, undef, undef, undef], defers := [] }) ?assign ?body ?done ?stop
  case assign =>
    intro l x W K hK
    have hKK := Lib.hid hK
    clear hK
    simp only [encI]
    generalize zs[x.1]?.getD 0 = z at hKK ⊢
    clear hseq hI0 hzz hbg hb7 k3 hs2 hs3 hs7 hw2
    gi_wp2_with fail
    exact hKK.out
  case body =>
    rintro l pre x W hI hlt
    exact absurd x.2 (by have := HCP.out.1; omega)
  case done =>
    rintro D xs W hD hxs hI hDd
    have hix : ixR xs = (List.range zs.length).reverse := hxs
    obtain ⟨v, hb5, hrow⟩ := hI.b5
    have hxl : xs.length = (holL b (p0 :: zs)).length := by
      have h := congrArg List.length hix
      rw [ixR_len] at h
      simp at h
      simp [holL, h]
    rw [hix, hoR_all b p0 zs, hxl] at hrow
    obtain ⟨Av, cv, rfl⟩ := own_shape hrow
    have hb4 := hI.b4
    have hbel := hI.bel
    have hsz := hI.sz
    unfold zeF at hb4
    have hc5 := fun i => cell_of_row W w2.heap.size i _ _ _ hb5
    have hc4 := fun i => cell_of_row W (w.heap.size + 1) i _ _ _ hb4
    have hf4 := fun i => frozen_of_row W (w.heap.size + 1) i _ _ hb4
    have HRW := Lib.hid (And.intro hrow (And.intro hbel (And.intro hDd (And.intro hD hb4))))
    have HSZ := Lib.hid (And.intro hs2 (And.intro hs3 (And.intro hs7 hsz)))
    clear hseq hI0 hzz hbg hb7 k3 hs2 hs3 hs7 hw2 hrow hI hb4 hb5 hsz hbel hDd hix hxs hD hxl
    gi_wp2_with fail
    obtain ⟨W8, hW8⟩ : ∃ W8, ((((((((W.setCell ⟨w.heap.size + 1, 0, none⟩ (.int .i64 p0)).setCell ⟨w.heap.size + 1, 1, none⟩ (.int .i64 b.e0)).setCell ⟨w.heap.size + 1, 2, none⟩ (.int .i64 b.e1)).setCell ⟨w.heap.size + 1, 3, none⟩ (.int .i64 0)).setCell ⟨w.heap.size + 1, 4, none⟩ (.int .i64 0)).setCell ⟨w.heap.size + 1, 5, none⟩ (.int .i64 b.s0)).setCell ⟨w.heap.size + 1, 6, none⟩ (.int .i64 b.s1)).setCell ⟨w.heap.size + 1, 7, none⟩ (.slice Av (holL b (p0 :: zs)).length cv)) = W8 := ⟨_, rfl⟩
    have ho8 : ∀ k, k ≠ w.heap.size + 1 → W8.heap[k]? = W.heap[k]? := fun k hk => by
      rw [← hW8]
      iterate 8 (refine (Below.heap_setCell _ _ _ _ (by simpa using hk)).trans ?_)
      rfl
    have hm8 : W8.heap[w.heap.size + 1]? = some (.cells #[.int .i64 p0, .int .i64 b.e0, .int .i64 b.e1, .int .i64 0, .int .i64 0, .int .i64 b.s0, .int .i64 b.s1, .slice Av (holL b (p0 :: zs)).length cv] 28 (0, 0)) := by
      rw [← hW8]
      exact (heap_setCell_same _ _ _ _ _ _ (heap_setCell_same _ _ _ _ _ _ (heap_setCell_same _ _ _ _ _ _ (heap_setCell_same _ _ _ _ _ _ (heap_setCell_same _ _ _ _ _ _ (heap_setCell_same _ _ _ _ _ _ (heap_setCell_same _ _ _ _ _ _ (heap_setCell_same _ _ _ _ _ _ HRW.out.2.2.2.2))))))))
    have hs := HSZ.out
    have hown8 : W8.ownsRow w7.heap.size 38 3 (.slice Av (holL b (p0 :: zs)).length cv) (holL b (p0 :: zs)).length ((holL b (p0 :: zs)).flatMap hoc) := by
      rw [← hW8]
      iterate 8 (refine ownsRow_setCell_other ?_ (fun e => by have := own_blockL HRW.out.1 _ e; simp at this; omega) _)
      exact HRW.out.1
    have hb8 : Below w.heap.size w W8 := by
      rw [← hW8]
      iterate 8 (refine Below.setCell ?_ (by simp) _)
      exact HRW.out.2.1
    rw [hW8]
    have hDne : D ≠ w.heap.size + 1 := by have := HRW.out.2.2.2.1; omega
    have hD4 : W8.heap[D]? = some (.deferred (some [])) := (ho8 D hDne).trans HRW.out.2.2.1
    have hcE := fun i => cell_of_row (W8.putObj D (.deferred none)) (w.heap.size + 1) i _ _ _ ((World.putObj_heap_other (fun e => hDne e.symm)).trans hm8)
    refine ⟨by simp, .inl ⟨_, _, rfl, run_takeDeferred hD4, ?_⟩⟩
    refine ⟨.agg #[.int .i64 p0, .int .i64 b.e0, .int .i64 b.e1, .int .i64 0, .int .i64 0, .int .i64 b.s0, .int .i64 b.s1, .slice Av (holL b (p0 :: zs)).length cv], by simp [results, Try.results44, go_sem, hcE], Av, cv, rfl, ?_, below_putObj hb8 (r := D) (by have := HRW.out.2.2.2.1; omega) (.deferred none)⟩
    exact own_mono (ownsRow_putObj hown8 (.deferred none) hD4 rfl) (by omega)
  case stop =>
    rintro D c' pre W _ _ h _
    exact h.elim

theorem made_any (b : Bk) (A : Option Addr) (cap : Nat) (p0 : Int) (zs : List Int) (hl : zs.length ≤ 8) (hcp : zs.length + 1 ≤ cap) (hcap : cap ≤ 1000000000) (B : Nat) (w : World) (hB : B ≤ w.heap.size) (hI : Ints w B A (p0 :: zs)) :
    Calls Try.prog 44 #[.agg (bkc b).toArray, .slice A (zs.length + 1) cap] w (MadePost w b (p0 :: zs)) := by
  by_cases h : cap = 1
  · exact made_one b A cap p0 zs hl h hcp hcap B w hB hI
  · exact made_some b A cap p0 zs hl h hcp hcap B w hB hI

end Go.Proofs.Ytjjipkgconmfcaa

namespace Go.Proofs.Ytjjipkgconmfcaa
open Go.RowKit Go.Shelf

attribute [local go_sem] gives

section
variable {w : World} {b : Nat} {x0 x1 x2 x3 x4 x5 x6 x7 : Value} {t : TypeId}
def put8 (w : World) (b : Nat) (y0 y1 y2 y3 y4 y5 y6 y7 : Value) : World := (((((((w.setCell ⟨b, 0, none⟩ y0).setCell ⟨b, 1, none⟩ y1).setCell ⟨b, 2, none⟩ y2).setCell ⟨b, 3, none⟩ y3).setCell ⟨b, 4, none⟩ y4).setCell ⟨b, 5, none⟩ y5).setCell ⟨b, 6, none⟩ y6).setCell ⟨b, 7, none⟩ y7
theorem set_row {w : World} {b i : Nat} {L : List Value} {t : TypeId} (h : w.heap[b]? = some (.cells L.toArray t (0, 0))) (y : Value) : (w.setCell ⟨b, i, none⟩ y).heap[b]? = some (.cells (L.set i y).toArray t (0, 0)) := by
  have := heap_setCell_same w b i _ _ y h
  rwa [List.setIfInBounds_toArray] at this
theorem put8_at (h : w.heap[b]? = some (.cells #[x0, x1, x2, x3, x4, x5, x6, x7] t (0, 0))) (y0 y1 y2 y3 y4 y5 y6 y7 : Value) : (put8 w b y0 y1 y2 y3 y4 y5 y6 y7).heap[b]? = some (.cells #[y0, y1, y2, y3, y4, y5, y6, y7] t (0, 0)) := by
  unfold put8
  have h0 := set_row (i := 0) (L := [x0, x1, x2, x3, x4, x5, x6, x7]) h y0
  simp only [List.set_cons_zero, List.set_cons_succ] at h0
  have h1 := set_row (i := 1) h0 y1
  simp only [List.set_cons_zero, List.set_cons_succ] at h1
  have h2 := set_row (i := 2) h1 y2
  simp only [List.set_cons_zero, List.set_cons_succ] at h2
  have h3 := set_row (i := 3) h2 y3
  simp only [List.set_cons_zero, List.set_cons_succ] at h3
  have h4 := set_row (i := 4) h3 y4
  simp only [List.set_cons_zero, List.set_cons_succ] at h4
  have h5 := set_row (i := 5) h4 y5
  simp only [List.set_cons_zero, List.set_cons_succ] at h5
  have h6 := set_row (i := 6) h5 y6
  simp only [List.set_cons_zero, List.set_cons_succ] at h6
  have h7 := set_row (i := 7) h6 y7
  simp only [List.set_cons_zero, List.set_cons_succ] at h7
  exact h7
theorem put8_below {B : Nat} {w0 : World} (h : Below B w0 w) (hb : B ≤ b) (y0 y1 y2 y3 y4 y5 y6 y7 : Value) : Below B w0 (put8 w b y0 y1 y2 y3 y4 y5 y6 y7) := by
  unfold put8
  iterate 8 (refine Below.setCell ?_ (by simpa using hb) _)
  exact h
theorem put8_own {base n size : Nat} {e : TypeId} {v : Value} {xs : List Value} (h : w.ownsRow base e size v n xs) (hb : b < base) (y0 y1 y2 y3 y4 y5 y6 y7 : Value) : (put8 w b y0 y1 y2 y3 y4 y5 y6 y7).ownsRow base e size v n xs := by
  unfold put8
  iterate 8 (refine ownsRow_setCell_other ?_ (fun e => by have := own_blockL h _ e; simp at this; omega) _)
  exact h
end

def MakOk (w : World) (b : Bk) (ps : List Int) (e : Ending) (w' : World) : Prop := ∃ A c, e = .returned (.tuple #[.agg (fuc (mkF b ps A c)).toArray, .int .i64 0]) ∧ w'.ownsRow w.heap.size 38 3 (.slice A (holL b ps).length c) (holL b ps).length ((holL b ps).flatMap hoc) ∧ Below w.heap.size w w'
def MakBad (w : World) (k : Int) (e : Ending) (w' : World) : Prop := e = .returned (.tuple #[.agg (fuc fu0).toArray, .int .i64 k]) ∧ Below w.heap.size w w'

set_option maxRecDepth 100000 in
set_option maxHeartbeats 8000000 in
theorem make_any (b : Bk) (hlz : b.zs.length ≤ 1000000) (A : Option Addr) (cap : Nat) (ps : List Int) (hl : ps.length ≤ 1000000) (hcp : ps.length ≤ cap) (hcap : cap ≤ 1000000000) (B : Nat) (w : World) (hB : B ≤ w.heap.size) (hz : BkAt w B b) (hI : Ints w B A ps) :
    Calls Try.prog 15 #[.agg (bkc b).toArray, .slice A ps.length cap] w fun e w' => (okBk b = false → MakBad w 92 e w') ∧ (okBk b = true → okPl b ps = false → MakBad w 8 e w') ∧ (okBk b = true → okPl b ps = true → MakOk w b ps e w') := by
  obtain ⟨w1, hw1⟩ : ∃ w1, (w.alloc (.cells (bkc b).toArray 34)).alloc (.cells zeF.toArray 28) = w1 := ⟨_, rfl⟩
  have hb1 : Below w.heap.size w w1 := by rw [← hw1]; exact ((Below.refl _ _).alloc (Nat.le_refl _) _).alloc (by simp) _
  have m0 : w1.heap[w.heap.size]? = some (.cells (bkc b).toArray 34 (0, 0)) := by rw [← hw1]; exact alloc2_at0 _ _ _
  have m1 : w1.heap[w.heap.size + 1]? = some (.cells zeF.toArray 28 (0, 0)) := by rw [← hw1]; exact alloc2_at1 _ _ _
  have hz1 := hz.below (hb1.mono hB)
  have hI1 := Ints.below hI (hb1.mono hB)
  have hB1 := Nat.le_trans hB hb1.size
  have hvb := fun W (hW : Below w1.heap.size w1 W) => validBlank_any b hlz B W (Nat.le_trans hB1 hW.size) (hz1.below (hW.mono hB1))
  have hvp := fun (hok : okBk b = true) W (hW : Below w1.heap.size w1 W) => validPlaces_any b hok A cap ps hl hcp hcap B W (Nat.le_trans hB1 hW.size) (hz1.below (hW.mono hB1)) (Ints.below hI1 (hW.mono hB1))
  have hmd : ∀ p0 zs, ps = p0 :: zs → ps.length ≤ 9 → ∀ W, Below w1.heap.size w1 W → Calls Try.prog 44 #[.agg (bkc b).toArray, .slice A ps.length cap] W (MadePost W b ps) := fun p0 zs h h9 W hW => by
    subst h
    exact made_any b A cap p0 zs (by simp at h9; omega) (by simpa using hcp) hcap B W (Nat.le_trans hB1 hW.size) (Ints.below hI1 (hW.mono hB1))
  have hcf := fun (W : World) (hW : Below w1.heap.size w1 W) => And.intro (fun i => cell_of_row W w.heap.size i _ _ _ ((hW.block _ (lt_of_heap m0)).trans m0)) (And.intro (fun i => cell_of_row W (w.heap.size + 1) i _ _ _ ((hW.block _ (lt_of_heap m1)).trans m1)) (fun i => frozen_of_row W (w.heap.size + 1) i _ _ ((hW.block _ (lt_of_heap m1)).trans m1)))
  have hm1 := fun (W : World) (hW : Below w1.heap.size w1 W) => (hW.block _ (lt_of_heap m1)).trans m1
  have H1 := Lib.hid (And.intro hb1 (lt_of_heap m1))
  have hpl : okPl b ps = true → 1 ≤ ps.length ∧ ps.length ≤ 9 := fun h => by simp only [okPl, Bool.and_eq_true, decide_eq_true_eq] at h; exact h.1
  clear hz hI hb1 m0 m1 hz1 hI1
  unfold MadePost at hmd
  unfold MakBad MakOk fuc fu0
  unfold bkc zeF at hw1
  unfold bkc at hcf hvb hvp hmd ⊢
  unfold zeF at hcf hm1
  have HCF := Lib.hid hcf
  have HM1 := Lib.hid hm1
  obtain ⟨hc0, hc1, hf1⟩ := HCF.out w1 (Below.refl _ _)
  clear hcf hm1
  cases hv1 : okBk b
  · rw [hv1] at hvb
    have HVB := Lib.hid hvb
    clear hvb hvp hmd hpl
    go_enter Try.func15, Try.ntmps15
    go_wp2_with (go_at_call 42; (with_reducible refine (HVB.out w1 (Below.refl _ _)).mono ?_); rintro e w2 ⟨rfl, hB2⟩; obtain ⟨hd0, hd1, hg1⟩ := HCF.out w2 hB2; have H2 := Lib.hid hB2; clear hB2 hc0 hc1 hf1)
    have hcE := fun i => cell_of_row _ (w.heap.size + 1) i _ _ _ (put8_at (HM1.out w2 H2.out) (.int .i64 0) (.int .i64 0) (.int .i64 0) (.int .i64 0) (.int .i64 0) (.int .i64 0) (.int .i64 0) (.slice none 0 0))
    unfold put8 at hcE
    refine bodyPost_ret (v := .tuple #[.agg #[.int .i64 0, .int .i64 0, .int .i64 0, .int .i64 0, .int .i64 0, .int .i64 0, .int .i64 0, .slice none 0 0], .int .i64 92]) (by simp [results, Try.results15, go_sem, hcE]) rfl ⟨fun _ => ⟨rfl, ?_⟩, fun h => by simp at h, fun h => by simp at h⟩
    exact put8_below (H1.out.1.trans (H2.out.mono H1.out.1.size)) (Nat.le_succ _) _ _ _ _ _ _ _ _
  have hvp := hvp hv1
  rw [hv1] at hvb
  cases hv2 : okPl b ps
  · rw [hv2] at hvp
    have HVB := Lib.hid hvb
    have HVP := Lib.hid hvp
    clear hvb hvp hmd hpl
    go_enter Try.func15, Try.ntmps15
    go_wp2_with (first
      | (go_at_call 42; (with_reducible refine (HVB.out w1 (Below.refl _ _)).mono ?_); rintro e w2 ⟨rfl, hB2⟩; obtain ⟨hd0, hd1, hg1⟩ := HCF.out w2 hB2; have H2 := Lib.hid hB2; clear hB2 hc0 hc1 hf1)
      | (go_at_call 43; (with_reducible refine (HVP.out w2 H2.out).mono ?_); rintro e w3 ⟨rfl, hB3⟩; obtain ⟨he0, he1, hh1⟩ := HCF.out w3 (H2.out.trans (hB3.mono H2.out.size)); have H3 := Lib.hid (H2.out.trans (hB3.mono H2.out.size)); clear hB3 hd0 hd1 hg1))
    have hcE := fun i => cell_of_row _ (w.heap.size + 1) i _ _ _ (put8_at (HM1.out w3 H3.out) (.int .i64 0) (.int .i64 0) (.int .i64 0) (.int .i64 0) (.int .i64 0) (.int .i64 0) (.int .i64 0) (.slice none 0 0))
    unfold put8 at hcE
    refine bodyPost_ret (v := .tuple #[.agg #[.int .i64 0, .int .i64 0, .int .i64 0, .int .i64 0, .int .i64 0, .int .i64 0, .int .i64 0, .slice none 0 0], .int .i64 8]) (by simp [results, Try.results15, go_sem, hcE]) rfl ⟨fun h => by simp at h, fun _ _ => ⟨rfl, ?_⟩, fun _ h => by simp at h⟩
    exact put8_below (H1.out.1.trans (H3.out.mono H1.out.1.size)) (Nat.le_succ _) _ _ _ _ _ _ _ _
  · rw [hv2] at hvp
    obtain ⟨h1, h9⟩ := hpl hv2
    obtain ⟨p0, zs, hps⟩ : ∃ p0 zs, ps = p0 :: zs := by
      cases ps with
      | nil => simp at h1
      | cons p0 zs => exact ⟨p0, zs, rfl⟩
    have hmd := hmd p0 zs hps h9
    unfold mkF fuc at hmd
    unfold mkF
    dsimp only at hmd ⊢
    generalize ps[0]?.getD 0 = q0 at hmd ⊢
    have HVB := Lib.hid hvb
    have HVP := Lib.hid hvp
    have HMD := Lib.hid hmd
    clear hvb hvp hmd hpl hps
    go_enter Try.func15, Try.ntmps15
    go_wp2_with (first
      | (go_at_call 42; (with_reducible refine (HVB.out w1 (Below.refl _ _)).mono ?_); rintro e w2 ⟨rfl, hB2⟩; obtain ⟨hd0, hd1, hg1⟩ := HCF.out w2 hB2; have H2 := Lib.hid hB2; clear hB2 hc0 hc1 hf1)
      | (go_at_call 43; (with_reducible refine (HVP.out w2 H2.out).mono ?_); rintro e w3 ⟨rfl, hB3⟩; obtain ⟨he0, he1, hh1⟩ := HCF.out w3 (H2.out.trans (hB3.mono H2.out.size)); have H3 := Lib.hid (H2.out.trans (hB3.mono H2.out.size)); clear hB3 hd0 hd1 hg1)
      | (go_at_call 44; (with_reducible refine (HMD.out w3 H3.out).mono ?_); rintro e w4 ⟨Av, cv, rfl, hO, hB4⟩; obtain ⟨hi0, hi1, hj1⟩ := HCF.out w4 (H3.out.trans (hB4.mono H3.out.size)); have H4 := Lib.hid (And.intro (H3.out.trans (hB4.mono H3.out.size)) hO); clear hB4 hO he0 he1 hh1))
    have hcE := fun i => cell_of_row _ (w.heap.size + 1) i _ _ _ (put8_at (HM1.out w4 H4.out.1) (.int .i64 q0) (.int .i64 b.e0) (.int .i64 b.e1) (.int .i64 0) (.int .i64 0) (.int .i64 b.s0) (.int .i64 b.s1) (.slice Av (holL b ps).length cv))
    unfold put8 at hcE
    refine bodyPost_ret (v := .tuple #[.agg #[.int .i64 q0, .int .i64 b.e0, .int .i64 b.e1, .int .i64 0, .int .i64 0, .int .i64 b.s0, .int .i64 b.s1, .slice Av (holL b ps).length cv], .int .i64 0]) (by simp [results, Try.results15, go_sem, hcE]) rfl ⟨fun h => by simp at h, fun _ h => by simp at h, fun _ _ => ⟨Av, cv, rfl, ?_, ?_⟩⟩
    · have hlt := H1.out.2
      have hs3 := H3.out.size
      have hs1 := H1.out.1.size
      exact own_mono (put8_own H4.out.2 (b := w.heap.size + 1) (by omega) _ _ _ _ _ _ _ _) (by omega)
    · exact put8_below (H1.out.1.trans (H4.out.1.mono H1.out.1.size)) (Nat.le_succ _) _ _ _ _ _ _ _ _

end Go.Proofs.Ytjjipkgconmfcaa

namespace Go.Proofs.Ytjjipkgconmfcaa
open Go.RowKit Go.Maps

attribute [local go_sem] gives

theorem ex_t2 : tonE (exFu none) 2 = 0 ∧ tonV (exFu none) 2 = (548387, 554838) := by decide +kernel
theorem ex_t3 : tonE (exFu none) 3 = 0 ∧ tonV (exFu none) 3 = (801886, 826923) := by decide +kernel
theorem ex_t4 : tonE (exFu none) 4 = 2 ∧ tonV (exFu none) 4 = (0, 0) := by decide +kernel
theorem ex_p3 : plaE (exFu none) 1 (2, 1) = 91 ∧ plaV (exFu none) 1 (2, 1) = 0 := by decide +kernel
theorem ex_bk : okBk (exBk none) = true := by decide +kernel
theorem ex_pl1 : okPl (exBk none) [415, 325, 278] = true := by decide +kernel
theorem ex_pl2 : okPl (exBk none) [415, 376] = false := by decide +kernel
theorem ex_pl3 : okPl (exBk none) [415, 326] = false := by decide +kernel
def odOs : List (Int × Int) := [(400000, 410000), (0, 520000), (590000, 610000)]
def wrBk (A : Option Addr) : Bk := ⟨500, 10, 10, 10, 10, 340000, 340000, 0, 5, A, 1, [330]⟩
def shFu (A : Option Addr) : Fu := ⟨300, 10, 20, 5, 10, 340000, 344000, A, 2, [⟨200, 8, 12⟩, ⟨300, 10, 10⟩]⟩
def waFu (A : Option Addr) (c : Nat) : Fu := ⟨415, 10, 10, 0, 0, 340000, 340000, A, c, [⟨278, 10, 10⟩, ⟨325, 10, 10⟩]⟩
theorem ex_d1 : driE (wrBk none) exOs = 92 ∧ driL (wrBk none) exOs = [] := by decide +kernel
theorem ex_d2 : driE (exBk none) odOs = 91 ∧ driL (exBk none) odOs = [] := by decide +kernel
theorem ex_d3 : driE (exBk none) [(1, 2)] = 6 ∧ driL (exBk none) [(1, 2)] = [] := by decide +kernel
theorem ex_sh : okFu (shFu none) = false := by decide +kernel
theorem ex_mk (A A' : Option Addr) (c : Nat) : mkF (exBk A) [415, 325, 278] A' c = waFu A' c := rfl

def ScaPost2 (w : World) (e : Ending) (w' : World) : Prop := ∃ g, e = .returned (.slice (some ⟨g, 0, none⟩) 3 3) ∧ w'.heap[g]? = some (.cells (pairs exOs).toArray 25 (0, 0)) ∧ w.heap.size ≤ g ∧ Below w.heap.size w w'
theorem scale_own (w : World) : Calls Try.prog 20 #[] w (ScaPost2 w) := by
  unfold ScaPost2
  go_enter Try.func20, Try.ntmps20
  go_wp2_with (first
    | (go_at_call 17; (with_reducible show Calls _ _ #[.int .i64 400000, _] _ _); refine (span_any _ _ _).mono ?_; rintro e w1 ⟨rfl, hB1⟩; have H1 := Lib.hid hB1; clear hB1)
    | (go_at_call 17; (with_reducible show Calls _ _ #[.int .i64 500000, _] _ _); refine (span_any _ _ _).mono ?_; rintro e w2 ⟨rfl, hB2⟩; have H2 := Lib.hid (H1.out.trans (hB2.mono H1.out.size)); clear hB2)
    | (go_at_call 17; refine (span_any _ _ _).mono ?_; rintro e w3 ⟨rfl, hB3⟩; have H3 := Lib.hid (H2.out.trans (hB3.mono H2.out.size)); clear hB3))
  go_ret
  refine ⟨w3.heap.size, rfl, alloc_at0 _ _, H3.out.size, H3.out.trans ((grow1 w3 _).mono H3.out.size)⟩


def waC (v : Value) : List Value := [.int .i64 415, .int .i64 10, .int .i64 10, .int .i64 0, .int .i64 0, .int .i64 340000, .int .i64 340000, v]
/-- A flute that is put together: its holes, and its box. -/
structure ExC (w0 : World) (D : Nat → Bool) (σ : Nat → Value) (W : World) : Prop where
  bel : Below w0.heap.size w0 W
  hs : D 6 = true → ∃ g, σ 43 = .slice (some ⟨g, 0, none⟩) 2 2 ∧ W.heap[g]? = some (.cells #[.int .i64 278, .int .i64 10, .int .i64 10, .int .i64 325, .int .i64 10, .int .i64 10] 38 (0, 0))
  bx : D 8 = true → ∃ b, σ 3 = .pointer (some ⟨b, 0, none⟩) ∧ w0.heap.size ≤ b ∧ W.heap[b]? = some (.cells (if D 9 = true then waC (σ 43) else zeF).toArray 28 (0, 0))
section
open R6 (done done_ne done_me upd_ne upd_me)
variable {w0 W W' : World} {D : Nat → Bool} {σ : Nat → Value}
theorem ExC.start (hD : ∀ k, D k = false) : ExC w0 D σ w0.drew := ⟨(Below.refl _ _).drew, fun h => (by rw [hD] at h; cases h), fun h => (by rw [hD] at h; cases h)⟩
theorem ExC.next (h : ExC w0 D σ W) (hg : Grows W W') : ExC w0 D σ W' :=
  ⟨h.bel.trans (hg.mono h.bel.size), fun e => let ⟨g, a, b⟩ := h.hs e; ⟨g, a, (hg.block _ (lt_of_heap b)).trans b⟩, fun e => let ⟨c, a, x, b⟩ := h.bx e; ⟨c, a, x, (hg.block _ (lt_of_heap b)).trans b⟩⟩
theorem ExC.move (h : ExC w0 D σ W) {k d : Nat} {v : Value} (hk : (k == 6 || k == 8 || k == 9) = false) (hd : (d == 43 || d == 3) = false) : ExC w0 (done D k) (R4.upd σ (some d) v) W := by
  simp only [Bool.or_eq_false_iff, beq_eq_false_iff_ne, ne_eq] at hk hd
  have e6 := done_ne (D := D) (k := k) (j := 6) (Ne.symm hk.1.1)
  have e8 := done_ne (D := D) (k := k) (j := 8) (Ne.symm hk.1.2)
  have e9 := done_ne (D := D) (k := k) (j := 9) (Ne.symm hk.2)
  have u1 : R4.upd σ (some d) v 43 = σ 43 := upd_ne (fun e => hd.1 (Option.some.inj e))
  have u2 : R4.upd σ (some d) v 3 = σ 3 := upd_ne (fun e => hd.2 (Option.some.inj e))
  exact ⟨h.bel, by rw [e6, u1]; exact h.hs, by rw [e8, e9, u1, u2]; exact h.bx⟩
theorem ExC.built6 (h : ExC w0 D σ W) (h9 : D 9 = false) : ExC w0 (done D 6) (R4.upd σ (some 43) (.slice (some ⟨W.heap.size, 0, none⟩) 2 2)) (W.alloc (.cells #[.int .i64 278, .int .i64 10, .int .i64 10, .int .i64 325, .int .i64 10, .int .i64 10] 38)) := by
  have h2 := h.next (grow1 W (.cells #[.int .i64 278, .int .i64 10, .int .i64 10, .int .i64 325, .int .i64 10, .int .i64 10] 38))
  refine ⟨h2.bel, fun _ => ⟨_, upd_me, alloc_at0 _ _⟩, ?_⟩
  rw [dn 6 8, dn 6 9, h9, un 43 3]
  intro e
  obtain ⟨c, a, x, b⟩ := h2.bx e
  rw [h9] at b
  exact ⟨c, a, x, b⟩
theorem ExC.alloc8 (h : ExC w0 D σ W) (h9 : D 9 = false) : ExC w0 (done D 8) (R4.upd σ (some 3) (.pointer (some ⟨W.heap.size, 0, none⟩))) (W.alloc (.cells zeF.toArray 28)) := by
  have h2 := h.next (grow1 W (.cells zeF.toArray 28))
  refine ⟨h2.bel, ?_, fun _ => ⟨W.heap.size, upd_me, h.bel.size, ?_⟩⟩
  · rw [dn 8 6, un 3 43]; exact h2.hs
  · rw [dn 8 9, h9]; exact alloc_at0 _ _
theorem ExC.store9 (h : ExC w0 D σ W) (h8 : D 8 = true) {b : Nat} {cs : List Value} (hb0 : w0.heap.size ≤ b) (hb : σ 3 = .pointer (some ⟨b, 0, none⟩)) (ho : W.heap[b]? = some (.cells cs.toArray 28 (0, 0))) (hP : Put W W' b) (hM : W'.heap[b]? = some (.cells (waC (σ 43)).toArray 28 (0, 0))) : ExC w0 (done D 9) (R4.upd σ none undef) W' := by
  have e : R4.upd σ none undef = σ := by funext t; rfl
  rw [e]
  refine ⟨h.bel.trans (hP.below hb0), ?_, fun _ => ⟨b, hb, hb0, by rw [done_me, if_pos rfl]; exact hM⟩⟩
  rw [dn 9 6]
  exact fun e => let ⟨g, a, c⟩ := h.hs e; ⟨g, a, (put_hole hP ho g _ c).trans c⟩
/-- A scale that is made and asked for places. -/
structure DrC (w0 : World) (D : Nat → Bool) (σ : Nat → Value) (W : World) : Prop where
  bel : Below w0.heap.size w0 W
  sc : D 1 = true → ∃ A, σ 86 = .slice A 3 3 ∧ Vals W W.heap.size A (pairs exOs)
  dr : D 2 = true → ∃ v, σ 87 = .tuple #[v, .int .i64 92]
theorem DrC.start (hD : ∀ k, D k = false) : DrC w0 D σ w0.drew := ⟨(Below.refl _ _).drew, fun h => (by rw [hD] at h; cases h), fun h => (by rw [hD] at h; cases h)⟩
theorem DrC.next (h : DrC w0 D σ W) (hg : Grows W W') : DrC w0 D σ W' :=
  ⟨h.bel.trans (hg.mono h.bel.size), fun e => let ⟨A, a, b⟩ := h.sc e; ⟨A, a, (Vals.below b hg).mono hg.size⟩, h.dr⟩
theorem DrC.move (h : DrC w0 D σ W) {k d : Nat} {v : Value} (hk : (k == 1 || k == 2) = false) (hd : (d == 86 || d == 87) = false) : DrC w0 (done D k) (R4.upd σ (some d) v) W := by
  simp only [Bool.or_eq_false_iff, beq_eq_false_iff_ne, ne_eq] at hk hd
  have e1 := done_ne (D := D) (k := k) (j := 1) (Ne.symm hk.1)
  have e2 := done_ne (D := D) (k := k) (j := 2) (Ne.symm hk.2)
  have u1 : R4.upd σ (some d) v 86 = σ 86 := upd_ne (fun e => hd.1 (Option.some.inj e))
  have u2 : R4.upd σ (some d) v 87 = σ 87 := upd_ne (fun e => hd.2 (Option.some.inj e))
  exact ⟨h.bel, by rw [e1, u1]; exact h.sc, by rw [e2, u2]; exact h.dr⟩
theorem DrC.made1 (h : DrC w0 D σ W) (hg : Grows W W') {A : Option Addr} (hv : Vals W' W'.heap.size A (pairs exOs)) : DrC w0 (done D 1) (R4.upd σ (some 86) (.slice A 3 3)) W' := by
  have h2 := h.next hg
  exact ⟨h2.bel, fun _ => ⟨A, upd_me, hv⟩, by rw [dn 1 2, un 86 87]; exact h2.dr⟩
theorem DrC.told2 (h : DrC w0 D σ W) (hg : Grows W W') (v : Value) : DrC w0 (done D 2) (R4.upd σ (some 87) (.tuple #[v, .int .i64 92])) W' := by
  have h2 := h.next hg
  exact ⟨h2.bel, by rw [dn 2 1, un 87 86]; exact h2.sc, fun _ => ⟨v, upd_me⟩⟩
end

end Go.Proofs.Ytjjipkgconmfcaa
