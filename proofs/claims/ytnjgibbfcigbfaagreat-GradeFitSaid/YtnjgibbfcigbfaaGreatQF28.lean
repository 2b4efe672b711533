import Derived.Shelf.Abstract
import Derived.Test.YtnjgibbfcigbfaaGreatQF27
set_option linter.all false
set_option maxRecDepth 100000
set_option maxHeartbeats 64000000
namespace Go.Proofs.YtnjgibbfcigbfaaGreat
open Go.RowKit Go.Maps Go.Shelf
open R6 (done zAg zAj upd_ne upd_me)
attribute [local go_sem] Oper.semAt_some
attribute [local go_sem] gives
def StrF (gs : List Gd) (vary : Int) (ps : List Pol) (ts : List Ts) (i : Nat) (F : Int → Nat → Int × Int) : Prop := ∀ p ∈ ps, gOf gs p ≠ 0 → gOf gs p ≤ i → F p.id = fun k => spanT gs vary ps ts p k
def StrPost (w : World) (gs : List Gd) (vary : Int) (ps : List Pol) (ts : List Ts) (e : Ending) (w' : World) : Prop :=
 ∃ mb n F, e = .returned (.tuple #[.map (some mb), .bool (truth gs vary ps ts)]) ∧ w.heap.size ≤ mb ∧ OwnF w' mb n F ∧ StrF gs vary ps ts gs.length F ∧ Grows w w'
theorem zJg {p : Pol} (h : okPol p = true) : okSecs p = true := by
 simp only [okPol, Bool.and_eq_true] at h; exact h.2.2.2.1
theorem zU1 (g : Gd) : ∀ j v, (st6 (st0 g))[j]? = some v → (gcl g).toArray[2 + j]? = some v := fun j v hv => by
 have e : st6 (st0 g) = (gcl g).drop 2 := rfl; rw [e, List.getElem?_drop] at hv; rw [List.getElem?_toArray]; exact hv
theorem zU2 {gs : List Gd} {vary : Int} {ps : List Pol} {ts : List Ts} {l : List Pol} {k : Nat} (hk : k < l.length) : (l.take (k + 1)).all (okL gs vary ps ts) = ((l.take k).all (okL gs vary ps ts) && okL gs vary ps ts l[k]) := by
 rw [List.take_add_one, List.getElem?_eq_getElem hk, List.all_append]; simp
theorem zEj (gs : List Gd) (vary : Int) (ps : List Pol) (ts : List Ts) (AP : Option Addr) (cp : Nat) (AT : Option Addr) (nt ct : Nat) (AG : Option Addr) (cg : Nat) (A2 : Option Addr) (c2 : Nat) (B : Nat) (w : World) (hB : B ≤ w.heap.size)
 (hz : Vals w B AP (ps.flatMap pcl)) (hg : GdAt w B gs AG) (h2 : Vals w B A2 (ts.flatMap tcl)) (hl2 : ts.length ≤ 100000) (hv : 0 ≤ vary ∧ vary ≤ 200000) (hgs : gs.length ≤ 3) (hps : ps.length ≤ 12) (hup : Up ps)
 (hpo : ∀ p ∈ ps, (0 ≤ p.id ∧ p.id ≤ 9999) ∧ okPol p = true) (ht : ∀ t ∈ ts, okT t) (hok : ∀ g ∈ gs, okG2 g) :
 Calls Tryz.prog 57 #[.agg #[.slice AP ps.length cp, .slice AT nt ct, .slice AG gs.length cg, .int .i64 vary], .slice A2 ts.length c2] w (StrPost w gs vary ps ts) := by
 have hlg := hg.lg; have HZ := zz4 hz hg h2 hB; have HP := zz4 hup hpo ht hok; clear hz hg h2 hup hpo ht hok; refine (callsIn_wide (n := 4)).1 ?_; refine callsIn_of_wp_marks Tryz.func57 rfl trivial ?_ rfl; simp only [Tryz.ntmps57, List.size_toArray, List.length_cons, List.length_nil, Nat.reduceAdd, Nat.reduceSub, Array.replicate_succ, Array.replicate_zero, List.push_toArray, List.append_toArray, List.nil_append, List.cons_append]; obtain ⟨w0, hw0⟩ : ∃ w0, (((w.alloc (.cells #[.slice AP ps.length cp, .slice AT nt ct, .slice AG gs.length cg, .int .i64 vary] 119)).alloc (.cells #[.slice A2 ts.length c2] 23)).alloc (.cells #[.map none] 124)).alloc (.cells #[.bool false] 4) = w0 := ⟨_, rfl⟩; have hs0 : w0.heap.size = w.heap.size + 4 := by rw [← hw0]; simp
 have hb0 : Grows w w0 := by rw [← hw0]; exact ((grow2 _ _ _).alloc (by simp; omega) _).alloc (by simp; omega) _
 have m2 : w0.heap[w.heap.size]? = some (.cells #[.slice AP ps.length cp, .slice AT nt ct, .slice AG gs.length cg, .int .i64 vary] 119 (0, 0)) := by rw [← hw0]; exact (Below.heap_alloc _ _ _ (by simp only [World.size_alloc]; omega)).trans (zA7 _ _ _ _)
 have m3 : w0.heap[w.heap.size + 1]? = some (.cells #[.slice A2 ts.length c2] 23 (0, 0)) := by rw [← hw0]; exact (Below.heap_alloc _ _ _ (by simp only [World.size_alloc]; omega)).trans (zA8 _ _ _ _)
 have m4 : w0.heap[w.heap.size + 1 + 1]? = some (.cells [Value.map none].toArray 124 (0, 0)) := by rw [← hw0]; exact (Below.heap_alloc _ _ _ (by simp only [World.size_alloc]; omega)).trans (zA9 _ _ _ _)
 have m5 : w0.heap[w.heap.size + 1 + 1 + 1]? = some (.cells [Value.bool false].toArray 4 (0, 0)) := by
  rw [← hw0]
  have := zAd (((w.alloc (.cells #[.slice AP ps.length cp, .slice AT nt ct, .slice AG gs.length cg, .int .i64 vary] 119)).alloc (.cells #[.slice A2 ts.length c2] 23)).alloc (.cells #[.map none] 124)) (.cells #[.bool false] 4); simp only [World.size_alloc] at this; exact this
 obtain ⟨w1, hw1⟩ : ∃ w1, w0.alloc (.map #[] 0) = w1 := ⟨_, rfl⟩; have hs1 : w1.heap.size = w.heap.size + 5 := by rw [← hw1]; simp [hs0]
 have g1 : Grows w0 w1 := by rw [← hw1]; exact grow1 _ _
 have m6 : w1.heap[w.heap.size + 1 + 1 + 1 + 1]? = some (.map #[] 0) := by rw [← hw1]; have := zAd w0 (.map #[] 0); rw [hs0] at this; exact this
 have hmk : ∀ (t : TypeId), (Instr.makeMap t none).run Tryz.prog w0 = .ok (.map (some (w.heap.size + 1 + 1 + 1 + 1))) w1 := fun t => by
  have := @run_makeMap Tryz.prog; rw [← hw1]; have e : w.heap.size + 1 + 1 + 1 + 1 = w0.heap.size := by omega
  rw [e]; simp [this]
 have H1 := zzh (And.intro (hb0.trans (g1.mono hb0.size)) (And.intro ((g1.block _ (zAa m2)).trans m2) (And.intro ((g1.block _ (zAa m3)).trans m3) (And.intro ((g1.block _ (zAa m4)).trans m4) (And.intro ((g1.block _ (zAa m5)).trans m5) (And.intro m6 hs1)))))); clear hb0 m2 m3 m4 m5 m6 hs0 hs1 g1 hw1
 gi_wp2_with (first
  | (show wpListIn _ _ _ _ _ (Oper.mk none (Op.store _ (Operand.tmp 4) (Operand.tmp 11)) _ _ _ _ :: _) _ _; refine zB7 124 (.tmp 4) (.tmp 11) rfl rfl rfl rfl rfl rfl rfl (L := [.map none]) H1.out.2.2.2.1 (by simp) zOv ?_
     intro w2 hP2 hM2; have H2 := zz2 hP2 hM2; clear hP2 hM2)
  | (show wpListIn _ _ _ _ _ (Oper.mk none (Op.store _ (Operand.tmp 5) (Operand.const (Value.bool true))) _ _ _ _ :: _) _ _; refine zB7 4 (.tmp 5) (.const (.bool true)) rfl rfl rfl rfl rfl rfl rfl (L := [.bool false]) ((H2.out.1.other _ (by omega)).trans H1.out.2.2.2.2.1) (by simp) (by kernel_rfl) ?_
     intro w3 hP3 hM3
     have hS : SsC w #[.slice AP ps.length cp, .slice AT nt ct, .slice AG gs.length cg, .int .i64 vary] A2 ts.length c2 true [] (w.heap.size + 5) 0 (fun _ _ => (0, 0)) w3 := by
      have h1 := H1.out; have h2 := H2.out; have hs3 : w3.heap.size = w.heap.size + 5 := by rw [hP3.size, h2.1.size]; exact h1.2.2.2.2.2.2
      exact ⟨(h1.1.trans (h2.1.below (by omega))).trans (hP3.below (by omega)), (hP3.other _ (by omega)).trans ((h2.1.other _ (by omega)).trans h1.2.1), (hP3.other _ (by omega)).trans ((h2.1.other _ (by omega)).trans h1.2.2.1), (hP3.other _ (by omega)).trans h2.2, hM3,
       OwnF.made ((hP3.other _ (by omega)).trans ((h2.1.other _ (by omega)).trans h1.2.2.2.2.2.1)), trivial, by omega⟩
     have hc2 := fun i => cell_of_row w3 w.heap.size i _ _ _ hS.b2
     have HS := zzh hS; clear hP3 hM3 hS hmk))
 clear hc2
 refine wpIn_loop (fun a' W => ∃ (u6 u7 u8 u9 u10 u16 u17 u18 u19 u20 u21 u22 u23 u24 u25 u26 u27 u28 u29 u30 u31 u32 u33 u34 u35 u36 u37 u38 u39 u40 u41 u42 u43 u44 u45 u46 u47 u48 u49 u50 u51 u52 u53 u54 u55 u56 u57 u58 u59 u60 u61 u62 u63 u64 u65 u66 u67 u68 : Value) (ds : List Deferred), (∃ (i hi n : Nat) (F : Int → Nat → Int × Int), i ≤ gs.length ∧ u16 = .int .i64 i ∧ Hid (SsC w #[.slice AP ps.length cp, .slice AT nt ct, .slice AG gs.length cg, .int .i64 vary] A2 ts.length c2 (okI gs vary ps ts i) ds hi n F W ∧ n ≤ 24 * i ∧ StrF gs vary ps ts i F)) ∧ a' = { tmps := #[.agg #[.slice AP ps.length cp, .slice AT nt ct, .slice AG gs.length cg, .int .i64 vary], .slice A2 ts.length c2, .pointer (some ⟨w.heap.size, 0, none⟩), .pointer (some ⟨w.heap.size + 1, 0, none⟩), .pointer (some ⟨w.heap.size + 1 + 1, 0, none⟩), .pointer (some ⟨w.heap.size + 1 + 1 + 1, 0, none⟩), u6, u7, u8, u9, u10, .map (some (w.heap.size + 1 + 1 + 1 + 1)), .pointer (some ⟨w.heap.size, 2, none⟩), .pointer (some ⟨w.heap.size, 2, none⟩), .slice AG gs.length cg, .int .i64 gs.length, u16, u17, u18, u19, u20, u21, u22, u23, u24, u25, u26, u27, u28, u29, u30, u31, u32, u33, u34, u35, u36, u37, u38, u39, u40, u41, u42, u43, u44, u45, u46, u47, u48, u49, u50, u51, u52, u53, u54, u55, u56, u57, u58, u59, u60, u61, u62, u63, u64, u65, u66, u67, u68, undef, undef], defers := ds })
  (fun a' _ => gs.length - (intOf (a'.tmps.getD 16 undef)).toNat) ?_ ?_
 · (repeat apply Exists.intro)
   refine ⟨⟨0, w.heap.size + 5, 0, _, Nat.zero_le _, rfl, HS.out, Nat.le_refl _, fun p _ h1 h2 => absurd (Nat.le_zero.1 h2) h1⟩, rfl⟩
 · rintro a' wr ⟨u6, u7, u8, u9, u10, u16, u17, u18, u19, u20, u21, u22, u23, u24, u25, u26, u27, u28, u29, u30, u31, u32, u33, u34, u35, u36, u37, u38, u39, u40, u41, u42, u43, u44, u45, u46, u47, u48, u49, u50, u51, u52, u53, u54, u55, u56, u57, u58, u59, u60, u61, u62, u63, u64, u65, u66, u67, u68, ds, ⟨i, hi, n, F, hil, rfl, hR⟩, rfl⟩; clear HS H1 H2
   by_cases hlt : i < gs.length
   · have hiz : (i : Int) < gs.length := by omega
     obtain ⟨c, off, hA, hcB, hc⟩ := zAw zHm HZ.out.2.1.g (by decide) hlt
     subst hA; have hc' : ∀ j v, (gcl gs[i])[j]? = some v → wr.cell? ⟨c, off + i * 8 + j, none⟩ = some v := fun j v hv => (hR.out.1.bel.cell (p := ⟨c, off + i * 8 + j, none⟩) (by have := HZ.out.2.2.2; simp; omega)).trans (hc j v hv)
     have hokg := HP.out.2.2.2 gs[i] (List.getElem_mem hlt); have hpg := fun q hq => zIr (gs := gs) (ps := ps) hlt (q := q) hq
     have hlsp := fun q hq => zT4 (gs := gs) (vary := vary) (ps := ps) (ts := ts) hlt (q := q) hq
     have hlp := HP.out.1.peers (gs := gs) (n := i + 1); have hmp := fun q => mem_peers (gs := gs) (ps := ps) (n := i + 1) (q := q)
     have hok1 : okI gs vary ps ts (i + 1) = (okI gs vary ps ts i && (peers gs ps (i + 1)).all (okL gs vary ps ts)) := rfl; have hpl : (peers gs ps (i + 1)).length ≤ 12 := Nat.le_trans (List.length_filter_le _ _) hps; have hall : allG gs ps (i + 1) = (peers gs ps (i + 1)).map fun p => #[.agg (pcl p).toArray] := rfl
     have hseq := fun (b : Nat) (W : World) (q1 : w.heap.size ≤ b) (q2 : b + 1 < W.heap.size) (q3 : Grows w W) (q4 : W.heap[b]? = some (.cells #[.slice AP ps.length cp, .slice AT nt ct, .slice (some ⟨c, off, none⟩) gs.length cg, .int .i64 vary] 119 (0, 0))) (q5 : W.heap[b + 1]? = some (.cells #[.int .i64 ((i + 1 : Nat) : Int)] 3 (0, 0))) =>
      zVf gs vary ps AP cp AT nt ct (some ⟨c, off, none⟩) cg (i + 1) (4 - 1) w.heap.size b (by omega) W q3.size q1 q2 ((HZ.out.1.below (q3.mono HZ.out.2.2.2)).mono HZ.out.2.2.2) (by omega) ((HZ.out.2.1.below (q3.mono HZ.out.2.2.2)).mono HZ.out.2.2.2) (fun p hp => zK4 (HP.out.2.1 p hp).2) (by omega) q4 q5
     generalize hgi : gs[i] = g at hc' hokg hpg hlsp; generalize peers gs ps (i + 1) = l at *; have HCC := zzh hc'; have HL := zzh (And.intro hokg (And.intro hlsp (And.intro hlp (And.intro hmp (And.intro hok1 (And.intro hpl (And.intro hall (And.intro hpg hseq)))))))); clear hc hc' hokg hlsp hlp hmp hok1 hpl hall hpg hseq hgi hlg; have hcr := fun j => cell_of_row wr w.heap.size j _ _ _ hR.out.1.b2
     gi_wp2_with (first
      | (show wpListIn _ _ _ _ _ (Oper.mk (some 20) _ _ _ _ _ :: _) _ _; refine zCu 53 (.tmp 19) rfl rfl rfl (gcl g) HCC.out zBw ?_)
      | (show wpListIn _ _ _ _ _ (Oper.mk none (Op.store _ (Operand.tmp 7) (Operand.tmp 20)) _ _ _ _ :: _) _ _; refine zAi 53 (.tmp 7) (.tmp 20) rfl rfl rfl rfl (zAd wr _) rfl (by rw [List.all_toArray, List.all_eq_true]; exact fun v hv => zEr [g] v (by simpa using hv)) zBw ?_
         intro w5 hP5 hM5; have hb5 : Grows wr w5 := (grow1 wr _).trans (hP5.below (Nat.le_refl _)); have H5 := zz4 (hR.out.1.grows hb5) hM5 hb5 (show wr.heap.size < w5.heap.size from zAa hM5)
         clear hP5 hM5 hb5 hcr)
      | (show wpListIn _ _ _ _ _ (Oper.mk (some 22) _ _ _ _ _ :: _) _ _; refine zAq 51 (.tmp 21) rfl rfl rfl H5.out.2.1 (st6 (st0 g)) (zU1 g) zE5 ?_)
      | (show wpListIn _ _ _ _ _ (Oper.mk none (Op.store _ (Operand.tmp 8) (Operand.tmp 22)) _ _ _ _ :: _) _ _; refine zAi 128 (.tmp 8) (.tmp 22) rfl rfl rfl rfl (zAd w5 _) rfl (by rw [List.all_toArray, List.all_eq_true]; exact zF4 _) zBu ?_
         intro w6 hP6 hM6; have hb6 : Grows w5 w6 := (grow1 w5 _).trans (hP6.below (Nat.le_refl _)); have H6 := zz4 (H5.out.1.grows hb6) ((hb6.block _ (zAa H5.out.2.1)).trans H5.out.2.1) hM6 (show w5.heap.size < w6.heap.size from zAa hM6)
         clear hP6 hM6 hb6)
      | (show wpListIn _ _ _ _ _ (Oper.mk (some 23) _ _ _ _ _ :: _) _ _; refine zAq 119 (.tmp 2) rfl rfl rfl H6.out.1.b2 [.slice AP ps.length cp, .slice AT nt ct, .slice (some ⟨c, off, none⟩) gs.length cg, .int .i64 vary] at0 zA4 ?_)
      | (refine ⟨trivial, ?_⟩
         gi_at_call 95
         refine (callsIn_wide.2 (zF0 _ _ _ _ rfl _ w6)).mono ?_; rintro e w7 ⟨rfl, hw7⟩; have H7 := zzh hw7; clear hw7))
     have hs7 : w7.heap.size = w6.heap.size + 2 := by rw [H7.out]; simp
     have hb7 : Grows w6 w7 := by rw [H7.out]; exact grow2 _ _ _
     have hc0 : w7.heap[w6.heap.size]? = some (.cells #[.slice AP ps.length cp, .slice AT nt ct, .slice (some ⟨c, off, none⟩) gs.length cg, .int .i64 vary] 119 (0, 0)) := by rw [H7.out]; exact zAp _ _ _
     have hc1 : w7.heap[w6.heap.size + 1]? = some (.cells #[.int .i64 ((i + 1 : Nat) : Int)] 3 (0, 0)) := by rw [H7.out]; exact zAo _ _ _
     have hS7 := H6.out.1.grows hb7; have hq1 := HL.out.2.2.2.2.2.2.2.2 w6.heap.size w7 H6.out.1.bel.size (by omega) hS7.bel hc0 hc1
     have hw67 : w6.heap.size ≤ w7.heap.size := hb7.size; have hszz := H6.out.1.hiw; have hsz5 := H5.out.1.hiw; have hszr := hR.out.1.hiw; have hw56 := H6.out.2.2.2; have hwr5 := H5.out.2.2.2; have hmb : w.heap.size + 5 ≤ wr.heap.size := by omega
     refine zIq (q := 9) rfl (by omega) (gf := 137) (lb := #[.pointer (some ⟨w6.heap.size, 0, none⟩), .pointer (some ⟨w6.heap.size + 1, 0, none⟩)]) rfl trivial (enters_of Tryz.func137 (by kernel_rfl) rfl) hq1 (Below.refl _ _) (by omega) (fun k hk => by unfold capG at hk; omega)
      (fun k => .agg (pcl (l[k]?.getD pol0)).toArray) (fun k => .cells (pcl (l[k]?.getD pol0)).toArray 56 (0, 0)) (fun k r hr => ?hrow)
      (fun j => j = w.heap.size + 1 + 1 + 1 + 1 ∨ j = w5.heap.size) (fun k hk => ⟨by omega, fun h => by unfold capG at h; omega, by omega⟩)
      (fun k A => ∃ F', SsC w #[.slice AP ps.length cp, .slice AT nt ct, .slice (some ⟨c, off, none⟩) gs.length cg, .int .i64 vary] A2 ts.length c2 (okI gs vary ps ts i) ds hi (24 * i + k) F' A ∧ A.heap[wr.heap.size]? = some (.cells (gcl g).toArray 53 (0, 0)) ∧ A.heap[w5.heap.size]? = some (.cells (st6 fun s => nearG g vary ts (l.take k) s).toArray 128 (0, 0)) ∧ StrF gs vary ps ts i F' ∧ ∀ (j : Nat) (hj : j < l.length), j < k → F' l[j].id = fun s => own l[j] g ts s)
      (fun k A B' hI hb => ?hI) ?start ?assign ?body ?done
     case hrow =>
      rw [HL.out.2.2.2.2.2.2.1, List.getElem?_map] at hr; obtain ⟨q, hq, rfl⟩ := Option.map_eq_some_iff.1 hr; rw [hq]
      rfl
     case hI =>
      obtain ⟨F', i1, i2, i3, i4, i5⟩ := hI; exact ⟨F', i1.below hb (by omega), (hb.block _ (by omega)).trans i2, (hb.block _ (by omega)).trans i3, i4, i5⟩
     case start =>
      exact ⟨F, hS7.up (Nat.le_refl _) hS7.hiw.2 (by have := hR.out.2.1; omega), (hb7.block _ (zAa H6.out.2.1)).trans H6.out.2.1, (hb7.block _ (zAa H6.out.2.2.1)).trans H6.out.2.2.1, hR.out.2.2, fun j _ h => by omega⟩
     case assign =>
      intro L k W K hk hI hK; simp only [zza, zzb, zzc] at hK ⊢; generalize l[k]?.getD pol0 = q at hK ⊢; have HK := zzh hK; clear hK hI hq1 hS7 hc0 hc1 hs7 hb7 hszz hsz5 hszr hw56 hwr5 hmb
      gi_wp2_with
       (show wpListIn _ _ _ _ _ (Oper.mk none (Op.store _ (Operand.tmp 9) (Operand.tmp 27)) _ _ _ _ :: _) _ _
        refine zAi 56 (.tmp 9) (.tmp 27) rfl rfl rfl rfl (zAd W _) rfl (by rw [List.all_toArray, List.all_eq_true]; exact fun v hv => zBd [q] v (by simpa using hv)) zAl ?_
        intro w8 hP8 hM8; have H8 := zz2 ((grow1 W _).trans (hP8.below (Nat.le_refl _))) hM8; clear hP8 hM8)
      exact HK.out _ _ H8.out.1 (Nat.le_refl _) H8.out.2
     case body =>
      rintro L k b b' W hk hwb hbb hbW ⟨F', i1, i2, i3, i4, i5⟩ hbx; simp only [zza, zzb, zzc]; rw [HL.out.2.2.2.2.2.2.1, List.length_map] at hk; have hqq : l[k]?.getD pol0 = l[k] := by simp [hk]
      rw [hqq] at hbx ⊢; have hmem := List.getElem_mem hk; have hstep := zQr g vary ts l k hk; have hne : ∀ (j : Nat) (hj : j < l.length), j ≠ k → l[j].id ≠ l[k].id := fun j hj e => HL.out.2.2.1.ne hj hk e
      have hqp := HP.out.2.1 l[k] ((HL.out.2.2.2.1 l[k]).1 hmem).1; have hqg := ((HL.out.2.2.2.1 l[k]).1 hmem).2
      have hup1 : ∀ p ∈ ps, gOf gs p ≤ i → p.id ≠ l[k].id := fun p hp h e => by
       have := HP.out.1.inj hp ((HL.out.2.2.2.1 l[k]).1 hmem).1 e; rw [this] at h; omega
      have hlen12 := HL.out.2.2.2.2.2.1
      have hown : (∀ (j : Nat) (hj : j < l.length), j < k + 1 → updI F' l[k].id (fun s => own l[k] g ts s) l[j].id = fun s => own l[j] g ts s) := fun j hj hjk => by
       unfold updI
       by_cases e : j = k
       · subst e; rw [if_pos rfl]
       · rw [if_neg (hne j hj e)]; exact i5 j hj (by omega)
      have hstr : StrF gs vary ps ts i (updI F' l[k].id (fun s => own l[k] g ts s)) := fun p hp h1 h2 => by
       unfold updI; rw [if_neg (hup1 p hp h2)]; exact i4 p hp h1 h2
      generalize l[k] = q at hbx hstep hqp hqg hown hstr ⊢; have hte := fun (W' : World) (h : Grows W W') => zL7 q g ts A2 c2 B W' (Nat.le_trans HZ.out.2.2.2 (Nat.le_trans i1.bel.size h.size)) (HZ.out.2.2.1.below ((i1.bel.trans (h.mono i1.bel.size)).mono HZ.out.2.2.2)) hl2 (zJg hqp.2) HP.out.2.2.1 HL.out.1.g
      have hsm : smallF (fun s => own q g ts s) := fun s hs => by
       have := zMg (k := s) (zJg hqp.2) HP.out.2.2.1 (HL.out.1 s hs).1 (HL.out.1 s hs).2
       dsimp only
       omega
      have hid : idOk q.id := by have := hqp.1; unfold idOk; omega
      have HW := zzh (And.intro i1 (And.intro i2 (And.intro i3 (And.intro hbx (And.intro hstep (And.intro hown (And.intro hstr (And.intro hte (And.intro hsm hid))))))))); have hk12 : k < 12 := by omega
      have hbW' : b' < W.heap.size := zAa hbx; clear i1 i2 i3 i4 i5 hbx hstep hown hstr hte hsm hid hne hup1 hqg hmem hqq hlen12 hq1 hS7 hc0 hc1 hs7 hb7
      gi_wp2_with fail
      refine wpIn_walk (C := OnceC W 7 (fun W2 => ∃ W1, Grows W W1 ∧ OwnF W2 (w.heap.size + 1 + 1 + 1 + 1) (24 * i + k + 1) (updI F' q.id (fun s => own q g ts s)) ∧ W1.grownBy W2 (some (w.heap.size + 1 + 1 + 1 + 1)))) 71 (by kernel_rfl) (by kernel_rfl) (by kernel_rfl) rfl ⟨fun _ => (Below.refl _ _).drew, (fun e => by cases e)⟩ ?_
      simp only []
      repeat (first
       | (refine' R6.WalkR.det (fun _ => rfl) (fun D ρ W1 hK hC => ?_) ?_
          rotate_left
          · have hp := hC.pre (hK.post 7 (by decide +kernel))
            have f4 : W1.cell? ⟨w.heap.size + 1 + 1, 0, none⟩ = some (.map (some (w.heap.size + 1 + 1 + 1 + 1))) := cell_of_row W1 _ 0 _ _ _ ((hp.block _ (zAa HW.out.1.b4)).trans HW.out.1.b4); have f9 : W1.cell? ⟨b', 0, none⟩ = some (.int .i64 q.id) := cell_of_row W1 _ 0 _ _ _ ((hp.block _ (zAa HW.out.2.2.2.1)).trans HW.out.2.2.2.1); have HC := zzh hC; clear hC hK hp; go_simp; with_reducible exact ⟨rfl, HC.out.move (by decide)⟩
          simp only [Act.put, zza, zzb, zzc]))
      refine' R6.WalkR.det (fun _ => rfl) (fun D ρ W1 hK hC => ?_) ?_
      rotate_left
      · have hp := hC.pre (hK.post 7 (by decide +kernel))
        exact zAk 56 (.tmp 9) rfl rfl ((hp.block _ (zAa HW.out.2.2.2.1)).trans HW.out.2.2.2.1) (pcl q) at0 zAl ⟨rfl, hC.move (by decide)⟩
      simp only [Act.put, zza, zzb, zzc]; refine' R6.WalkR.det (fun _ => rfl) (fun D ρ W1 hK hC => ?_) ?_
      rotate_left
      · have hp := hC.pre (hK.post 7 (by decide +kernel))
        exact zAk 53 (.tmp 7) rfl rfl ((hp.block _ (zAa HW.out.2.1)).trans HW.out.2.1) (gcl g) at0 zBw ⟨rfl, hC.move (by decide)⟩
      simp only [Act.put, zza, zzb, zzc]
      repeat (first
       | (refine' R6.WalkR.det (fun _ => rfl) (fun D ρ W1 hK hC => ?_) ?_
          rotate_left
          · have h7 := hK.post 7 (by decide +kernel)
            have hp := hC.pre h7; have f3 : W1.cell? ⟨w.heap.size + 1, 0, none⟩ = some (.slice A2 ts.length c2) := cell_of_row W1 _ 0 _ _ _ ((hp.block _ (zAa HW.out.1.b3)).trans HW.out.1.b3); have HC := zzh hC; have HPP := zz2 hp h7; clear hC hK hp h7; go_simp
            first
             | with_reducible exact ⟨rfl, HC.out.move (by decide)⟩
             | (go_at_call 96; refine (HW.out.2.2.2.2.2.2.2.1 W1 HPP.out.1).mono ?_; rintro e W2 ⟨rfl, hB2⟩; exact ⟨_, rfl, rfl, HC.out.next HPP.out.2 hB2 (by decide)⟩)
          simp only [Act.put, zza, zzb, zzc]))
      refine' R6.WalkR.det (c := undef) (fun _ => rfl) (fun D ρ W1 hK hC => ?_) ?_
      · have hp := hC.pre hK.me; refine zJs (.tmp 28) (.tmp 30) (.tmp 34) rfl rfl (HW.out.1.map.block (hp.block _ HW.out.1.map.lt)) (by simp only [maxLen]; omega) HW.out.2.2.2.2.2.2.2.2.2 rfl (f := fun s => own q g ts s) rfl ?_
        intro w' hO' hg'; exact ⟨rfl, OnceC.fire ⟨_, hp, hO', hg'⟩⟩
      simp only [Act.put, zza, zzb, zzc]; refine R6.WalkR.nil (fun D ρ W2 hD hC => ?_)
      obtain ⟨W1, hp1, hO1, hg1⟩ := hC.post (hD 7 (by omega))
      have hmne : ∀ {x : Nat}, w.heap.size + 5 ≤ x → some x ≠ some (w.heap.size + 1 + 1 + 1 + 1) := fun {x} h e => by simp only [Option.some.injEq] at e; omega
      have q2 := (hg1.block wr.heap.size (by have := hp1.size; have := zAa HW.out.2.1; omega) (hmne (by omega))).trans ((hp1.block _ (zAa HW.out.2.1)).trans HW.out.2.1)
      have q3 := (hg1.block w5.heap.size (by have := hp1.size; have := zAa HW.out.2.2.1; omega) (hmne (by omega))).trans ((hp1.block _ (zAa HW.out.2.2.1)).trans HW.out.2.2.1)
      have q4 := (hg1.block b' (by have := hp1.size; omega) (hmne (by omega))).trans ((hp1.block _ (zAa HW.out.2.2.2.1)).trans HW.out.2.2.2.1)
      have q1 := (HW.out.1.grows hp1).keep hg1 hO1; have qk : KeepsX (fun j => (j = w.heap.size + 1 + 1 + 1 + 1 ∨ j = w5.heap.size) ∨ b ≤ j) W W2 := (zDa hp1).trans (zGy hg1 (.inl (.inl rfl)))
      have H2 := zz5 q1 q2 q3 q4 qk; clear hC hD hp1 hO1 hg1 q1 q2 q3 q4 qk
      gi_wp2_with fail
      refine wpIn_walk (C := OnceC W2 10 (fun W4 => ∃ W3, Grows W2 W3 ∧ Put W3 W4 w5.heap.size ∧ W4.heap[w5.heap.size]? = some (.cells (st6 fun s => nearG g vary ts (l.take (k + 1)) s).toArray 128 (0, 0)))) 71 (by kernel_rfl) (by kernel_rfl) (by kernel_rfl) rfl ⟨fun _ => (Below.refl _ _).drew, (fun e => by cases e)⟩ ?_
      simp only []; refine' R6.WalkR.det (fun _ => rfl) (fun D ρ W1 hK hC => ?_) ?_
      rotate_left
      · have hp := hC.pre (hK.post 10 (by decide +kernel))
        exact zAk 128 (.tmp 8) rfl rfl ((hp.block _ (zAa H2.out.2.2.1)).trans H2.out.2.2.1) (st6 fun s => nearG g vary ts (l.take k) s) at0 zBu ⟨rfl, hC.move (by decide)⟩
      simp only [Act.put, zza, zzb, zzc]
      repeat (first
       | (refine' R6.WalkR.det (fun _ => rfl) (fun D ρ W1 hK hC => ?_) ?_
          rotate_left
          · have hp := hC.pre (hK.post 10 (by decide +kernel))
            have f4 : W1.cell? ⟨w.heap.size + 1 + 1, 0, none⟩ = some (.map (some (w.heap.size + 1 + 1 + 1 + 1))) := cell_of_row W1 _ 0 _ _ _ ((hp.block _ (zAa H2.out.1.b4)).trans H2.out.1.b4); have f9 : W1.cell? ⟨b', 0, none⟩ = some (.int .i64 q.id) := cell_of_row W1 _ 0 _ _ _ ((hp.block _ (zAa H2.out.2.2.2.1)).trans H2.out.2.2.2.1); have HC := zzh hC; clear hC hK hp; go_simp; with_reducible exact ⟨rfl, HC.out.move (by decide)⟩
          simp only [Act.put, zza, zzb, zzc]))
      refine' R6.WalkR.det (c := .agg (st6 fun s => own q g ts s).toArray) (fun _ => rfl) (fun D ρ W1 hK hC => ?_) ?_
      · have hp := hC.pre (hK.post 10 (by decide +kernel))
        refine zEh (.tmp 36) (.tmp 38) rfl rfl (H2.out.1.map.block (hp.block _ H2.out.1.map.lt)) HW.out.2.2.2.2.2.2.2.2.2 rfl ⟨?_, hC.move (by decide)⟩
        unfold stv6 updI; rw [if_pos rfl]
      simp only [Act.put, zza, zzb, zzc]
      repeat (first
       | (refine' R6.WalkR.det (fun _ => rfl) (fun D ρ W1 hK hC => ?_) ?_
          rotate_left
          · have h7 := hK.post 10 (by decide +kernel)
            have hp := hC.pre h7; have f2 : W1.cell? ⟨w.heap.size, 3, none⟩ = some (.int .i64 vary) := cell_of_row W1 _ 3 _ _ _ ((hp.block _ (zAa H2.out.1.b2)).trans H2.out.1.b2); have HC := zzh hC; have H7' := zzh h7; clear hC hK hp h7; go_simp
            first
             | with_reducible exact ⟨rfl, HC.out.move (by decide)⟩
             | (go_at_call 97; refine (zJl (fun s => nearG g vary ts (l.take k) s) (fun s => wid1 vary (own q g ts s)) W1).mono ?_; rintro e W2' ⟨rfl, hB2⟩; exact ⟨_, rfl, rfl, HC.out.next H7'.out hB2 (by decide)⟩)
             | (go_at_call 98; refine (zNo (fun s => own q g ts s) vary HW.out.2.2.2.2.2.2.2.2.1 hv W1).mono ?_; rintro e W2' ⟨rfl, hB2⟩; exact ⟨_, rfl, rfl, HC.out.next H7'.out hB2 (by decide)⟩)
          simp only [Act.put, zza, zzb, zzc]))
      refine' R6.WalkR.det (c := undef) (fun _ => rfl) (fun D ρ W1 hK hC => ?_) ?_
      · have hp := hC.pre hK.me; refine zBs 128 (.tmp 8) (.tmp 44) (cs := st6 fun s => cut1 (nearG g vary ts (l.take k) s) (wid1 vary (own q g ts s))) rfl rfl rfl ((hp.block _ (zAa H2.out.2.2.1)).trans H2.out.2.2.1) (Nat.le_of_ble_eq_true rfl) (zF4 _) zBu ?_
        intro W' hP hM'; rw [zAe (by rfl), ← HW.out.2.2.2.2.1] at hM'
        exact ⟨rfl, OnceC.fire ⟨_, hp, hP, hM'⟩⟩
      simp only [Act.put, zza, zzb, zzc]; refine R6.WalkR.nil (fun D ρ W4 hD hC => ?_)
      obtain ⟨W3, hp3, hP4, hM4⟩ := hC.post (hD 10 (by omega))
      have q3' := (hp3.block _ (zAa H2.out.2.2.1)).trans H2.out.2.2.1; have e1 := (H2.out.1.grows hp3).put hP4 (by omega) q3'
      have e2 := (hP4.other wr.heap.size (by omega)).trans ((hp3.block _ (zAa H2.out.2.1)).trans H2.out.2.1)
      have ek := (H2.out.2.2.2.2.trans (zDa hp3)).trans (hP4.keepsX (fun j => (j = w.heap.size + 1 + 1 + 1 + 1 ∨ j = w5.heap.size) ∨ b ≤ j) (.inl (.inr rfl)))
      have H4 := zz4 e1 e2 hM4 ek; clear hC hD hp3 hP4 hM4 q3' e1 e2 ek
      gi_wp2_with fail
      exact ⟨H4.out.2.2.2, _, H4.out.1, H4.out.2.1, H4.out.2.2.1, HW.out.2.2.2.2.2.2.1, HW.out.2.2.2.2.2.1⟩
     case done =>
      rintro D Wd hD ⟨F1, i1, i2, i3, i4, i5⟩ hDm; have hall : (allG gs ps (i + 1)).length = l.length := by rw [HL.out.2.2.2.2.2.2.1, List.length_map]
      rw [hall] at i1 i3 i5; rw [List.take_length] at i3; have hown : ∀ (j : Nat) (hj : j < l.length), F1 l[j].id = fun s => own l[j] g ts s := fun j hj => i5 j hj hj
      have hDw : D < Wd.heap.size := zAa hDm; have iS := i1.push (D := D) (by omega) hDm
      have HD := zz5 iS i2 i3 i4 hown; clear i1 i2 i3 i4 i5 iS hown hall hDm hq1 hS7 hc0 hc1 hs7 hb7
      gi_wp2_with (first
       | (show wpListIn _ _ _ _ _ (Oper.mk (some 45) _ _ _ _ _ :: _) _ _; refine zAq 119 (.tmp 2) rfl rfl rfl HD.out.1.b2 [.slice AP ps.length cp, .slice AT nt ct, .slice (some ⟨c, off, none⟩) gs.length cg, .int .i64 vary] at0 zA4 ?_)
       | (refine ⟨trivial, ?_⟩
          gi_at_call 95
          refine (callsIn_wide.2 (zF0 _ _ _ _ rfl _ Wd)).mono ?_; rintro e w8 ⟨rfl, hw8⟩; have H8 := zzh hw8; clear hw8))
      have hs8 : w8.heap.size = Wd.heap.size + 2 := by rw [H8.out]; simp
      have hb8 : Grows Wd w8 := by rw [H8.out]; exact grow2 _ _ _
      have hc0 : w8.heap[Wd.heap.size]? = some (.cells #[.slice AP ps.length cp, .slice AT nt ct, .slice (some ⟨c, off, none⟩) gs.length cg, .int .i64 vary] 119 (0, 0)) := by rw [H8.out]; exact zAp _ _ _
      have hc1 : w8.heap[Wd.heap.size + 1]? = some (.cells #[.int .i64 ((i + 1 : Nat) : Int)] 3 (0, 0)) := by rw [H8.out]; exact zAo _ _ _
      have hS8 := HD.out.1.grows hb8; have hw78 : Wd.heap.size ≤ w8.heap.size := hb8.size; have hiwd := HD.out.1.hiw; have hq2 := HL.out.2.2.2.2.2.2.2.2 Wd.heap.size w8 HD.out.1.bel.size (by omega) hS8.bel hc0 hc1
      have hw5d : w5.heap.size < Wd.heap.size := zAa HD.out.2.2.1
      refine zIq (q := 10) rfl (by omega) (gf := 137) (lb := #[.pointer (some ⟨Wd.heap.size, 0, none⟩), .pointer (some ⟨Wd.heap.size + 1, 0, none⟩)]) rfl trivial (enters_of Tryz.func137 (by kernel_rfl) rfl) hq2 (Below.refl _ _) (by omega) (fun k hk => by unfold capG at hk; omega)
       (fun k => .agg (pcl (l[k]?.getD pol0)).toArray) (fun k => .cells (pcl (l[k]?.getD pol0)).toArray 56 (0, 0)) (fun k r hr => ?hrow2)
       (fun j => j = w.heap.size + 1 + 1 + 1 + 1 ∨ j = w.heap.size + 1 + 1 + 1) (fun k hk => ⟨by omega, fun h => by unfold capG at h; omega, by omega⟩)
       (fun k A => ∃ F', SsC w #[.slice AP ps.length cp, .slice AT nt ct, .slice (some ⟨c, off, none⟩) gs.length cg, .int .i64 vary] A2 ts.length c2 (okI gs vary ps ts i && (l.take k).all (okL gs vary ps ts)) ({ target := .collected D, args := #[] } :: ds) (D + 1) (24 * i + 12 + k) F' A ∧ A.heap[w5.heap.size]? = some (.cells (st6 fun s => nearG g vary ts l s).toArray 128 (0, 0)) ∧ StrF gs vary ps ts i F' ∧ ∀ (j : Nat) (hj : j < l.length), F' l[j].id = if j < k then (fun s => leftG g vary ts l s l[j]) else fun s => own l[j] g ts s)
       (fun k A B' hI hb => ?hI2) ?start2 ?assign2 ?body2 ?done2
      case hrow2 =>
       rw [HL.out.2.2.2.2.2.2.1, List.getElem?_map] at hr; obtain ⟨q, hq, rfl⟩ := Option.map_eq_some_iff.1 hr; rw [hq]
       rfl
      case hI2 =>
       obtain ⟨F', i1, i3, i4, i5⟩ := hI; exact ⟨F', i1.below hb (by omega), (hb.block _ (by omega)).trans i3, i4, i5⟩
      case start2 =>
       refine ⟨F1, ?_, (hb8.block _ hw5d).trans HD.out.2.2.1, HD.out.2.2.2.1, fun j hj => by rw [if_neg (by omega)]; exact HD.out.2.2.2.2 j hj⟩
       have e : (okI gs vary ps ts i && (l.take 0).all (okL gs vary ps ts)) = okI gs vary ps ts i := by simp
       rw [e]; exact hS8.up (Nat.le_refl _) hS8.hiw.2 (by have := HL.out.2.2.2.2.2.1; omega)
      case assign2 =>
       intro L k W K hk hI hK; simp only [zza, zzb, zzc] at hK ⊢; generalize l[k]?.getD pol0 = q at hK ⊢; have HK := zzh hK; clear hK hI hq2 hS8 hc0 hc1 hs8 hb8 hszz hsz5 hszr hw56 hwr5 hmb hw78 hiwd hw5d
       gi_wp2_with
        (show wpListIn _ _ _ _ _ (Oper.mk none (Op.store _ (Operand.tmp 10) (Operand.tmp 49)) _ _ _ _ :: _) _ _
         refine zAi 56 (.tmp 10) (.tmp 49) rfl rfl rfl rfl (zAd W _) rfl (by rw [List.all_toArray, List.all_eq_true]; exact fun v hv => zBd [q] v (by simpa using hv)) zAl ?_
         intro w9 hP9 hM9; have H9 := zz2 ((grow1 W _).trans (hP9.below (Nat.le_refl _))) hM9; clear hP9 hM9)
       exact HK.out _ _ H9.out.1 (Nat.le_refl _) H9.out.2
      case body2 =>
       rintro L k b b' W hk hwb hbb hbW ⟨F', i1, i3, i4, i5⟩ hbx; simp only [zza, zzb, zzc]; rw [HL.out.2.2.2.2.2.2.1, List.length_map] at hk; have hqq : l[k]?.getD pol0 = l[k] := by simp [hk]
       rw [hqq] at hbx ⊢; have hmem := List.getElem_mem hk; have hne : ∀ (j : Nat) (hj : j < l.length), j ≠ k → l[j].id ≠ l[k].id := fun j hj e => HL.out.2.2.1.ne hj hk e
       have hqp := HP.out.2.1 l[k] ((HL.out.2.2.2.1 l[k]).1 hmem).1; have hqg := ((HL.out.2.2.2.1 l[k]).1 hmem).2
       have hup1 : ∀ p ∈ ps, gOf gs p ≤ i → p.id ≠ l[k].id := fun p hp h e => by
        have := HP.out.1.inj hp ((HL.out.2.2.2.1 l[k]).1 hmem).1 e; rw [this] at h; omega
       have hnow : F' l[k].id = fun s => own l[k] g ts s := by rw [i5 k hk, if_neg (by omega)]
       have hnew : ∀ (j : Nat) (hj : j < l.length), updI F' l[k].id (fun s => leftG g vary ts l s l[k]) l[j].id = if j < k + 1 then (fun s => leftG g vary ts l s l[j]) else fun s => own l[j] g ts s := fun j hj => by
        unfold updI
        by_cases e : j = k
        · subst e; rw [if_pos rfl, if_pos (by omega)]
        · rw [if_neg (hne j hj e), i5 j hj]
          by_cases e2 : j < k
          · rw [if_pos e2, if_pos (by omega)]
          · rw [if_neg e2, if_neg (by omega)]
       have hstr : StrF gs vary ps ts i (updI F' l[k].id (fun s => leftG g vary ts l s l[k])) := fun p hp h1 h2 => by
        unfold updI; rw [if_neg (hup1 p hp h2)]; exact i4 p hp h1 h2
       have hal := zU2 (gs := gs) (vary := vary) (ps := ps) (ts := ts) hk
       have hokl : okL gs vary ps ts l[k] = (List.range 3).all fun s => decide ((leftG g vary ts l s l[k]).1 ≤ (leftG g vary ts l s l[k]).2) := by
        have := HL.out.2.1 l[k] hmem; unfold okL
        congr 1
        funext s
        rw [congrFun this s]
       generalize l[k] = q at hbx hqp hqg hnow hnew hstr hal hokl ⊢; have hid : idOk q.id := by have := hqp.1; unfold idOk; omega
       have HW := zzh (And.intro i1 (And.intro i3 (And.intro hbx (And.intro hnow (And.intro hnew (And.intro hstr (And.intro hal (And.intro hokl hid)))))))); have hlen12 := HL.out.2.2.2.2.2.1; have hk12 : k < 12 := by omega
       have hbW' : b' < W.heap.size := zAa hbx; clear i1 i3 i4 i5 hbx hnow hnew hstr hal hokl hid hne hup1 hqg hmem hqq hlen12 hq2 hS8 hc0 hc1 hs8 hb8
       gi_wp2_with fail
       refine wpIn_walk (C := OnceC W 9 (fun W2 => ∃ W1, Grows W W1 ∧ OwnF W2 (w.heap.size + 1 + 1 + 1 + 1) (24 * i + 12 + k + 1) (updI F' q.id (fun s => leftG g vary ts l s q)) ∧ W1.grownBy W2 (some (w.heap.size + 1 + 1 + 1 + 1)))) 71 (by kernel_rfl) (by kernel_rfl) (by kernel_rfl) rfl ⟨fun _ => (Below.refl _ _).drew, (fun e => by cases e)⟩ ?_
       simp only []
       repeat (first
        | (refine' R6.WalkR.det (fun _ => rfl) (fun D' ρ W1 hK hC => ?_) ?_
           rotate_left
           · have hp := hC.pre (hK.post 9 (by decide +kernel))
             have f4 : W1.cell? ⟨w.heap.size + 1 + 1, 0, none⟩ = some (.map (some (w.heap.size + 1 + 1 + 1 + 1))) := cell_of_row W1 _ 0 _ _ _ ((hp.block _ (zAa HW.out.1.b4)).trans HW.out.1.b4); have f9 : W1.cell? ⟨b', 0, none⟩ = some (.int .i64 q.id) := cell_of_row W1 _ 0 _ _ _ ((hp.block _ (zAa HW.out.2.2.1)).trans HW.out.2.2.1); have HC := zzh hC; clear hC hK hp; go_simp; with_reducible exact ⟨rfl, HC.out.move (by decide)⟩
           simp only [Act.put, zza, zzb, zzc]))
       refine' R6.WalkR.det (c := .agg (st6 fun s => own q g ts s).toArray) (fun _ => rfl) (fun D' ρ W1 hK hC => ?_) ?_
       · have hp := hC.pre (hK.post 9 (by decide +kernel))
         refine zEh (.tmp 53) (.tmp 55) rfl rfl (HW.out.1.map.block (hp.block _ HW.out.1.map.lt)) HW.out.2.2.2.2.2.2.2.2 rfl ⟨?_, hC.move (by decide)⟩
         unfold stv6; rw [HW.out.2.2.2.1]
       simp only [Act.put, zza, zzb, zzc]; refine' R6.WalkR.det (fun _ => rfl) (fun D' ρ W1 hK hC => ?_) ?_
       rotate_left
       · have hp := hC.pre (hK.post 9 (by decide +kernel))
         exact zAk 128 (.tmp 8) rfl rfl ((hp.block _ (zAa HW.out.2.1)).trans HW.out.2.1) (st6 fun s => nearG g vary ts l s) at0 zBu ⟨rfl, hC.move (by decide)⟩
       simp only [Act.put, zza, zzb, zzc]; refine' R6.WalkR.det (fun _ => rfl) (fun D' ρ W1 hK hC => ?_) ?_
       rotate_left
       · have h7 := hK.post 9 (by decide +kernel)
         have HC := zzh hC; have H7' := zzh h7; clear hC hK h7; go_simp; go_at_call 97; refine (zJl (fun s => own q g ts s) (fun s => nearG g vary ts l s) W1).mono ?_
         rintro e W2' ⟨rfl, hB2⟩; exact ⟨_, rfl, rfl, HC.out.next H7'.out hB2 (by decide)⟩
       simp only [Act.put, zza, zzb, zzc]; refine' R6.WalkR.det (c := undef) (fun _ => rfl) (fun D' ρ W1 hK hC => ?_) ?_
       · have hp := hC.pre hK.me; refine zJs (.tmp 50) (.tmp 52) (.tmp 58) rfl rfl (HW.out.1.map.block (hp.block _ HW.out.1.map.lt)) (by simp only [maxLen]; omega) HW.out.2.2.2.2.2.2.2.2 rfl (f := fun s => leftG g vary ts l s q) rfl ?_
         intro w' hO' hg'; exact ⟨rfl, OnceC.fire ⟨_, hp, hO', hg'⟩⟩
       simp only [Act.put, zza, zzb, zzc]; refine R6.WalkR.nil (fun D' ρ W2 hD' hC => ?_)
       obtain ⟨W1, hp1, hO1, hg1⟩ := hC.post (hD' 9 (by omega))
       have hmne : ∀ {x : Nat}, w.heap.size + 5 ≤ x → some x ≠ some (w.heap.size + 1 + 1 + 1 + 1) := fun {x} h e => by simp only [Option.some.injEq] at e; omega
       have q3 := (hg1.block w5.heap.size (by have := hp1.size; have := zAa HW.out.2.1; omega) (hmne (by omega))).trans ((hp1.block _ (zAa HW.out.2.1)).trans HW.out.2.1)
       have q4 := (hg1.block b' (by have := hp1.size; omega) (hmne (by omega))).trans ((hp1.block _ (zAa HW.out.2.2.1)).trans HW.out.2.2.1)
       have q1 := (HW.out.1.grows hp1).keep hg1 hO1; have qk : KeepsX (fun j => (j = w.heap.size + 1 + 1 + 1 + 1 ∨ j = w.heap.size + 1 + 1 + 1) ∨ b ≤ j) W W2 := (zDa hp1).trans (zGy hg1 (.inl (.inl rfl)))
       have H2 := zz4 q1 q3 q4 qk; have f5 : W2.cell? ⟨w.heap.size + 1 + 1 + 1, 0, none⟩ = some (.bool (okI gs vary ps ts i && (l.take k).all (okL gs vary ps ts))) := cell_of_row W2 _ 0 _ _ _ q1.b5; have f4 : W2.cell? ⟨w.heap.size + 1 + 1, 0, none⟩ = some (.map (some (w.heap.size + 1 + 1 + 1 + 1))) := cell_of_row W2 _ 0 _ _ _ q1.b4; have f9 : W2.cell? ⟨b', 0, none⟩ = some (.int .i64 q.id) := cell_of_row W2 _ 0 _ _ _ q4; have hno := fun W' => zO1 (fun s => leftG g vary ts l s q) W'
       have hal := HW.out.2.2.2.2.2.2.1; rw [HW.out.2.2.2.2.2.2.2.1] at hal; have hal2 : (okI gs vary ps ts i && (l.take (k + 1)).all (okL gs vary ps ts)) = ((okI gs vary ps ts i && (l.take k).all (okL gs vary ps ts)) && (List.range 3).all fun s => decide ((leftG g vary ts l s q).1 ≤ (leftG g vary ts l s q).2)) := by rw [hal, Bool.and_assoc]
       generalize hAK : (okI gs vary ps ts i && (l.take k).all (okL gs vary ps ts)) = ak at f5 hal2; generalize ((List.range 3).all fun s => decide ((leftG g vary ts l s q).1 ≤ (leftG g vary ts l s q).2)) = vk at hno hal2
       have HAL := zz2 hal2 hAK; have HNO := zzh hno; clear hC hD' hp1 hO1 hg1 q1 q3 q4 qk hal hal2 hno hAK
       rename_i hKx
       refine hKx _ _ ?_; clear hKx; cases ak
       · gi_wp2_with (first
          | (show wpListIn _ _ _ _ _ (Oper.mk none (Op.store _ (Operand.tmp 5) (Operand.tmp 67)) _ _ _ _ :: _) _ _; refine zB7 4 (.tmp 5) (.tmp 67) rfl rfl rfl rfl rfl rfl rfl (L := [.bool _]) H2.out.1.b5 (by simp) (by kernel_rfl) ?_
             intro w9 hP9 hM9; have e1 := H2.out.1.put5 hP9 hM9; have H9 := zz3 e1 ((hP9.other _ (by omega)).trans H2.out.2.1) (H2.out.2.2.2.trans (hP9.keepsX _ (.inl (.inr rfl))))
             clear hP9 hM9 e1)
          | (refine ⟨trivial, ?_⟩))
         exact ⟨H9.out.2.2, _, by rw [HAL.out.1]; exact H9.out.1, H9.out.2.1, HW.out.2.2.2.2.2.1, HW.out.2.2.2.2.1⟩
       · gi_wp2_with (first
          | (show wpListIn _ _ _ _ _ (Oper.mk (some 64) _ _ _ _ _ :: _) _ _; refine zI3 (R := fun v w' => v = .agg (st6 fun s => leftG g vary ts l s q).toArray ∧ W2 = w') rfl (fun c h => by cases h) (zEh (.tmp 61) (.tmp 63) rfl rfl H2.out.1.map HW.out.2.2.2.2.2.2.2.2 rfl ⟨by unfold stv6 updI; rw [if_pos rfl], rfl⟩) ?_
             rintro _ _ ⟨rfl, rfl⟩)
          | fail)
         refine ⟨trivial, ?_⟩; refine zJi (HNO.out W2) ?_; rintro e w8' ⟨rfl, hB8⟩; have e1 := H2.out.1.grows hB8; have f58 := e1.b5; have HB8 := zz3 e1 ((hB8.block _ (zAa H2.out.2.1)).trans H2.out.2.1) (H2.out.2.2.2.trans (zDa hB8)); clear hB8 e1 f58
         gi_wp2_with (first
          | (show wpListIn _ _ _ _ _ (Oper.mk none (Op.store _ (Operand.tmp 5) (Operand.tmp 67)) _ _ _ _ :: _) _ _; refine zB7 4 (.tmp 5) (.tmp 67) rfl rfl rfl rfl rfl rfl rfl (L := [.bool _]) HB8.out.1.b5 (by simp) (by kernel_rfl) ?_
             intro w9 hP9 hM9; have e1 := HB8.out.1.put5 hP9 hM9; have H9 := zz3 e1 ((hP9.other _ (by omega)).trans HB8.out.2.1) (HB8.out.2.2.trans (hP9.keepsX _ (.inl (.inr rfl))))
             clear hP9 hM9 e1))
         exact ⟨H9.out.2.2, _, by rw [HAL.out.1]; have := H9.out.1; simp only [Bool.not_not, Bool.true_and] at this ⊢; exact this, H9.out.2.1, HW.out.2.2.2.2.2.1, HW.out.2.2.2.2.1⟩
      case done2 =>
       rintro D2 We hD2 ⟨F2, i1, i3, i4, i5⟩ hDm; have hall : (allG gs ps (i + 1)).length = l.length := by rw [HL.out.2.2.2.2.2.2.1, List.length_map]
       rw [hall] at i1 i5; rw [List.take_length, ← HL.out.2.2.2.2.1] at i1; have iS := i1.push (D := D2) (by omega) hDm
       have hstr : StrF gs vary ps ts (i + 1) F2 := fun p hp h1 h2 => by
        by_cases e : gOf gs p ≤ i
        · exact i4 p hp h1 e
        · obtain ⟨j, hj, rfl⟩ := List.mem_iff_getElem.1 ((HL.out.2.2.2.1 p).2 ⟨hp, by omega⟩)
          rw [i5 j hj, if_pos hj]; exact HL.out.2.1 _ (List.getElem_mem hj)
       have hln := HL.out.2.2.2.2.2.1; have HE := zz2 (iS.up (m := 24 * (i + 1)) (Nat.le_refl _) iS.hiw.2 (by omega)) hstr
       clear i1 i3 i4 i5 iS hstr hall hDm hq2 hS8 hc0 hc1 hs8 hb8 hln
       gi_wp2_with fail
       subst hD; refine ⟨?_, ?_⟩
       · (repeat apply Exists.intro)
         refine ⟨⟨i + 1, D2 + 1, 24 * (i + 1), F2, by omega, by go_num, HE.out.1, Nat.le_refl _, HE.out.2⟩, rfl⟩
       · simp [intOf] <;> omega
   · have hie : i = gs.length := by omega
     have hiz : ¬ (i : Int) < gs.length := by omega
     have HI := zzh hie; clear hie
     gi_wp2_with fail
     refine wpIn_wide.2 ?_; refine R6.wp_walk (C := fun _ _ W => SsC w #[.slice AP ps.length cp, .slice AT nt ct, .slice AG gs.length cg, .int .i64 vary] A2 ts.length c2 (okI gs vary ps ts i) ds hi n F W) 71 (by kernel_rfl) (by kernel_rfl) rfl (hR.out.1.below (Below.refl hi wr).drew (Nat.le_refl _)) ?_
     simp only []
     repeat (first
      | (refine' R6.WalkR.det (fun _ => rfl) (fun D ρ W1 hK hC => ?_) ?_
         rotate_left
         · have f4 : W1.cell? ⟨w.heap.size + 1 + 1, 0, none⟩ = some (.map (some (w.heap.size + 1 + 1 + 1 + 1))) := cell_of_row W1 _ 0 _ _ _ hC.b4; have f5 : W1.cell? ⟨w.heap.size + 1 + 1 + 1, 0, none⟩ = some (.bool (okI gs vary ps ts i)) := cell_of_row W1 _ 0 _ _ _ hC.b5; have HC := zzh hC; clear hC hK; go_simp; with_reducible exact ⟨rfl, HC.out⟩
         simp only [Act.put, zza, zzb, zzc]))
     refine' R6.WalkR.det (c := undef) (fun _ => rfl) (fun D ρ W1 hK hC => ?_) ?_
     · refine zC2 124 (.tmp 4) (.tmp 69) rfl rfl (v := .map (some (w.heap.size + 1 + 1 + 1 + 1))) rfl rfl rfl hC.b4 (by simp) zOv (fun W' hP hM => ⟨rfl, hC.put4 hP hM⟩)
     simp only [Act.put, zza, zzb, zzc]; refine' R6.WalkR.det (c := undef) (fun _ => rfl) (fun D ρ W1 hK hC => ?_) ?_
     · refine zC2 4 (.tmp 5) (.tmp 70) rfl rfl (v := .bool (okI gs vary ps ts i)) rfl rfl rfl hC.b5 (by simp) (by kernel_rfl) (fun W' hP hM => ⟨rfl, hC.put5 hP hM⟩)
     simp only [Act.put, zza, zzb, zzc]; refine R6.WalkR.nil (fun D ρ W2 hD hC => ?_)
     have HS2 := zzh hC; clear hC hD
     gi_wp2_with fail
     refine zIp ds W2 HS2.out.coll (fun w' hw' => ?_)
     have hSf := HS2.out; have f4 : w'.cell? ⟨w.heap.size + 1 + 1, 0, none⟩ = some (.map (some (w.heap.size + 1 + 1 + 1 + 1))) := cell_of_row w' _ 0 _ _ _ ((hw'.block _ (by omega)).trans hSf.b4)
     have f5 : w'.cell? ⟨w.heap.size + 1 + 1 + 1, 0, none⟩ = some (.bool (okI gs vary ps ts i)) := cell_of_row w' _ 0 _ _ _ ((hw'.block _ (by omega)).trans hSf.b5)
     refine ⟨.tuple #[.map (some (w.heap.size + 1 + 1 + 1 + 1)), .bool (okI gs vary ps ts i)], by simp [results, Tryz.results57, go_sem, f4, f5], _, n, F, ?_, by omega, hSf.map.block (hw'.block _ (by omega)), ?_, hSf.bel.trans (zEi hw' (by omega))⟩
     · rw [HI.out, zT3 hv.1]
     · rw [← HI.out]; exact hR.out.2.2
end Go.Proofs.YtnjgibbfcigbfaaGreat
