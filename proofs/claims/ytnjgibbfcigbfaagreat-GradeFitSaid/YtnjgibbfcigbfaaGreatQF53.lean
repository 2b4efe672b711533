import Derived.Test.YtnjgibbfcigbfaaGreatQF52
import Derived.Test.YtnjgibbfcigbfaaGreatQF4
import Derived.Test.YtnjgibbfcigbfaaGreatQF5
set_option linter.all false
set_option maxRecDepth 100000
set_option maxHeartbeats 64000000
namespace Go.Proofs.YtnjgibbfcigbfaaGreat
open Go.RowKit
theorem zG3 (ps : List Pol) (ts : List Ts) (gs : List Gd) (vary : Int) (l : List Sk) (x y : Int) (AP : Option Addr) (cp : Nat) (AT : Option Addr) (ct : Nat) (AG : Option Addr) (cg : Nat) (AL : Option Addr) (cl : Nat) (B : Nat) (w : World) (hB : B ≤ w.heap.size)
 (hz1 : Vals w B AP (ps.flatMap pcl)) (hz2 : Vals w B AT (ts.flatMap tcl)) (hz3 : Vals w B AG (gs.flatMap gcl)) (hrv : rdyS gs vary ps ts = false) :
 Calls Tryz.prog 10 #[.agg #[.slice AP ps.length cp, .slice AT ts.length ct], .agg #[.slice AG gs.length cg, .int .i64 vary], .slice AL l.length cl, .int .u8 x, .int .u8 y] w fun e w' => e = .returned (.bool true) ∧ Grows w w' := by
 have hrd := fun (W : World) (hW : Grows w W) => zDp ps ts gs vary AP cp AT ct AG cg B W (Nat.le_trans hB hW.size) (hz1.below (hW.mono hB)) (hz2.below (hW.mono hB)) (hz3.below (hW.mono hB))
 rw [hrv] at hrd; have HRD := zzh hrd; obtain ⟨w1, hw1⟩ : ∃ w1, (w.alloc (.cells #[.slice AP ps.length cp, .slice AT ts.length ct] 25)).alloc (.cells #[.slice AG gs.length cg, .int .i64 vary] 28) = w1 := ⟨_, rfl⟩; have hb1 : Grows w w1 := by rw [← hw1]; exact grow2 _ _ _
 have m1 : w1.heap[w.heap.size]? = some (.cells [.slice AP ps.length cp, .slice AT ts.length ct].toArray 25 (0, 0)) := by rw [← hw1]; exact zAp _ _ _
 have m2 : w1.heap[w.heap.size + 1]? = some (.cells [.slice AG gs.length cg, .int .i64 vary].toArray 28 (0, 0)) := by rw [← hw1]; exact zAo _ _ _
 have H1 := zz3 hb1 m1 m2; clear hrd hrv hb1 m1 m2 hz1 hz2 hz3 hB
 go_enter Tryz.func10, Tryz.ntmps10
 go_wp2_with (first
  | (go_at_call 29; refine (HRD.out w2 H2.out.1).mono ?_; rintro e w3 ⟨rfl, hB⟩; have H3 := zz3 (H2.out.1.trans (hB.mono H2.out.1.size)) ((hB.block _ (zAa H2.out.2.1)).trans H2.out.2.1) ((hB.block _ (zAa H2.out.2.2)).trans H2.out.2.2); clear hB)
  | (refine zAh 25 (.tmp 5) rfl rfl rfl H2.out.2.1 [.slice AP ps.length cp, .slice AT ts.length ct] at0 zAs ?_)
  | (refine zAh 28 (.tmp 6) rfl rfl rfl H2.out.2.2 [.slice AG gs.length cg, .int .i64 vary] at0 zAm ?_)
  | (go_at_call 20; refine (zC3 w1).mono ?_; rintro e w2 ⟨rfl, hB⟩; have H2 := zz3 (H1.out.1.trans (hB.mono H1.out.1.size)) ((hB.block _ (zAa H1.out.2.1)).trans H1.out.2.1) ((hB.block _ (zAa H1.out.2.2)).trans H1.out.2.2); clear hB))
 go_ret
 exact ⟨rfl, H3.out.1⟩
theorem zIy (ps : List Pol) (ts : List Ts) (gs : List Gd) (vary : Int) (l : List Sk) (x y : Int) (AP : Option Addr) (cp : Nat) (AT : Option Addr) (ct : Nat) (AG : Option Addr) (cg : Nat) (AL : Option Addr) (cl : Nat) (B : Nat) (w : World) (hB : B ≤ w.heap.size)
 (hz1 : Vals w B AP (ps.flatMap pcl)) (hz2 : Vals w B AT (ts.flatMap tcl)) (hz3 : Vals w B AG (gs.flatMap gcl)) (hz4 : SksBig w B l AL) (hl : l.length ≤ 9223372036854775807) (hrv : rdyS gs vary ps ts = true) (hgv : zDw [] l = true) :
 Calls Tryz.prog 10 #[.agg #[.slice AP ps.length cp, .slice AT ts.length ct], .agg #[.slice AG gs.length cg, .int .i64 vary], .slice AL l.length cl, .int .u8 x, .int .u8 y] w fun e w' => e = .returned (.bool true) ∧ Grows w w' := by
 have hrd := fun (W : World) (hW : Grows w W) => zDp ps ts gs vary AP cp AT ct AG cg B W (Nat.le_trans hB hW.size) (hz1.below (hW.mono hB)) (hz2.below (hW.mono hB)) (hz3.below (hW.mono hB))
 rw [hrv] at hrd; have HRD := zzh hrd; have hgb := fun (W : World) (hW : Grows w W) => zD2 [] l none 0 AL cl B W (Nat.le_trans hB hW.size) ⟨fun h => by simp at h, fun x hx => by cases hx⟩ (by simp) (hz4.below (hW.mono hB)) hl
 simp only [List.length_nil] at hgb; rw [hgv] at hgb; have HGB := zzh hgb; obtain ⟨w1, hw1⟩ : ∃ w1, (w.alloc (.cells #[.slice AP ps.length cp, .slice AT ts.length ct] 25)).alloc (.cells #[.slice AG gs.length cg, .int .i64 vary] 28) = w1 := ⟨_, rfl⟩; have hb1 : Grows w w1 := by rw [← hw1]; exact grow2 _ _ _
 have m1 : w1.heap[w.heap.size]? = some (.cells [.slice AP ps.length cp, .slice AT ts.length ct].toArray 25 (0, 0)) := by rw [← hw1]; exact zAp _ _ _
 have m2 : w1.heap[w.heap.size + 1]? = some (.cells [.slice AG gs.length cg, .int .i64 vary].toArray 28 (0, 0)) := by rw [← hw1]; exact zAo _ _ _
 have H1 := zz3 hb1 m1 m2; clear hrd hgb hrv hgv hb1 m1 m2 hz1 hz2 hz3 hz4 hB
 go_enter Tryz.func10, Tryz.ntmps10
 go_wp2_with (first
  | (go_at_call 12; refine (HGB.out w3 H3.out.1).mono ?_; rintro e w4 ⟨rfl, hB⟩; have H4 := zz3 (H3.out.1.trans (hB.mono H3.out.1.size)) ((hB.block _ (zAa H3.out.2.1)).trans H3.out.2.1) ((hB.block _ (zAa H3.out.2.2)).trans H3.out.2.2); clear hB)
  | (go_at_call 29; refine (HRD.out w2 H2.out.1).mono ?_; rintro e w3 ⟨rfl, hB⟩; have H3 := zz3 (H2.out.1.trans (hB.mono H2.out.1.size)) ((hB.block _ (zAa H2.out.2.1)).trans H2.out.2.1) ((hB.block _ (zAa H2.out.2.2)).trans H2.out.2.2); clear hB)
  | (refine zAh 25 (.tmp 5) rfl rfl rfl H2.out.2.1 [.slice AP ps.length cp, .slice AT ts.length ct] at0 zAs ?_)
  | (refine zAh 28 (.tmp 6) rfl rfl rfl H2.out.2.2 [.slice AG gs.length cg, .int .i64 vary] at0 zAm ?_)
  | (go_at_call 20; refine (zC3 w1).mono ?_; rintro e w2 ⟨rfl, hB⟩; have H2 := zz3 (H1.out.1.trans (hB.mono H1.out.1.size)) ((hB.block _ (zAa H1.out.2.1)).trans H1.out.2.1) ((hB.block _ (zAa H1.out.2.2)).trans H1.out.2.2); clear hB))
 go_ret
 exact ⟨rfl, H4.out.1⟩
theorem zLs (ps : List Pol) (ts : List Ts) (gs : List Gd) (vary : Int) (l : List Sk) (x y : Int) (AP : Option Addr) (cp : Nat) (AT : Option Addr) (ct : Nat) (AG : Option Addr) (cg : Nat) (AL : Option Addr) (cl : Nat) (B : Nat) (w : World) (hB : B ≤ w.heap.size)
 (hz1 : Vals w B AP (ps.flatMap pcl)) (hz2 : Vals w B AT (ts.flatMap tcl)) (hz3 : Vals w B AG (gs.flatMap gcl)) (hz4 : SksBig w B l AL) (hl : l.length ≤ 9223372036854775807) (hx : 0 ≤ x ∧ x ≤ 255) (hy : 0 ≤ y ∧ y ≤ 255) :
 Calls Tryz.prog 10 #[.agg #[.slice AP ps.length cp, .slice AT ts.length ct], .agg #[.slice AG gs.length cg, .int .i64 vary], .slice AL l.length cl, .int .u8 x, .int .u8 y] w fun e w' => e = .returned (.bool true) ∧ Grows w w' := by
 cases hrv : rdyS gs vary ps ts
 · exact zG3 ps ts gs vary l x y AP cp AT ct AG cg AL cl B w hB hz1 hz2 hz3 hrv
 cases hgv : zDw [] l
 · obtain ⟨hs, h8⟩ := hz4.small hgv; cases hask : fitAsk gs vary ps ts l
   · exact zKf ps ts gs vary l x y AP cp AT ct AG cg AL cl B w hB hz1 hz2 hz3 hs (by omega) hrv hgv hask
   exact zL3 ps ts gs vary l x y AP cp AT ct AG cg AL cl B w hB hz1 hz2 hz3 hs hx hy (by omega) hask
 · exact zIy ps ts gs vary l x y AP cp AT ct AG cg AL cl B w hB hz1 hz2 hz3 hz4 hl hrv hgv
end Go.Proofs.YtnjgibbfcigbfaaGreat
namespace Go.Proofs.YtnjgibbfcigbfaaGreat
open Go.ChangeShapes Go.WideShapes Go.ChangeAt Go.RowKit Go.Deep
section
variable {H : Type} {enc : TypeId × Value → H} {P : Program} {w : World} {base : Nat} {spare : Nat → Bool} {held : Bool}
theorem zLt {α : Type} [Inhabited α] {f : α → List Value} {n : Nat} (hf : ∀ x, (f x).length = n) (hn : 0 < n) {t e : TypeId} (ht : P.underlying t = some (.slice e)) (hc : P.cellsOf e = n)
 {Q : α → Prop} (HO : ∀ fuel cs x, cs.length = n → DataW.trod enc P w base spare held fuel e cs = some x → ∃ y : α, cs = f y ∧ Q y) {fuel : Nat} {c : Value} {x : DataW H × List MemPlace} (h : DataW.trod enc P w base spare held fuel t [c] = some x) :
 ∃ (A : Option Addr) (l : List α) (cap : Nat), c = .slice A l.length cap ∧ l.length ≤ maxLen ∧ l.length ≤ cap ∧ Vals w w.heap.size A (l.flatMap f) ∧ ∀ y ∈ l, Q y := by
 rcases open_slice ht h with ⟨hc, _⟩ | ⟨a, len, cap, m, k, D, Pl, hcs, _, hl, hm, hmm, _, hx⟩
 · simp only [List.cons.injEq, and_true] at hc; exact ⟨none, [], 0, hc, by simp, by simp, fun h => by simp at h, fun y hy => by cases hy⟩
 simp only [List.cons.injEq, and_true] at hcs; have hle : len ≤ m := by rw [hmm]; split <;> omega
 rw [hc] at hx
 obtain ⟨g, hg⟩ : ∃ g : Nat → α, ∀ i, i < len → (∀ j v, (f (g i))[j]? = some v → w.cell? (a.add (i * n + j)) = some v) ∧ Q (g i) := by
  have key : ∀ i, i < len → ∃ y : α, (∀ j v, (f y)[j]? = some v → w.cell? (a.add (i * n + j)) = some v) ∧ Q y := fun i hi => by
   obtain ⟨cs', h1, h2⟩ := hx i (by omega)
   obtain ⟨_, hlen, hcell⟩ := World.cells?_some h1; obtain ⟨y, rfl, hQ⟩ := HO _ _ _ hlen h2; refine ⟨y, fun j v hv => ?_, hQ⟩
   have hj : j < n := by rw [← hlen]; exact (List.getElem?_eq_some_iff.1 hv).1
   have := hcell j hj; rw [add_add] at this; rw [this, hv]
  exact ⟨fun i => if h : i < len then (key i h).choose else default, fun i h => by simp only [h, dif_pos]; exact (key i h).choose_spec⟩
 have hl2 : ((List.range len).map g).length = len := by simp
 refine ⟨some a, (List.range len).map g, cap, by rw [hl2]; exact hcs, by rw [hl2]; omega, by rw [hl2]; exact hl, fun h0 => ?_, fun y hy => ?_⟩
 rotate_left
 · simp only [List.mem_map, List.mem_range] at hy; obtain ⟨i, hi', rfl⟩ := hy; exact (hg i hi').2
 have hfl := zCl hf ((List.range len).map g); rw [hl2] at hfl; rw [hfl] at h0; have hlen0 : 0 < len := Nat.pos_of_mul_pos_right h0; have hj0 : 0 < (f (g 0)).length := by rw [hf]; exact hn
 have h1 := (hg 0 hlen0).1 0 _ (List.getElem?_eq_getElem hj0); obtain ⟨b, off, spot⟩ := a
 have hs1 : spot = none := by
  have e0 : (⟨b, off, spot⟩ : Addr).add (0 * n + 0) = ⟨b, off, spot⟩ := by simp [Addr.add]
  rw [e0] at h1; exact World.cell?_spot h1
 subst hs1; rw [Addr.add_mid] at h1; refine ⟨b, off, rfl, zEg h1, fun k v hv => ?_⟩
 have hk : k < len * n := by rw [← hfl]; exact (List.getElem?_eq_some_iff.1 hv).1
 have hq : k / n < len := Nat.div_lt_of_lt_mul (by rw [Nat.mul_comm]; exact hk)
 have hr : k % n < n := Nat.mod_lt _ hn; have hke : k = k / n * n + k % n := by rw [Nat.mul_comm]; exact (Nat.div_add_mod k n).symm
 have hat := zHl hf ((List.range len).map g) (k / n) (by rw [hl2]; exact hq) (k % n) hr
 rw [← hke, hv] at hat; simp only [List.getElem_map, List.getElem_range] at hat
 have := (hg (k / n) hq).1 (k % n) v hat.symm; rw [Addr.add_mid, ← hke] at this; exact this
end
section
variable {H : Type} {enc : TypeId × Value → H} {w : World} {base : Nat} {spare : Nat → Bool} {held : Bool}
theorem zP7 : Tryz.prog.cellsOf 65 = 7 := by kernel_rfl
instance : Inhabited Sk := ⟨⟨⟨0, 0, 0, 0, 0⟩, [], none, 0, 0⟩⟩
theorem zP8 (fuel : Nat) (cs : List Value) (x : DataW H × List MemPlace) (hl : cs.length = 7) (h : DataW.trod enc Tryz.prog w base spare held fuel 65 cs = some x) :
 ∃ p : Sk, cs = skl p ∧ Rows w w.heap.size p.A p.l ∧ p.l.length ≤ 9223372036854775807 := by
 match cs, hl with
 | [c0, c1, c2, c3, c4, c5, c6], _ =>
   obtain ⟨xs, n, _, _, _, hlen, hg⟩ := DataW.trod_struct Tryz.underlying65 h; have hlen2 : xs.length = 2 := hlen; have at_ : ∀ i, i < xs.length → ∃ y, xs[i]? = some y := fun i hi => ⟨_, List.getElem?_eq_getElem hi⟩
   obtain ⟨y0, hy0⟩ := at_ 0 (by omega)
   obtain ⟨y1, hy1⟩ := at_ 1 (by omega)
   have g0 : DataW.trod enc Tryz.prog w base spare held n 63 ((List.drop 0 [c0, c1, c2, c3, c4, c5, c6]).take (Tryz.prog.cellsOf 63)) = some y0 := (hg 0 _ rfl).trans hy0; have g1 : DataW.trod enc Tryz.prog w base spare held n 3 ((List.drop 6 [c0, c1, c2, c3, c4, c5, c6]).take (Tryz.prog.cellsOf 3)) = some y1 := (hg 1 _ rfl).trans hy1; simp only [cellsI, zP6, List.drop_zero, List.drop_succ_cons, List.take_succ_cons, List.take_zero] at g0 g1; obtain ⟨hh, rfl⟩ := zBx g1; obtain ⟨zs, n2, _, _, _, hlen3, hk⟩ := DataW.trod_struct Tryz.underlying63 g0; have at2 : ∀ i, i < zs.length → ∃ y, zs[i]? = some y := fun i hi => ⟨_, List.getElem?_eq_getElem hi⟩
   have hlen5 : zs.length = 5 := hlen3; obtain ⟨z0, hz0⟩ := at2 0 (by omega)
   obtain ⟨z1, hz1⟩ := at2 1 (by omega)
   obtain ⟨z2, hz2⟩ := at2 2 (by omega)
   obtain ⟨z3, hz3⟩ := at2 3 (by omega)
   obtain ⟨z4, hz4⟩ := at2 4 (by omega)
   have k0 : DataW.trod enc Tryz.prog w base spare held n2 3 ((List.drop 0 [c0, c1, c2, c3, c4, c5]).take (Tryz.prog.cellsOf 3)) = some z0 := (hk 0 _ rfl).trans hz0; have k1 : DataW.trod enc Tryz.prog w base spare held n2 3 ((List.drop 1 [c0, c1, c2, c3, c4, c5]).take (Tryz.prog.cellsOf 3)) = some z1 := (hk 1 _ rfl).trans hz1; have k2 : DataW.trod enc Tryz.prog w base spare held n2 60 ((List.drop 2 [c0, c1, c2, c3, c4, c5]).take (Tryz.prog.cellsOf 60)) = some z2 := (hk 2 _ rfl).trans hz2; have k3 : DataW.trod enc Tryz.prog w base spare held n2 50 ((List.drop 3 [c0, c1, c2, c3, c4, c5]).take (Tryz.prog.cellsOf 50)) = some z3 := (hk 3 _ rfl).trans hz3; have k4 : DataW.trod enc Tryz.prog w base spare held n2 3 ((List.drop 5 [c0, c1, c2, c3, c4, c5]).take (Tryz.prog.cellsOf 3)) = some z4 := (hk 4 _ rfl).trans hz4; simp only [cellsI, cellsSp, zSw, List.drop_zero, List.drop_succ_cons, List.take_succ_cons, List.take_zero] at k0 k1 k2 k3 k4; obtain ⟨a, rfl⟩ := zBx k0; obtain ⟨b, rfl⟩ := zBx k1; obtain ⟨A, l, cap, rfl, hl2, hR, hZ⟩ := zKj k2; obtain ⟨lo, hi, rfl, rfl⟩ := zFz k3; obtain ⟨m, rfl⟩ := zBx k4; exact ⟨⟨⟨a, b, lo, hi, m⟩, l, A, cap, hh⟩, rfl, hR, by simp only [maxLen] at hl2; exact hl2⟩
theorem zP9 {r : Reach} {b0 : Nat} {v : Value} {d : DataW H} {p : List MemPlace} (hv : Value.okWide Tryz.prog w r b0 30 v) (h : DataW.Trod enc Tryz.prog w base spare held 30 v d p) :
 ∃ (A : Option Addr) (l : List Sk) (cap : Nat), v = .slice A l.length cap ∧ l.length ≤ 9223372036854775807 ∧ SksBig w w.heap.size l A := by
 obtain ⟨a0, len0, cap0, rfl⟩ := okWide_slice Tryz.underlying30 hv; obtain ⟨fuel, hf⟩ := h; obtain ⟨A, l, cap, he, hl, -, hV, hQ⟩ := zLt zB2 (by decide) Tryz.underlying30 zP7 (Q := fun p => Rows w w.heap.size p.A p.l ∧ p.l.length ≤ 9223372036854775807) (fun fuel cs x hl h => zP8 fuel cs x hl h) hf
 exact ⟨A, l, cap, he, by simp only [maxLen] at hl; exact hl, ⟨hV, fun x hx => (hQ x hx).1, fun x hx => (hQ x hx).2⟩⟩
end
end Go.Proofs.YtnjgibbfcigbfaaGreat
