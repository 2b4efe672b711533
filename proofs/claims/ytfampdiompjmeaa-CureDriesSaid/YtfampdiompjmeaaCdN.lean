/-
  The law CureDries.
-/
import Derived.Test.YtfampdiompjmeaaCdM
namespace Go.Proofs.Ytfampdiompjmeaa
open Go.RowKit

attribute [local go_sem] gives

/-- What lies where the law walks. -/
structure LA (w : World) (d : Dr) (p : Po) (zs : List Int) (Y : Option Addr) (W : World) : Prop where
  bel : Below w.heap.size w W
  bd : W.heap[w.heap.size]? = some (.cells (dcells d) 41 (0, 0))
  bp : W.heap[w.heap.size + 1]? = some (.cells (pcells p) 46 (0, 0))
  mine : Ints W W.heap.size Y zs
theorem LA.next {w W W' : World} {d : Dr} {p : Po} {zs : List Int} {Y : Option Addr} (h : LA w d p zs Y W) (hB : Below W.heap.size W W') : LA w d p zs Y W' :=
  ⟨h.bel.trans (hB.mono h.bel.size), (hB.block _ (lt_of_heap h.bd)).trans h.bd, (hB.block _ (lt_of_heap h.bp)).trans h.bp, (h.mine.below hB).mono hB.size⟩
theorem LA.cd {w W : World} {d : Dr} {p : Po} {zs : List Int} {Y : Option Addr} (h : LA w d p zs Y W) : ∀ i, W.cell? ⟨w.heap.size, i, none⟩ = #[Value.int .i64 d.wl, .int .i64 d.wh, .int .i64 d.ll, .int .i64 d.lh, .int .i64 d.most][i]? := fun i => cell_of_row W w.heap.size i _ _ _ h.bd
theorem LA.cp {w W : World} {d : Dr} {p : Po} {zs : List Int} {Y : Option Addr} (h : LA w d p zs Y W) : ∀ i, W.cell? ⟨w.heap.size + 1, i, none⟩ = #[Value.int .i64 p.ol, .int .i64 p.oh, .int .i64 p.lim][i]? := fun i => cell_of_row W (w.heap.size + 1) i _ _ _ h.bp

theorem infoInt : (Try.prog.info? 3).map (fun i => (i.zero, i.size, i.bytes)) = some (some (.int .i64 0), 1, 8) := by kernel_rfl

theorem levsV_len (p : Po) (zs : List Int) : (levsV p zs).length ≤ zs.length := by
  unfold levsV
  split
  · rw [levL_len]; exact Nat.le_refl _
  · simp

set_option maxRecDepth 100000 in
set_option maxHeartbeats 4000000 in
theorem cureDries_law (d : Dr) (p : Po) (zs : List Int) (A : Option Addr) (cap : Nat) (w : World) (hz : Ints w w.heap.size A zs) (hl : zs.length ≤ 9223372036854775807) :
    Calls Try.prog 6 #[.agg (dcells d), .agg (pcells p), .slice A zs.length cap] w fun e w' => e = .returned (.bool true) ∧ Below w.heap.size w w' := by
  by_cases h60 : 60 < zs.length
  · have hk : (60 : Int) < zs.length := by omega
    have hb : Below w.heap.size w ((w.alloc (.cells (dcells d) 41)).alloc (.cells (pcells p) 46)) := ((Below.refl _ _).alloc (Nat.le_refl _) _).alloc (by simp) _
    unfold dcells pcells at hb ⊢
    have HB := Lib.hid hb
    clear hb hz
    go_enter Try.func6, Try.ntmps6
    go_wp2
    go_ret
    exact ⟨rfl, HB.out⟩
  have hk : ¬ (60 : Int) < zs.length := by omega
  obtain ⟨i0, hi, hz0, hz1, hz2⟩ := info_parts infoInt
  have HI := Lib.hid (And.intro hi (And.intro hz0 (And.intro hz1 hz2)))
  have hll := levsV_len p zs
  have c1 := fun W => dry_any d W
  have c2 := fun W => refDry_any d W
  have c3 := fun Y c W (h : Ints W W.heap.size Y zs) => levels_any p zs Y c W.heap.size W (Nat.le_refl _) h (by omega)
  have c4 := fun W (h : Below w.heap.size w W) => refLevels_any p zs A cap w.heap.size W h.size (hz.below h) (by omega)
  have c5 := fun Y c Y' c' W (h : Vals W W.heap.size Y (pairs (levsV p zs))) (h' : Vals W W.heap.size Y' (pairs (levsV p zs))) => sameSpans_any Y Y' c c' (levsV p zs) (levsV p zs) W.heap.size W h h' (by omega) (by omega)
  have c6 := fun Y c W (h : Ints W W.heap.size Y zs) (h' : Below w.heap.size w W) => sameInts_any Y A c cap zs zs W.heap.size W h ((hz.below h').mono h'.size) (by omega) (by omega)
  unfold LevsPost at c3 c4
  simp only [decide_true] at c5 c6
  generalize levsV p zs = L at c3 c4 c5 hll
  generalize dryV d = V1 at c1 c2
  generalize dryE d = V2 at c1 c2
  generalize levsF p zs = V3 at c3 c4
  generalize levsE p zs = V4 at c3 c4
  unfold dcells at c1 c2
  unfold pcells at c3 c4
  have HC := Lib.hid (And.intro c1 (And.intro c2 (And.intro c3 (And.intro c4 (And.intro c5 c6)))))
  have HZ := Lib.hid hz
  have hst : ∀ (W : World) (Y : Option Addr), Below (w.heap.size + 2) ((w.alloc (.cells (dcells d) 41)).alloc (.cells (pcells p) 46)) W → Ints W W.heap.size Y zs → LA w d p zs Y W := fun W Y hB hI =>
    ⟨(((Below.refl w.heap.size w).alloc (Nat.le_refl _) _).alloc (by simp) _).trans (hB.mono (by omega)), (hB.block _ (by omega)).trans (alloc2_at0 w _ _), (hB.block _ (by omega)).trans (alloc2_at1 w _ _), hI⟩
  unfold dcells pcells at hst ⊢
  have HST := Lib.hid hst
  clear c1 c2 c3 c4 c5 c6 hz hi hz0 hz1 hz2 hst hll
  go_enter Try.func6, Try.ntmps6
  go_wp2_with (first
    | (go_at_call 35; refine (HC.out.2.2.2.2.2 _ _ w6 H6.out.1.mine H6.out.1.bel).mono ?_; rintro e w7 ⟨rfl, hB7⟩
       have H7 := Lib.hid (H6.out.1.next hB7)
       clear hB7)
    | (go_at_call 34; refine (HC.out.2.2.2.2.1 _ _ _ _ w5 H5.out.2.1 H5.out.2.2).mono ?_; rintro e w6 ⟨rfl, hB6⟩
       have H6 := Lib.hid (And.intro (H5.out.1.next hB6) trivial)
       clear hB6)
    | (go_at_call 33; refine (HC.out.2.2.2.1 w4 H4.out.1.bel).mono ?_; rintro e w5 ⟨X5, c5, rfl, hV5, hB5⟩
       have H5 := Lib.hid (And.intro (H4.out.1.next hB5) (And.intro ((H4.out.2.below hB5).mono hB5.size) hV5))
       clear hB5 hV5 hcp4)
    | (go_at_call 22; refine (HC.out.2.2.1 _ _ w3 H3.out.mine).mono ?_; rintro e w4 ⟨X4, c4, rfl, hV4, hB4⟩
       have hcp4 := (H3.out.next hB4).cp
       have H4 := Lib.hid (And.intro (H3.out.next hB4) hV4)
       clear hB4 hV4 hcp3)
    | (go_at_call 32; refine (HC.out.2.1 w2).mono ?_; rintro e w3 ⟨rfl, hB3⟩
       have hcp3 := (H2.out.next hB3).cp
       have H3 := Lib.hid (H2.out.next hB3)
       clear hB3 hcd2)
    | (go_at_call 20; refine (HC.out.1 w1).mono ?_; rintro e w2 ⟨rfl, hB2⟩
       have hcd2 := (H1.out.next hB2).cd
       have H2 := Lib.hid (H1.out.next hB2)
       clear hB2 hcd1)
    | (at_builtin
       refine wpl_clone (by rfl) (.tmp 21) (.tmp 22) _ (by rfl) (w.heap.size + 1 + 1) 3 i0 _ 1 8 Try.underlying47 HI.out.1 HI.out.2.1 HI.out.2.2.1 HI.out.2.2.2 rfl (by omega) _ (by rfl) (alloc3_at2 _ _ _ _) (Nat.le_refl _)
         w.heap.size A zs.length cap (ints zs) (by rfl) (HZ.out.vals.below ((((Below.refl w.heap.size w).alloc (Nat.le_refl _) _).alloc (by simp) _).alloc (by simp; omega) _)) (by simp [ints]) (oneCells_ints _) (by simp only [maxLen]; omega) (by omega) ?_
       intro y1 z1 w1 hown hgrow hat hy1 hy1s
       have hB1 := Below.ofGrown ((Below.refl (w.heap.size + 1 + 1) ((w.alloc (.cells #[.int .i64 d.wl, .int .i64 d.wh, .int .i64 d.ll, .int .i64 d.lh, .int .i64 d.most] 41)).alloc (.cells #[.int .i64 p.ol, .int .i64 p.oh, .int .i64 p.lim] 46))).alloc (by simp) _) hgrow (by simp) (Nat.le_refl _)
       have h1 := HST.out w1 (some ⟨y1, 0, none⟩) hB1 (Vals.own hown).ints
       have hcd1 := h1.cd
       have H1 := Lib.hid h1
       clear hown hgrow hat hB1 h1 hy1 hy1s))
  go_ret
  exact ⟨rfl, H7.out.bel⟩

end Go.Proofs.Ytfampdiompjmeaa
