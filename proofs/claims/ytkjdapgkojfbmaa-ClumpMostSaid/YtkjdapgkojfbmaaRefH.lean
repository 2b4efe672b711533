/-
  The reference's Check, has and at.
-/
import Derived.Test.YtkjdapgkojfbmaaRefG
import Derived.Deep.RegionHeld3
import Derived.Deep.DrawnRows
namespace Go.Proofs.Ytkjdapgkojfbmaa
open Go.RowKit

theorem refGrove_any (g : Gr) (A1 : Option Addr) (c1 : Nat) (A2 : Option Addr) (c2 : Nat) (B : Nat) (w : World) (hB : B ≤ w.heap.size) (hG : GrAt w B g A1 c1 A2 c2) :
    Calls Try.prog 39 #[grv g A1 c1 A2 c2] w fun e w' => e = .returned (.bool (okGrove g)) ∧ Below w.heap.size w w' := by
  rcases Bool.eq_false_or_eq_true (okPre g) with hp | hp
  · have e : okGrove g = (okStart g && seasOk g.hab.ripe.toNat g.start g.seas) := by simp [okGrove, hp]
    rw [e]
    exact refGrove_start g A1 c1 A2 c2 B w hB hG hp
  · have e : okGrove g = false := by simp [okGrove, hp]
    rw [e]
    exact refGrove_pre g A1 c1 A2 c2 B w hG hp

/-- The error of a look. -/
def errG (g : Gr) : Int := if okGrove g = true then 0 else 10

theorem box_cells {w w' : World} {A : Obj} {cs : Array Value} {t : TypeId} (hA : A = .cells cs t) (hB : Below (w.alloc A).heap.size (w.alloc A) w') : ∀ i, w'.cell? ⟨w.heap.size, i, none⟩ = cs[i]? := fun i => by
  subst hA
  exact (hB.cell (p := ⟨w.heap.size, i, none⟩) (by simp)).trans (cell_of_row _ w.heap.size i _ _ _ (alloc_at0 w _))

set_option maxHeartbeats 1000000 in
theorem refCheck_any (g : Gr) (A1 : Option Addr) (c1 : Nat) (A2 : Option Addr) (c2 : Nat) (B : Nat) (w : World) (hB : B ≤ w.heap.size) (hG : GrAt w B g A1 c1 A2 c2) :
    Calls Try.prog 19 #[grv g A1 c1 A2 c2] w fun e w' => e = .returned (.int .i64 (errG g)) ∧ Below w.heap.size w w' := by
  have H := refGrove_any g A1 c1 A2 c2 B (w.alloc (.cells #[.int .i64 g.id, .int .i64 g.hab.lo, .int .i64 g.hab.hi, .int .i64 g.hab.bears, .int .i64 g.hab.ripe, .int .i64 g.hab.dies, .int .i64 g.hab.keep, .int .i64 g.first, .slice A1 g.start.length c1, .slice A2 g.seas.length c2] 29))
    (by simp; omega) (hG.below ((Below.refl _ _).alloc hB _))
  have HH := Lib.hid H
  clear H hG
  unfold errG
  rcases Bool.eq_false_or_eq_true (okGrove g) with hp | hp
  all_goals
    rw [hp] at HH ⊢
    rw [show grv g A1 c1 A2 c2 = .agg #[.int .i64 g.id, .int .i64 g.hab.lo, .int .i64 g.hab.hi, .int .i64 g.hab.bears, .int .i64 g.hab.ripe, .int .i64 g.hab.dies, .int .i64 g.hab.keep, .int .i64 g.first, .slice A1 g.start.length c1, .slice A2 g.seas.length c2] from rfl]
    clear hp
    go_enter Try.func19, Try.ntmps19
    go_wp2_with (go_at_call 39; refine HH.out.mono ?_; rintro e w1 ⟨rfl, hB1⟩; have HB := Lib.hid hB1; clear hB1)
    go_ret
    exact ⟨rfl, ((Below.refl _ _).alloc (Nat.le_refl _) _).trans (HB.out.mono (by simp))⟩

/-- Whether a year is one of a book. -/
def hasY (g : Gr) (y : Int) : Bool := inR y g.first (g.first + g.seas.length)

set_option maxHeartbeats 1000000 in
theorem refHas_any (g : Gr) (y : Int) (A1 : Option Addr) (c1 : Nat) (A2 : Option Addr) (c2 : Nat) (w : World) (f0 : 0 ≤ g.first) (f1 : g.first ≤ 3000) (l60 : g.seas.length ≤ 60) :
    Calls Try.prog 40 #[grv g A1 c1 A2 c2, .int .i64 y] w fun e w' => e = .returned (.bool (hasY g y)) ∧ Below w.heap.size w w' := by
  unfold grv
  go_enter Try.func40, Try.ntmps40
  go_wp2_with (go_at_call 54; refine (refWithin_any _ _ _ _).mono ?_; rintro e w' ⟨rfl, rfl⟩)
  go_ret
  exact ⟨rfl, (Below.refl _ _).alloc (Nat.le_refl _) _⟩

/-- What was cut in the last of m seasons. -/
def goneAt (g : Gr) : Nat → List Int
  | 0 => List.replicate g.start.length 0
  | m + 1 => goneL (runL g.start (g.seas.take m)) (g.seas[m]?.getD (0, 0)).1 (g.seas[m]?.getD (0, 0)).2

theorem seasOk_all {r : Nat} : ∀ {ss : List (Int × Int)} {l : List Int}, seasOk r l ss = true → ∀ k, k < ss.length →
    inR (ss[k]?.getD (0, 0)).1 0 30 = true ∧ inR (ss[k]?.getD (0, 0)).2 0 30 = true ∧ yearOk r (runL l (ss.take k)) (ss[k]?.getD (0, 0)).1 (ss[k]?.getD (0, 0)).2 = true := by
  intro ss
  induction ss with
  | nil => intro l _ k hk; simp at hk
  | cons p ss ih =>
    intro l h k hk
    simp only [seasOk, Bool.and_eq_true] at h
    cases k with
    | zero => simpa [runL] using ⟨h.1.1.1, h.1.1.2, h.1.2⟩
    | succ k =>
      have := ih h.2 k (by simpa using hk)
      simpa [runL] using this

/-- What is known of a valid grove's seasons. -/
structure Runs (g : Gr) (d r : Nat) : Prop where
  pre : Pre g d r
  b9 : Bnd 0 9 g.start
  yr : ∀ k, k < g.seas.length → (0 ≤ (g.seas[k]?.getD (0, 0)).1 ∧ (g.seas[k]?.getD (0, 0)).1 ≤ 30) ∧ (0 ≤ (g.seas[k]?.getD (0, 0)).2 ∧ (g.seas[k]?.getD (0, 0)).2 ≤ 30) ∧
    yearOk r (runL g.start (g.seas.take k)) (g.seas[k]?.getD (0, 0)).1 (g.seas[k]?.getD (0, 0)).2 = true

theorem okGrove_runs {g : Gr} (h : okGrove g = true) : ∃ d r, Runs g d r := by
  simp only [okGrove, Bool.and_eq_true] at h
  obtain ⟨d, r, P⟩ := okPre_pre h.1.1
  refine ⟨d, r, P, okStart_at h.1.2, fun k hk => ?_⟩
  have := seasOk_all h.2 k hk
  rw [P.hr, Int.toNat_natCast] at this
  exact ⟨inR_iff.1 this.1, inR_iff.1 this.2.1, this.2.2⟩

theorem runL_len (l : List Int) (ss : List (Int × Int)) : (runL l ss).length = l.length := by
  induction ss generalizing l with
  | nil => rfl
  | cons p ss ih => simp only [runL, List.foldl_cons] at ih ⊢; rw [ih, yearL_len]

theorem Runs.bnd {g : Gr} {d r : Nat} (R : Runs g d r) : ∀ k, k ≤ g.seas.length → Bnd 0 30 (runL g.start (g.seas.take k)) := by
  intro k
  induction k with
  | zero => intro _ j hj; have := R.b9 j (by simpa [runL] using hj); simp only [runL, List.take_zero, List.foldl_nil]; omega
  | succ k ih =>
    intro hk
    have h1 := ih (by omega)
    have h2 := R.yr k (by omega)
    rw [runL_succ _ _ _ (by omega)]
    exact yearL_bnd h1 (by rw [runL_len, R.pre.ls]; omega) h2.1.1 h2.1.2 h2.2.1.1 h2.2.1.2

theorem drew_size (w : World) : w.drew.heap.size = w.heap.size := rfl

def AtPost (w : World) (g : Gr) (m : Nat) (e : Ending) (w' : World) : Prop :=
  ∃ g1 c1 g2 c2, e = .returned (.tuple #[.slice (some ⟨g1, 0, none⟩) g.start.length c1, .slice (some ⟨g2, 0, none⟩) g.start.length c2]) ∧ w.heap.size ≤ g1 ∧ w.heap.size ≤ g2 ∧ g.start.length ≤ c1 ∧ g.start.length ≤ c2 ∧
    Ints w' w'.heap.size (some ⟨g1, 0, none⟩) (runL g.start (g.seas.take m)) ∧ Ints w' w'.heap.size (some ⟨g2, 0, none⟩) (goneAt g m) ∧ (∀ k, w'.frozen? ⟨g1, k, none⟩ = false) ∧ Below w.heap.size w w'

set_option maxHeartbeats 2000000 in
theorem refAt_any (g : Gr) (m : Nat) (A1 : Option Addr) (c1 : Nat) (A2 : Option Addr) (c2 : Nat) (B : Nat) (w : World) (hB : B ≤ w.heap.size) (hG : GrAt w B g A1 c1 A2 c2) (hok : okGrove g = true) (hm : m ≤ g.seas.length) :
    Calls Try.prog 41 #[grv g A1 c1 A2 c2, .int .i64 (g.first + m)] w (AtPost w g m) := by
  obtain ⟨i0, hi, hz0, hz1, hz2⟩ := info_parts Try.info3
  have hp : okPre g = true := by simp only [okGrove, Bool.and_eq_true] at hok; exact hok.1.1
  obtain ⟨d, r, R⟩ := okGrove_runs hok
  have hmk := fun W => run_make_ints (P := Try.prog) 26 3 i0 Try.underlying26 hi hz0 hz1 hz2 g.start.length (by have := R.pre.ls; have := R.pre.d6; omega) W
  have HG := Lib.hid hG
  have HR := Lib.hid R
  have f0 := R.pre.f0
  have f1 := R.pre.f1
  have l60 := R.pre.l60
  have hls20 : g.start.length ≤ 20 := by have := R.pre.ls; have := R.pre.d6; omega
  have HI := Lib.hid (And.intro hi (And.intro hz0 (And.intro hz1 hz2)))
  clear hG R hok hi hz0 hz1 hz2 hp
  rw [show grv g A1 c1 A2 c2 = .agg #[.int .i64 g.id, .int .i64 g.hab.lo, .int .i64 g.hab.hi, .int .i64 g.hab.bears, .int .i64 g.hab.ripe, .int .i64 g.hab.dies, .int .i64 g.hab.keep, .int .i64 g.first, .slice A1 g.start.length c1, .slice A2 g.seas.length c2] from rfl]
  go_enter Try.func41, Try.ntmps41
  go_wp2
  go_region
  go_wp2
  go_loopw [6, 7, 8] (fun v u i wr => ∃ (k : Nat) (A : Option Addr) (c p2 q2 : Nat), k ≤ m ∧ i = .int .i64 k ∧ v = .slice A g.start.length c ∧ u = .slice (some ⟨p2, 0, none⟩) g.start.length q2 ∧ Hid (g.start.length ≤ c ∧ g.start.length ≤ q2 ∧ w.heap.size ≤ p2) ∧
      Hid (Ints wr wr.heap.size A (runL g.start (g.seas.take k))) ∧ Hid (Ints wr wr.heap.size (some ⟨p2, 0, none⟩) (goneAt g k)) ∧
      Hid (Below (w.heap.size + 1) (w.alloc (.cells #[.int .i64 g.id, .int .i64 g.hab.lo, .int .i64 g.hab.hi, .int .i64 g.hab.bears, .int .i64 g.hab.ripe, .int .i64 g.hab.dies, .int .i64 g.hab.keep, .int .i64 g.first, .slice A1 g.start.length c1, .slice A2 g.seas.length c2] 29)) wr))
    (fun _ _ i _ => m - (intOf i).toNat)
  case atStart =>
    refine ⟨0, A1, c1, w.heap.size + 1, g.start.length, Nat.zero_le _, rfl, rfl, rfl, ⟨HG.out.cap1, Nat.le_refl _, by omega⟩, ?_, ?_, ?_⟩
    · exact (HG.out.st.below ((((Below.refl _ _).alloc hB _).alloc (by simp; omega) _).drew)).mono (by simp [World.drew]; omega)
    · exact ints_new (w := (((w.alloc _).alloc _).drew)) (alloc2_at1 _ _ _) (by simp [World.drew])
    · exact ((Below.refl _ _).alloc (by simp) _).drew
  case round =>
    obtain ⟨k, A, c, p2, q2, hk, rfl, rfl, rfl, hcap, hI1, hI2, hBr⟩ := hrel
    have cBr := fun i => (hBr.out.cell (p := ⟨w.heap.size, i, none⟩) (by simp)).trans (cell_of_row _ w.heap.size i _ _ _ (alloc_at0 w _))
    have hszr : w.heap.size < wr.heap.size := by have := hBr.out.size; simp at this; omega
    by_cases hlt : k < m
    · obtain ⟨b, off, hA, hbB, hc⟩ := HG.out.se (by rw [pairs_len]; omega)
      subst hA
      have hpa := pairs_at g.seas k (by omega)
      have hb0 : Below B w wr := ((Below.refl _ _).alloc hB _).trans (hBr.out.mono (by omega))
      have hc0 : wr.cell? ⟨b, off + k * 2, none⟩ = _ := (hb0.cell (p := ⟨b, off + k * 2, none⟩) hbB).trans (hc _ _ hpa.1)
      have hc1 : wr.cell? ⟨b, off + k * 2 + 1, none⟩ = _ := (hb0.cell (p := ⟨b, off + k * 2 + 1, none⟩) hbB).trans (hc _ _ hpa.2)
      have hyr := HR.out.yr k (by omega)
      have hsucc := runL_succ g.start g.seas k (by omega)
      have hgone : goneAt g (k + 1) = goneL (runL g.start (g.seas.take k)) (g.seas[k]?.getD (0, 0)).1 (g.seas[k]?.getD (0, 0)).2 := rfl
      have hbd := HR.out.bnd k (by omega)
      have hrl := runL_len g.start (g.seas.take k)
      generalize (g.seas[k]?.getD (0, 0)).1 = s at hc0 hyr hsucc hgone
      generalize (g.seas[k]?.getD (0, 0)).2 = n at hc1 hyr hsucc hgone
      generalize runL g.start (g.seas.take k) = l at hI1 hyr hsucc hgone hbd hrl
      have HC := Lib.hid (And.intro cBr (And.intro hc0 hc1))
      have H := fun W (hW : Below wr.heap.size wr W) => refYear_yes g.hab r HR.out.pre.hr A c l wr.heap.size W hW.size (hI1.out.below hW) (by rw [hrl, HR.out.pre.ls]; have := HR.out.pre.rd; omega) (by rw [hrl]; omega) 30 (by omega) hbd s n hyr.1.1 hyr.1.2 hyr.2.1.1 hyr.2.1.2 hyr.2.2
      rw [hrl] at H
      have HY := Lib.hid H
      have HS := Lib.hid (And.intro hsucc (And.intro hgone hrl))
      have hkm : (k : Int) < m := by omega
      have hks : (k : Int) < g.seas.length := by omega
      clear hc hpa hb0 hyr hsucc hgone hbd H hrl
      go_wp2_with fail
      have k1 := cBr 1
      have k2 := cBr 2
      have k3 := cBr 3
      have k4 := cBr 4
      have k5 := cBr 5
      have k6 := cBr 6
      have k9 := cBr 9
      simp only [List.getElem?_toArray, List.getElem?_cons_succ, List.getElem?_cons_zero] at k1 k2 k3 k4 k5 k6 k9
      clear cBr
      have hk0 : (0 : Int) ≤ (k : Int) := by omega
      go_region_held3 (fun W => W.cell? ⟨w.heap.size, 1, none⟩ = some (.int .i64 g.hab.lo) ∧ W.cell? ⟨w.heap.size, 2, none⟩ = some (.int .i64 g.hab.hi) ∧ W.cell? ⟨w.heap.size, 3, none⟩ = some (.int .i64 g.hab.bears) ∧ W.cell? ⟨w.heap.size, 4, none⟩ = some (.int .i64 g.hab.ripe) ∧
          W.cell? ⟨w.heap.size, 5, none⟩ = some (.int .i64 g.hab.dies) ∧ W.cell? ⟨w.heap.size, 6, none⟩ = some (.int .i64 g.hab.keep) ∧ W.cell? ⟨w.heap.size, 9, none⟩ = some (.slice (some ⟨b, off, none⟩) g.seas.length c2) ∧
          W.cell? ⟨b, off + k * 2, none⟩ = some (.int .i64 s) ∧ W.cell? ⟨b, off + k * 2 + 1, none⟩ = some (.int .i64 n))
        (first | exact ⟨k1, k2, k3, k4, k5, k6, k9, hc0, hc1⟩ | exact ⟨h31, h32, h33, h34, h35, h36, h39, h3a, h3b⟩)
        (first
          | (go_at_call 34; refine (HY.out _ (Below.refl _ _).drew).mono ?_; rintro e w3 ⟨x1, y1, x2, y2, rfl, hx1, hx2, hne, hy1, hy2, hJ1, hJ2, hf1, hf2, hB3⟩
             have h31 := (hB3.cell (p := ⟨w.heap.size, 1, none⟩) hszr).trans k1
             have h32 := (hB3.cell (p := ⟨w.heap.size, 2, none⟩) hszr).trans k2
             have h33 := (hB3.cell (p := ⟨w.heap.size, 3, none⟩) hszr).trans k3
             have h34 := (hB3.cell (p := ⟨w.heap.size, 4, none⟩) hszr).trans k4
             have h35 := (hB3.cell (p := ⟨w.heap.size, 5, none⟩) hszr).trans k5
             have h36 := (hB3.cell (p := ⟨w.heap.size, 6, none⟩) hszr).trans k6
             have h39 := (hB3.cell (p := ⟨w.heap.size, 9, none⟩) hszr).trans k9
             have h3a := (hB3.cell (p := ⟨b, off + k * 2, none⟩) (show b < wr.heap.size by omega)).trans hc0
             have h3b := (hB3.cell (p := ⟨b, off + k * 2 + 1, none⟩) (show b < wr.heap.size by omega)).trans hc1))
      rw [yearL_len, goneL_len, HS.out.2.2] at *
      have HJ := Lib.hid (And.intro hJ1 (And.intro hJ2 hB3))
      have HJc := Lib.hid (And.intro hy1 (And.intro hy2 hx2))
      clear hJ1 hJ2 hB3 hf1 hf2 hy1 hy2 h31 h32 h33 h34 h35 h36 h39 h3a h3b
      go_wp2
      go_roundw
      case rel =>
        have hs := hBr.out.size
        simp only [World.size_alloc] at hs
        refine ⟨k + 1, some ⟨x1, 0, none⟩, y1, x2, y2, by omega, by go_num, rfl, rfl, ⟨?_, ?_, ?_⟩, ?_, ?_, ?_⟩
        · exact HJc.out.1
        · exact HJc.out.2.1
        · have := HJc.out.2.2; rw [drew_size] at this; omega
        · rw [HS.out.1]; exact HJ.out.1
        · rw [HS.out.2.1]; exact HJ.out.2.1
        · exact hBr.out.drew.trans (HJ.out.2.2.mono (by rw [drew_size]; omega))
      case measure => simp [intOf] <;> omega
    · obtain rfl : k = m := by omega
      have hrl := runL_len g.start (g.seas.take k)
      have h1 := oneCells_ints (runL g.start (g.seas.take k))
      have hsl : (ints (runL g.start (g.seas.take k))).length = g.start.length * 1 := by simp [ints, hrl]
      have hbase := hBr.out.size
      simp only [World.size_alloc] at hbase
      have Hsl := Lib.hid hsl
      clear hrl hsl
      go_wp2_with (first
        | (at_builtin
           refine wpl_clone (by rfl) (.tmp 43) (.tmp 44) _ (by rfl) w.heap.size 3 i0 _ 1 8 Try.underlying26 HI.out.1 HI.out.2.1 HI.out.2.2.1 HI.out.2.2.2 rfl (by omega) _ (by rfl) (alloc_at0 _ _) (by omega)
             wr.heap.size A g.start.length c (ints (runL g.start (g.seas.take k))) (by rfl) (hI1.out.vals.below ((Below.refl _ _).alloc (Nat.le_refl _) _)) Hsl.out h1 (by simp only [maxLen]; omega) (by omega) ?_
           intro x1 y1 w3 hown hgrow hat hx1 hx1s
           have HO := Lib.hid hown
           have HB3 := Lib.hid (Below.ofGrown ((Below.refl wr.heap.size wr).alloc (Nat.le_refl _) _) hgrow (by simp) (Nat.le_refl _))
           clear hown hgrow hat)
        | fail)
      go_ret2
      have hI2' := hI2.out.below HB3.out
      refine ⟨x1, y1, p2, q2, rfl, hx1, hcap.out.2.2, own_cap HO.out, hcap.out.2.1, (Vals.own HO.out).ints, hI2'.mono HB3.out.size, fun j => HO.out.frozenAt j, ?_⟩
      exact ((Below.refl _ _).alloc (Nat.le_refl _) _).trans ((hBr.out.trans (HB3.out.mono (by omega))).mono (by omega))

end Go.Proofs.Ytkjdapgkojfbmaa
