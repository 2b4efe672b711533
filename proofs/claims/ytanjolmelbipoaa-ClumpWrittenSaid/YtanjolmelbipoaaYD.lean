/-
  The reference's Check, Stand and Taken.
-/
import Derived.Test.YtanjolmelbipoaaYC
import Derived.Deep.RegionHeld3
import Derived.Deep.DrawnRows
namespace Go.Proofs.Ytanjolmelbipoaa
open Go.RowKit

theorem refGrove_any (g : Gr) (A1 : Option Addr) (c1 : Nat) (A2 : Option Addr) (c2 : Nat) (B : Nat) (w : World) (hB : B ≤ w.heap.size) (hG : GrAt w B g A1 c1 A2 c2) :
    Calls Try.prog 39 #[grv g A1 c1 A2 c2] w fun e w' => e = .returned (.bool (okGrove g)) ∧ Below w.heap.size w w' := by
  rcases Bool.eq_false_or_eq_true (okPre g) with hp | hp
  · have e : okGrove g = (okStart g && seasOk g.hab.ripe.toNat g.start g.seas) := by simp [okGrove, hp]
    rw [e]
    exact refGrove_start g A1 c1 A2 c2 B w hB hG hp
  · have e : okGrove g = false := by simp [okGrove, hp]
    rw [e]
    exact refGrove_pre g A1 c1 A2 c2 B w hG hp

/-- The error of a look. -/
def errG (g : Gr) : Int := if okGrove g = true then 0 else 10

theorem box_cells {w w' : World} {A : Obj} {cs : Array Value} {t : TypeId} (hA : A = .cells cs t) (hB : Below (w.alloc A).heap.size (w.alloc A) w') : ∀ i, w'.cell? ⟨w.heap.size, i, none⟩ = cs[i]? := fun i => by
  subst hA
  exact (hB.cell (p := ⟨w.heap.size, i, none⟩) (by simp)).trans (cell_of_row _ w.heap.size i _ _ _ (alloc_at0 w _))

set_option maxHeartbeats 1000000 in
theorem refCheck_any (g : Gr) (A1 : Option Addr) (c1 : Nat) (A2 : Option Addr) (c2 : Nat) (B : Nat) (w : World) (hB : B ≤ w.heap.size) (hG : GrAt w B g A1 c1 A2 c2) :
    Calls Try.prog 19 #[grv g A1 c1 A2 c2] w fun e w' => e = .returned (.int .i64 (errG g)) ∧ Below w.heap.size w w' := by
  have H := refGrove_any g A1 c1 A2 c2 B (w.alloc (.cells #[.int .i64 g.id, .int .i64 g.hab.lo, .int .i64 g.hab.hi, .int .i64 g.hab.bears, .int .i64 g.hab.ripe, .int .i64 g.hab.dies, .int .i64 g.hab.keep, .int .i64 g.first, .slice A1 g.start.length c1, .slice A2 g.seas.length c2] 29))
    (by simp; omega) (hG.below ((Below.refl _ _).alloc hB _))
  have HH := Lib.hid H
  clear H hG
  unfold errG
  rcases Bool.eq_false_or_eq_true (okGrove g) with hp | hp
  all_goals
    rw [hp] at HH ⊢
    rw [show grv g A1 c1 A2 c2 = .agg #[.int .i64 g.id, .int .i64 g.hab.lo, .int .i64 g.hab.hi, .int .i64 g.hab.bears, .int .i64 g.hab.ripe, .int .i64 g.hab.dies, .int .i64 g.hab.keep, .int .i64 g.first, .slice A1 g.start.length c1, .slice A2 g.seas.length c2] from rfl]
    clear hp
    go_enter Try.func19, Try.ntmps19
    go_wp2_with (go_at_call 39; refine HH.out.mono ?_; rintro e w1 ⟨rfl, hB1⟩; have HB := Lib.hid hB1; clear hB1)
    go_ret
    exact ⟨rfl, ((Below.refl _ _).alloc (Nat.le_refl _) _).trans (HB.out.mono (by simp))⟩

/-- Whether a year is one of a book. -/
def hasY (g : Gr) (y : Int) : Bool := inR y g.first (g.first + g.seas.length)

set_option maxHeartbeats 1000000 in
theorem refHas_any (g : Gr) (y : Int) (A1 : Option Addr) (c1 : Nat) (A2 : Option Addr) (c2 : Nat) (w : World) (f0 : 0 ≤ g.first) (f1 : g.first ≤ 3000) (l60 : g.seas.length ≤ 60) :
    Calls Try.prog 40 #[grv g A1 c1 A2 c2, .int .i64 y] w fun e w' => e = .returned (.bool (hasY g y)) ∧ Below w.heap.size w w' := by
  unfold grv
  go_enter Try.func40, Try.ntmps40
  go_wp2_with (go_at_call 54; refine (refWithin_any _ _ _ _).mono ?_; rintro e w' ⟨rfl, rfl⟩)
  go_ret
  exact ⟨rfl, (Below.refl _ _).alloc (Nat.le_refl _) _⟩

/-- What was cut in the last of m seasons. -/
def goneAt (g : Gr) : Nat → List Int
  | 0 => List.replicate g.start.length 0
  | m + 1 => goneL (runL g.start (g.seas.take m)) (g.seas[m]?.getD (0, 0)).1 (g.seas[m]?.getD (0, 0)).2

theorem seasOk_all {r : Nat} : ∀ {ss : List (Int × Int)} {l : List Int}, seasOk r l ss = true → ∀ k, k < ss.length →
    inR (ss[k]?.getD (0, 0)).1 0 30 = true ∧ inR (ss[k]?.getD (0, 0)).2 0 30 = true ∧ yearOk r (runL l (ss.take k)) (ss[k]?.getD (0, 0)).1 (ss[k]?.getD (0, 0)).2 = true := by
  intro ss
  induction ss with
  | nil => intro l _ k hk; simp at hk
  | cons p ss ih =>
    intro l h k hk
    simp only [seasOk, Bool.and_eq_true] at h
    cases k with
    | zero => simpa [runL] using ⟨h.1.1.1, h.1.1.2, h.1.2⟩
    | succ k =>
      have := ih h.2 k (by simpa using hk)
      simpa [runL] using this

/-- What is known of a valid grove's seasons. -/
structure Runs (g : Gr) (d r : Nat) : Prop where
  pre : Pre g d r
  b9 : Bnd 0 9 g.start
  yr : ∀ k, k < g.seas.length → (0 ≤ (g.seas[k]?.getD (0, 0)).1 ∧ (g.seas[k]?.getD (0, 0)).1 ≤ 30) ∧ (0 ≤ (g.seas[k]?.getD (0, 0)).2 ∧ (g.seas[k]?.getD (0, 0)).2 ≤ 30) ∧
    yearOk r (runL g.start (g.seas.take k)) (g.seas[k]?.getD (0, 0)).1 (g.seas[k]?.getD (0, 0)).2 = true

theorem okGrove_runs {g : Gr} (h : okGrove g = true) : ∃ d r, Runs g d r := by
  simp only [okGrove, Bool.and_eq_true] at h
  obtain ⟨d, r, P⟩ := okPre_pre h.1.1
  refine ⟨d, r, P, okStart_at h.1.2, fun k hk => ?_⟩
  have := seasOk_all h.2 k hk
  rw [P.hr, Int.toNat_natCast] at this
  exact ⟨inR_iff.1 this.1, inR_iff.1 this.2.1, this.2.2⟩

theorem runL_len (l : List Int) (ss : List (Int × Int)) : (runL l ss).length = l.length := by
  induction ss generalizing l with
  | nil => rfl
  | cons p ss ih => simp only [runL, List.foldl_cons] at ih ⊢; rw [ih, yearL_len]

theorem Runs.bnd {g : Gr} {d r : Nat} (R : Runs g d r) : ∀ k, k ≤ g.seas.length → Bnd 0 30 (runL g.start (g.seas.take k)) := by
  intro k
  induction k with
  | zero => intro _ j hj; have := R.b9 j (by simpa [runL] using hj); simp only [runL, List.take_zero, List.foldl_nil]; omega
  | succ k ih =>
    intro hk
    have h1 := ih (by omega)
    have h2 := R.yr k (by omega)
    rw [runL_succ _ _ _ (by omega)]
    exact yearL_bnd h1 (by rw [runL_len, R.pre.ls]; omega) h2.1.1 h2.1.2 h2.2.1.1 h2.2.1.2

theorem drew_size (w : World) : w.drew.heap.size = w.heap.size := rfl

def AtPost (w : World) (g : Gr) (m : Nat) (e : Ending) (w' : World) : Prop :=
  ∃ g1 c1 g2 c2, e = .returned (.tuple #[.slice (some ⟨g1, 0, none⟩) g.start.length c1, .slice (some ⟨g2, 0, none⟩) g.start.length c2]) ∧ w.heap.size ≤ g1 ∧ w.heap.size ≤ g2 ∧ g.start.length ≤ c1 ∧ g.start.length ≤ c2 ∧
    Ints w' w'.heap.size (some ⟨g1, 0, none⟩) (runL g.start (g.seas.take m)) ∧ Ints w' w'.heap.size (some ⟨g2, 0, none⟩) (goneAt g m) ∧ (∀ k, w'.frozen? ⟨g1, k, none⟩ = false) ∧ Below w.heap.size w w'

set_option maxHeartbeats 2000000 in
theorem refAt_any (g : Gr) (m : Nat) (A1 : Option Addr) (c1 : Nat) (A2 : Option Addr) (c2 : Nat) (B : Nat) (w : World) (hB : B ≤ w.heap.size) (hG : GrAt w B g A1 c1 A2 c2) (hok : okGrove g = true) (hm : m ≤ g.seas.length) :
    Calls Try.prog 41 #[grv g A1 c1 A2 c2, .int .i64 (g.first + m)] w (AtPost w g m) := by
  obtain ⟨i0, hi, hz0, hz1, hz2⟩ := info_parts Try.info3
  have hp : okPre g = true := by simp only [okGrove, Bool.and_eq_true] at hok; exact hok.1.1
  obtain ⟨d, r, R⟩ := okGrove_runs hok
  have hmk := fun W => run_make_ints (P := Try.prog) 26 3 i0 Try.underlying26 hi hz0 hz1 hz2 g.start.length (by have := R.pre.ls; have := R.pre.d6; omega) W
  have HG := Lib.hid hG
  have HR := Lib.hid R
  have f0 := R.pre.f0
  have f1 := R.pre.f1
  have l60 := R.pre.l60
  have hls20 : g.start.length ≤ 20 := by have := R.pre.ls; have := R.pre.d6; omega
  have HI := Lib.hid (And.intro hi (And.intro hz0 (And.intro hz1 hz2)))
  clear hG R hok hi hz0 hz1 hz2 hp
  rw [show grv g A1 c1 A2 c2 = .agg #[.int .i64 g.id, .int .i64 g.hab.lo, .int .i64 g.hab.hi, .int .i64 g.hab.bears, .int .i64 g.hab.ripe, .int .i64 g.hab.dies, .int .i64 g.hab.keep, .int .i64 g.first, .slice A1 g.start.length c1, .slice A2 g.seas.length c2] from rfl]
  go_enter Try.func41, Try.ntmps41
  go_wp2
  go_region
  go_wp2
  go_loopw [6, 7, 8] (fun v u i wr => ∃ (k : Nat) (A : Option Addr) (c p2 q2 : Nat), k ≤ m ∧ i = .int .i64 k ∧ v = .slice A g.start.length c ∧ u = .slice (some ⟨p2, 0, none⟩) g.start.length q2 ∧ Hid (g.start.length ≤ c ∧ g.start.length ≤ q2 ∧ w.heap.size ≤ p2) ∧
      Hid (Ints wr wr.heap.size A (runL g.start (g.seas.take k))) ∧ Hid (Ints wr wr.heap.size (some ⟨p2, 0, none⟩) (goneAt g k)) ∧
      Hid (Below (w.heap.size + 1) (w.alloc (.cells #[.int .i64 g.id, .int .i64 g.hab.lo, .int .i64 g.hab.hi, .int .i64 g.hab.bears, .int .i64 g.hab.ripe, .int .i64 g.hab.dies, .int .i64 g.hab.keep, .int .i64 g.first, .slice A1 g.start.length c1, .slice A2 g.seas.length c2] 29)) wr))
    (fun _ _ i _ => m - (intOf i).toNat)
  case atStart =>
    refine ⟨0, A1, c1, w.heap.size + 1, g.start.length, Nat.zero_le _, rfl, rfl, rfl, ⟨HG.out.cap1, Nat.le_refl _, by omega⟩, ?_, ?_, ?_⟩
    · exact (HG.out.st.below ((((Below.refl _ _).alloc hB _).alloc (by simp; omega) _).drew)).mono (by simp [World.drew]; omega)
    · exact ints_new (w := (((w.alloc _).alloc _).drew)) (alloc2_at1 _ _ _) (by simp [World.drew])
    · exact ((Below.refl _ _).alloc (by simp) _).drew
  case round =>
    obtain ⟨k, A, c, p2, q2, hk, rfl, rfl, rfl, hcap, hI1, hI2, hBr⟩ := hrel
    have cBr := fun i => (hBr.out.cell (p := ⟨w.heap.size, i, none⟩) (by simp)).trans (cell_of_row _ w.heap.size i _ _ _ (alloc_at0 w _))
    have hszr : w.heap.size < wr.heap.size := by have := hBr.out.size; simp at this; omega
    by_cases hlt : k < m
    · obtain ⟨b, off, hA, hbB, hc⟩ := HG.out.se (by rw [pairs_len]; omega)
      subst hA
      have hpa := pairs_at g.seas k (by omega)
      have hb0 : Below B w wr := ((Below.refl _ _).alloc hB _).trans (hBr.out.mono (by omega))
      have hc0 : wr.cell? ⟨b, off + k * 2, none⟩ = _ := (hb0.cell (p := ⟨b, off + k * 2, none⟩) hbB).trans (hc _ _ hpa.1)
      have hc1 : wr.cell? ⟨b, off + k * 2 + 1, none⟩ = _ := (hb0.cell (p := ⟨b, off + k * 2 + 1, none⟩) hbB).trans (hc _ _ hpa.2)
      have hyr := HR.out.yr k (by omega)
      have hsucc := runL_succ g.start g.seas k (by omega)
      have hgone : goneAt g (k + 1) = goneL (runL g.start (g.seas.take k)) (g.seas[k]?.getD (0, 0)).1 (g.seas[k]?.getD (0, 0)).2 := rfl
      have hbd := HR.out.bnd k (by omega)
      have hrl := runL_len g.start (g.seas.take k)
      generalize (g.seas[k]?.getD (0, 0)).1 = s at hc0 hyr hsucc hgone
      generalize (g.seas[k]?.getD (0, 0)).2 = n at hc1 hyr hsucc hgone
      generalize runL g.start (g.seas.take k) = l at hI1 hyr hsucc hgone hbd hrl
      have HC := Lib.hid (And.intro cBr (And.intro hc0 hc1))
      have H := fun W (hW : Below wr.heap.size wr W) => refYear_yes g.hab r HR.out.pre.hr A c l wr.heap.size W hW.size (hI1.out.below hW) (by rw [hrl, HR.out.pre.ls]; have := HR.out.pre.rd; omega) (by rw [hrl]; omega) 30 (by omega) hbd s n hyr.1.1 hyr.1.2 hyr.2.1.1 hyr.2.1.2 hyr.2.2
      rw [hrl] at H
      have HY := Lib.hid H
      have HS := Lib.hid (And.intro hsucc (And.intro hgone hrl))
      have hkm : (k : Int) < m := by omega
      have hks : (k : Int) < g.seas.length := by omega
      clear hc hpa hb0 hyr hsucc hgone hbd H hrl
      go_wp2_with fail
      have k1 := cBr 1
      have k2 := cBr 2
      have k3 := cBr 3
      have k4 := cBr 4
      have k5 := cBr 5
      have k6 := cBr 6
      have k9 := cBr 9
      simp only [List.getElem?_toArray, List.getElem?_cons_succ, List.getElem?_cons_zero] at k1 k2 k3 k4 k5 k6 k9
      clear cBr
      have hk0 : (0 : Int) ≤ (k : Int) := by omega
      go_region_held3 (fun W => W.cell? ⟨w.heap.size, 1, none⟩ = some (.int .i64 g.hab.lo) ∧ W.cell? ⟨w.heap.size, 2, none⟩ = some (.int .i64 g.hab.hi) ∧ W.cell? ⟨w.heap.size, 3, none⟩ = some (.int .i64 g.hab.bears) ∧ W.cell? ⟨w.heap.size, 4, none⟩ = some (.int .i64 g.hab.ripe) ∧
          W.cell? ⟨w.heap.size, 5, none⟩ = some (.int .i64 g.hab.dies) ∧ W.cell? ⟨w.heap.size, 6, none⟩ = some (.int .i64 g.hab.keep) ∧ W.cell? ⟨w.heap.size, 9, none⟩ = some (.slice (some ⟨b, off, none⟩) g.seas.length c2) ∧
          W.cell? ⟨b, off + k * 2, none⟩ = some (.int .i64 s) ∧ W.cell? ⟨b, off + k * 2 + 1, none⟩ = some (.int .i64 n))
        (first | exact ⟨k1, k2, k3, k4, k5, k6, k9, hc0, hc1⟩ | exact ⟨h31, h32, h33, h34, h35, h36, h39, h3a, h3b⟩)
        (first
          | (go_at_call 34; refine (HY.out _ (Below.refl _ _).drew).mono ?_; rintro e w3 ⟨x1, y1, x2, y2, rfl, hx1, hx2, hne, hy1, hy2, hJ1, hJ2, hf1, hf2, hB3⟩
             have h31 := (hB3.cell (p := ⟨w.heap.size, 1, none⟩) hszr).trans k1
             have h32 := (hB3.cell (p := ⟨w.heap.size, 2, none⟩) hszr).trans k2
             have h33 := (hB3.cell (p := ⟨w.heap.size, 3, none⟩) hszr).trans k3
             have h34 := (hB3.cell (p := ⟨w.heap.size, 4, none⟩) hszr).trans k4
             have h35 := (hB3.cell (p := ⟨w.heap.size, 5, none⟩) hszr).trans k5
             have h36 := (hB3.cell (p := ⟨w.heap.size, 6, none⟩) hszr).trans k6
             have h39 := (hB3.cell (p := ⟨w.heap.size, 9, none⟩) hszr).trans k9
             have h3a := (hB3.cell (p := ⟨b, off + k * 2, none⟩) (show b < wr.heap.size by omega)).trans hc0
             have h3b := (hB3.cell (p := ⟨b, off + k * 2 + 1, none⟩) (show b < wr.heap.size by omega)).trans hc1))
      rw [yearL_len, goneL_len, HS.out.2.2] at *
      have HJ := Lib.hid (And.intro hJ1 (And.intro hJ2 hB3))
      have HJc := Lib.hid (And.intro hy1 (And.intro hy2 hx2))
      clear hJ1 hJ2 hB3 hf1 hf2 hy1 hy2 h31 h32 h33 h34 h35 h36 h39 h3a h3b
      go_wp2
      go_roundw
      case rel =>
        have hs := hBr.out.size
        simp only [World.size_alloc] at hs
        refine ⟨k + 1, some ⟨x1, 0, none⟩, y1, x2, y2, by omega, by go_num, rfl, rfl, ⟨?_, ?_, ?_⟩, ?_, ?_, ?_⟩
        · exact HJc.out.1
        · exact HJc.out.2.1
        · have := HJc.out.2.2; rw [drew_size] at this; omega
        · rw [HS.out.1]; exact HJ.out.1
        · rw [HS.out.2.1]; exact HJ.out.2.1
        · exact hBr.out.drew.trans (HJ.out.2.2.mono (by rw [drew_size]; omega))
      case measure => simp [intOf] <;> omega
    · obtain rfl : k = m := by omega
      have hrl := runL_len g.start (g.seas.take k)
      have h1 := oneCells_ints (runL g.start (g.seas.take k))
      have hsl : (ints (runL g.start (g.seas.take k))).length = g.start.length * 1 := by simp [ints, hrl]
      have hbase := hBr.out.size
      simp only [World.size_alloc] at hbase
      have Hsl := Lib.hid hsl
      clear hrl hsl
      go_wp2_with (first
        | (at_builtin
           refine wpl_clone (by rfl) (.tmp 43) (.tmp 44) _ (by rfl) w.heap.size 3 i0 _ 1 8 Try.underlying26 HI.out.1 HI.out.2.1 HI.out.2.2.1 HI.out.2.2.2 rfl (by omega) _ (by rfl) (alloc_at0 _ _) (by omega)
             wr.heap.size A g.start.length c (ints (runL g.start (g.seas.take k))) (by rfl) (hI1.out.vals.below ((Below.refl _ _).alloc (Nat.le_refl _) _)) Hsl.out h1 (by simp only [maxLen]; omega) (by omega) ?_
           intro x1 y1 w3 hown hgrow hat hx1 hx1s
           have HO := Lib.hid hown
           have HB3 := Lib.hid (Below.ofGrown ((Below.refl wr.heap.size wr).alloc (Nat.le_refl _) _) hgrow (by simp) (Nat.le_refl _))
           clear hown hgrow hat)
        | fail)
      go_ret2
      have hI2' := hI2.out.below HB3.out
      refine ⟨x1, y1, p2, q2, rfl, hx1, hcap.out.2.2, own_cap HO.out, hcap.out.2.1, (Vals.own HO.out).ints, hI2'.mono HB3.out.size, fun j => HO.out.frozenAt j, ?_⟩
      exact ((Below.refl _ _).alloc (Nat.le_refl _) _).trans ((hBr.out.trans (HB3.out.mono (by omega))).mono (by omega))

end Go.Proofs.Ytanjolmelbipoaa

namespace Go.Proofs.Ytanjolmelbipoaa
open Go.RowKit

def standErr (g : Gr) (y : Int) : Int := if okGrove g = true then (if hasY g y = true then 0 else 6) else 10
def standVal (g : Gr) (y : Int) : List Int := if okGrove g = true ∧ hasY g y = true then runL g.start (g.seas.take (y - g.first).toNat) else []

/-- A list of ints and an error are handed back: the list in new memory. -/
def ListPost (w : World) (xs : List Int) (er : Int) (e : Ending) (w' : World) : Prop :=
  ∃ A c, e = .returned (.tuple #[.slice A xs.length c, .int .i64 er]) ∧ xs.length ≤ c ∧ Ints w' w'.heap.size A xs ∧
    (0 < xs.length → ∃ g, A = some ⟨g, 0, none⟩ ∧ w.heap.size ≤ g ∧ ∀ k, w'.frozen? ⟨g, k, none⟩ = false) ∧ Below w.heap.size w w'

theorem ListPost.nil {w w' : World} {er : Int} (h : Below w.heap.size w w') : ListPost w [] er (.returned (.tuple #[.slice none 0 0, .int .i64 er])) w' :=
  ⟨none, 0, rfl, Nat.le_refl _, fun h => by simp at h, fun h => by simp at h, h⟩

set_option maxHeartbeats 2000000 in
theorem refStand_any (g : Gr) (y : Int) (A1 : Option Addr) (c1 : Nat) (A2 : Option Addr) (c2 : Nat) (B : Nat) (w : World) (hB : B ≤ w.heap.size) (hG : GrAt w B g A1 c1 A2 c2) :
    Calls Try.prog 15 #[grv g A1 c1 A2 c2, .int .i64 y] w (ListPost w (standVal g y) (standErr g y)) := by
  have HG := Lib.hid hG
  clear hG
  have hb0 : Below w.heap.size w (w.alloc (.cells #[.int .i64 g.id, .int .i64 g.hab.lo, .int .i64 g.hab.hi, .int .i64 g.hab.bears, .int .i64 g.hab.ripe, .int .i64 g.hab.dies, .int .i64 g.hab.keep, .int .i64 g.first, .slice A1 g.start.length c1, .slice A2 g.seas.length c2] 29)) := (Below.refl _ _).alloc (Nat.le_refl _) _
  have H := refGrove_any g A1 c1 A2 c2 B _ (by simp; omega) (HG.out.below (hb0.mono hB))
  have HH := Lib.hid H
  have Hb0 := Lib.hid hb0
  clear H hb0
  rw [show grv g A1 c1 A2 c2 = .agg #[.int .i64 g.id, .int .i64 g.hab.lo, .int .i64 g.hab.hi, .int .i64 g.hab.bears, .int .i64 g.hab.ripe, .int .i64 g.hab.dies, .int .i64 g.hab.keep, .int .i64 g.first, .slice A1 g.start.length c1, .slice A2 g.seas.length c2] from rfl]
  rcases Bool.eq_false_or_eq_true (okGrove g) with hp | hp
  · obtain ⟨d, r, R⟩ := okGrove_runs hp
    have f0 := R.pre.f0
    have f1 := R.pre.f1
    have l60 := R.pre.l60
    clear R
    rcases Bool.eq_false_or_eq_true (hasY g y) with hy | hy
    · have hy' := hy
      simp only [hasY, inR_iff] at hy'
      obtain ⟨m, hm⟩ : ∃ m : Nat, y = g.first + m := ⟨(y - g.first).toNat, by omega⟩
      subst hm
      have hv : standVal g (g.first + m) = runL g.start (g.seas.take m) := by
        simp only [standVal, hp, hy, and_self, if_true]
        congr 2
        omega
      have he : standErr g (g.first + m) = 0 := by simp [standErr, hp, hy]
      rw [hv, he]
      have hml : m ≤ g.seas.length := by omega
      have HP := Lib.hid hp
      have HYs := Lib.hid hy
      have hrl := Lib.hid (runL_len g.start (g.seas.take m))
      rw [hp] at HH
      clear hp hy hv he hy'
      go_enter Try.func15, Try.ntmps15
      go_wp2_with (first
        | (go_at_call 39; refine HH.out.mono ?_; rintro e w1 ⟨rfl, hB1⟩
           have cB1 := box_cells rfl hB1
           have HB1 := Lib.hid (Hb0.out.trans (hB1.mono (by simp)))
           have hw1 : w.heap.size < w1.heap.size := by have := hB1.size; simp at this; omega
           clear hB1)
        | (go_at_call 40; refine (refHas_any g _ A1 c1 A2 c2 _ f0 f1 l60).mono ?_; rintro e w2 ⟨rfl, hB2⟩
           rw [HYs.out]
           have cB2 := fun i => (hB2.cell (p := ⟨w.heap.size, i, none⟩) hw1).trans (cB1 i)
           have HB2 := Lib.hid (HB1.out.trans (hB2.mono (by omega)))
           have hw2 : w.heap.size < w2.heap.size := by have := hB2.size; omega
           clear hB2)
        | (go_at_call 41; refine (refAt_any g m A1 c1 A2 c2 B _ (by omega) (HG.out.below (HB2.out.mono hB)) HP.out hml).mono ?_; rintro e w3 ⟨p1, q1, p2, q2, rfl, hp1, hp2, hq1, hq2, hI1, hI2, hf1, hB3⟩
           have HI := Lib.hid (And.intro hI1 (And.intro hf1 (And.intro hq1 hB3)))
           clear hI1 hI2 hf1 hB3 hq1 hq2))
      go_ret2
      exact ⟨some ⟨p1, 0, none⟩, q1, by rw [hrl.out]; rfl, by rw [hrl.out]; exact HI.out.2.2.1, HI.out.1, fun _ => ⟨p1, rfl, by omega, HI.out.2.1⟩, HB2.out.trans (HI.out.2.2.2.mono (by omega))⟩
    · have hv : standVal g y = [] := by simp [standVal, hp, hy]
      have he : standErr g y = 6 := by simp [standErr, hp, hy]
      rw [hv, he]
      have HYs := Lib.hid hy
      rw [hp] at HH
      clear hp hy hv he
      go_enter Try.func15, Try.ntmps15
      go_wp2_with (first
        | (go_at_call 39; refine HH.out.mono ?_; rintro e w1 ⟨rfl, hB1⟩
           have cB1 := box_cells rfl hB1
           have HB1 := Lib.hid (Hb0.out.trans (hB1.mono (by simp)))
           have hw1 : w.heap.size < w1.heap.size := by have := hB1.size; simp at this; omega
           clear hB1)
        | (go_at_call 40; refine (refHas_any g _ A1 c1 A2 c2 _ f0 f1 l60).mono ?_; rintro e w2 ⟨rfl, hB2⟩
           rw [HYs.out]
           have HB2 := Lib.hid (HB1.out.trans (hB2.mono (by omega)))
           clear hB2))
      go_ret2
      exact ListPost.nil HB2.out
  · have hv : standVal g y = [] := by simp [standVal, hp]
    have he : standErr g y = 10 := by simp [standErr, hp]
    rw [hv, he]
    rw [hp] at HH
    clear hp hv he
    go_enter Try.func15, Try.ntmps15
    go_wp2_with (first
      | (go_at_call 39; refine HH.out.mono ?_; rintro e w1 ⟨rfl, hB1⟩
         have HB1 := Lib.hid (Hb0.out.trans (hB1.mono (by simp)))
         clear hB1))
    go_ret2
    exact ListPost.nil HB1.out

end Go.Proofs.Ytanjolmelbipoaa

namespace Go.Proofs.Ytanjolmelbipoaa
open Go.RowKit

/-- What was cut in a year, told from the oldest age downwards: k ages. -/
def takesTo (y : Int) (gone : List Int) : Nat → List (Int × Int)
  | 0 => []
  | k + 1 => takesTo y gone k ++ (if 0 < gone[gone.length - 1 - k]?.getD 0 then [(y - ((gone.length - 1 - k : Nat) : Int), gone[gone.length - 1 - k]?.getD 0)] else [])
theorem takesTo_len (y : Int) (gone : List Int) (k : Nat) : (takesTo y gone k).length ≤ k := by
  induction k with
  | zero => simp [takesTo]
  | succ k ih =>
    simp only [takesTo, List.length_append]
    split <;> simp <;> omega
theorem pairs_app (a b : List (Int × Int)) : pairs (a ++ b) = pairs a ++ pairs b := by simp [pairs]

def takenVal (g : Gr) (y : Int) : List (Int × Int) := if okGrove g = true ∧ hasY g y = true then takesTo y (goneAt g (y - g.first).toNat) g.start.length else []

def TakePost (w : World) (ts : List (Int × Int)) (er : Int) (e : Ending) (w' : World) : Prop :=
  ∃ A c, e = .returned (.tuple #[.slice A ts.length c, .int .i64 er]) ∧ Vals w' w'.heap.size A (pairs ts) ∧ Below w.heap.size w w'
theorem TakePost.nil {w w' : World} {er : Int} (h : Below w.heap.size w w') : TakePost w [] er (.returned (.tuple #[.slice none 0 0, .int .i64 er])) w' :=
  ⟨none, 0, rfl, fun h => by simp [pairs] at h, h⟩

theorem Try.info78 : (Try.prog.info? 78).map (fun i => (i.zero, i.size, i.bytes)) = some (some (.agg #[.int .i64 0, .int .i64 0]), 2, 16) := by kernel_rfl

theorem vals_new {w : World} {g B : Nat} {vs : List Value} {t : TypeId} {fr : Nat × Nat} (h : w.heap[g]? = some (.cells vs.toArray t fr)) (hB : g < B) : Vals w B (some ⟨g, 0, none⟩) vs := fun _ =>
  ⟨g, 0, rfl, hB, fun j u hj => by rw [Nat.zero_add, cell_of_row w g j _ _ _ h, List.getElem?_toArray]; exact hj⟩

theorem goneAt_len {g : Gr} (m : Nat) : (goneAt g m).length = g.start.length := by
  cases m with
  | zero => simp [goneAt]
  | succ m => simp only [goneAt]; rw [goneL_len, runL_len]
theorem goneAt_bnd {g : Gr} {d r : Nat} (R : Runs g d r) (m : Nat) (hm : m ≤ g.seas.length) : Bnd 0 30 (goneAt g m) := by
  cases m with
  | zero => exact Bnd.replicate _ (by omega) (by omega)
  | succ m =>
    have h2 := R.yr m (by omega)
    simp only [goneAt]
    exact (cutTo_bnd (nowL_bnd (R.bnd m (by omega)) h2.1.1 h2.1.2) h2.2.1.1 h2.2.1.2 _ (by rw [nowL_len, runL_len, R.pre.ls]; omega) _ (by omega)).2.1

set_option maxHeartbeats 2000000 in
theorem refTaken_any (g : Gr) (y : Int) (A1 : Option Addr) (c1 : Nat) (A2 : Option Addr) (c2 : Nat) (B : Nat) (w : World) (hB : B ≤ w.heap.size) (hG : GrAt w B g A1 c1 A2 c2) :
    Calls Try.prog 17 #[grv g A1 c1 A2 c2, .int .i64 y] w (TakePost w (takenVal g y) (standErr g y)) := by
  have HG := Lib.hid hG
  clear hG
  have hb0 : Below w.heap.size w (w.alloc (.cells #[.int .i64 g.id, .int .i64 g.hab.lo, .int .i64 g.hab.hi, .int .i64 g.hab.bears, .int .i64 g.hab.ripe, .int .i64 g.hab.dies, .int .i64 g.hab.keep, .int .i64 g.first, .slice A1 g.start.length c1, .slice A2 g.seas.length c2] 29)) := (Below.refl _ _).alloc (Nat.le_refl _) _
  have H := refGrove_any g A1 c1 A2 c2 B _ (by simp; omega) (HG.out.below (hb0.mono hB))
  have HH := Lib.hid H
  have Hb0 := Lib.hid hb0
  clear H hb0
  rw [show grv g A1 c1 A2 c2 = .agg #[.int .i64 g.id, .int .i64 g.hab.lo, .int .i64 g.hab.hi, .int .i64 g.hab.bears, .int .i64 g.hab.ripe, .int .i64 g.hab.dies, .int .i64 g.hab.keep, .int .i64 g.first, .slice A1 g.start.length c1, .slice A2 g.seas.length c2] from rfl]
  rcases Bool.eq_false_or_eq_true (okGrove g) with hp | hp
  · obtain ⟨d, r, R⟩ := okGrove_runs hp
    have f0 := R.pre.f0
    have f1 := R.pre.f1
    have l60 := R.pre.l60
    rcases Bool.eq_false_or_eq_true (hasY g y) with hy | hy
    · have hy' := hy
      simp only [hasY, inR_iff] at hy'
      obtain ⟨m, hm⟩ : ∃ m : Nat, y = g.first + m := ⟨(y - g.first).toNat, by omega⟩
      subst hm
      have hv : takenVal g (g.first + m) = takesTo (g.first + m) (goneAt g m) g.start.length := by
        simp only [takenVal, hp, hy, and_self, if_true]
        rw [show (g.first + (m : Int) - g.first).toNat = m by omega]
      have he : standErr g (g.first + m) = 0 := by simp [standErr, hp, hy]
      rw [hv, he]
      have hml : m ≤ g.seas.length := by omega
      have HP := Lib.hid hp
      have HYs := Lib.hid hy
      have hgl := Lib.hid (goneAt_len (g := g) m)
      have hgb := Lib.hid (goneAt_bnd R m hml)
      have hsl : g.start.length ≤ 7 ∧ 1 ≤ g.start.length := by have := R.pre.ls; have := R.pre.d6; omega
      rw [hp] at HH
      clear hp hy hv he hy' R
      go_enter Try.func17, Try.ntmps17
      go_wp2_with (first
        | (go_at_call 39; refine HH.out.mono ?_; rintro e w1 ⟨rfl, hB1⟩
           have cB1 := box_cells rfl hB1
           have HB1 := Lib.hid (Hb0.out.trans (hB1.mono (by simp)))
           have hw1 : w.heap.size < w1.heap.size := by have := hB1.size; simp at this; omega
           clear hB1)
        | (go_at_call 40; refine (refHas_any g _ A1 c1 A2 c2 _ f0 f1 l60).mono ?_; rintro e w2 ⟨rfl, hB2⟩
           rw [HYs.out]
           have cB2 := fun i => (hB2.cell (p := ⟨w.heap.size, i, none⟩) hw1).trans (cB1 i)
           have HB2 := Lib.hid (HB1.out.trans (hB2.mono (by omega)))
           have hw2 : w.heap.size < w2.heap.size := by have := hB2.size; omega
           clear hB2)
        | (go_at_call 41; refine (refAt_any g m A1 c1 A2 c2 B _ (by omega) (HG.out.below (HB2.out.mono hB)) HP.out hml).mono ?_; rintro e w3 ⟨p1, q1, p2, q2, rfl, hp1, hp2, hq1, hq2, hI1, hI2, hf1, hB3⟩
           have HI2 := Lib.hid hI2
           have HB3 := Lib.hid (HB2.out.trans (hB3.mono (by omega)))
           have hw3 : w.heap.size ≤ w3.heap.size := by have := hB3.size; omega
           clear hI1 hI2 hf1 hB3 hq1 hq2 cB1 cB2))
      obtain ⟨i0, hi, hz0, hz1, hz2⟩ := info_parts Try.info78
      have HI := Lib.hid (And.intro hi (And.intro hz0 (And.intro hz1 hz2)))
      clear hi hz0 hz1 hz2
      go_loopw [8, 9] (fun v i wr => ∃ (k : Nat) (A : Option Addr) (c : Nat), k ≤ g.start.length ∧ i = .int .i64 ((g.start.length : Int) - 1 - k) ∧ v = .slice A (takesTo (g.first + m) (goneAt g m) k).length c ∧
          Hid (wr.ownsRow w3.heap.size 78 2 (.slice A (takesTo (g.first + m) (goneAt g m) k).length c) (takesTo (g.first + m) (goneAt g m) k).length (pairs (takesTo (g.first + m) (goneAt g m) k))) ∧ Hid (Below w3.heap.size w3 wr))
        (fun _ i _ => (intOf i + 1).toNat)
      case atStart => exact ⟨0, none, 0, Nat.zero_le _, by simp, rfl, World.ownsRow_nil _ _ _ _, Below.refl _ _⟩
      case round =>
        obtain ⟨k, A, c, hk, rfl, rfl, hO, hBr⟩ := hrel
        by_cases hlt : k < g.start.length
        · obtain ⟨a, ha⟩ : ∃ a : Nat, a = g.start.length - 1 - k := ⟨_, rfl⟩
          have e1 : ((g.start.length : Int) - 1 - k) = (a : Int) := by omega
          obtain ⟨b, off, hA, hb, hc⟩ := HI2.out (by rw [hgl.out]; omega)
          simp only [Option.some.injEq, Addr.mk.injEq, and_true] at hA
          obtain ⟨rfl, rfl⟩ := hA
          have hx : wr.cell? ⟨p2, a, none⟩ = some (.int .i64 ((goneAt g m)[a]?.getD 0)) := (hBr.out.cell (p := ⟨p2, a, none⟩) hb).trans (by have := hc a (by rw [hgl.out]; omega); rwa [Nat.zero_add] at this)
          have hstep : takesTo (g.first + m) (goneAt g m) (k + 1) = takesTo (g.first + m) (goneAt g m) k ++ (if 0 < (goneAt g m)[a]?.getD 0 then [(g.first + m - (a : Int), (goneAt g m)[a]?.getD 0)] else []) := by
            simp only [takesTo, hgl.out, ← ha]
          have hxb := hgb.out a (by rw [hgl.out]; omega)
          have hlen := takesTo_len (g.first + m) (goneAt g m) k
          rw [e1]
          generalize (goneAt g m)[a]?.getD 0 = x at hx hstep hxb
          generalize takesTo (g.first + m) (goneAt g m) k = l at hO hstep hlen
          have Hs := Lib.hid hstep
          have hak : (a : Int) - 1 = (g.start.length : Int) - 1 - ((k + 1 : Nat) : Int) := by omega
          have Hak := Lib.hid hak
          have hal : (a : Int) < g.start.length := by omega
          have hws := hBr.out.size
          clear hstep hc ha e1 hak
          by_cases hpos : 0 < x
          · go_wp2_with (first
              | (at_builtin
                 refine wpl_app (by rfl) (.tmp 35) (.tmp 44) _ (by rfl) w3.heap.size 78 i0 _ 2 16 Try.underlying37 HI.out.1 HI.out.2.1 HI.out.2.2.1 HI.out.2.2.2 rfl (by omega) _ l.length (pairs l) (by rfl) (hO.out.alloc _)
                   (wr.heap.size + 1) (some ⟨wr.heap.size, 0, none⟩) 1 1 [.int .i64 (g.first + m - (a : Int)), .int .i64 x] (by rfl) (vals_new (alloc_at0 _ _) (by omega)) (by simp) (by simp [Value.oneCell']) (by simp only [maxLen]; omega) (by omega) (by simp; omega) ?_
                 go_must (
                 intro v' w4 hown hgrow hat
                 have hne : v' ≠ .slice none 0 0 := by
                   rintro rfl
                   have h1 := hown.1
                   rcases hown.2 with ⟨_, h2⟩ | ⟨_, _, _, h2, _⟩
                   · omega
                   · cases h2
                 obtain ⟨g4, c4, rfl, hg4, hg4s⟩ := own_form hown hne
                 have HO4 := Lib.hid hown
                 have HB4 := Lib.hid (((Below.refl w3.heap.size wr).alloc hws _).grown hgrow (by simp; omega) (fun k e => by have := hO.out.lt k e; omega))
                 clear hown hgrow hat hne))
              | fail)
            go_roundw
            case rel => exact ⟨k + 1, some ⟨g4, 0, none⟩, c4, by omega, by rw [Hak.out], by rw [Hs.out]; simp [hpos], by rw [Hs.out]; simpa [hpos, pairs, Hid] using HO4.out, hBr.out.trans HB4.out⟩
            case measure => simp [intOf] <;> omega
          · go_wp2
            go_roundw
            case rel => exact ⟨k + 1, A, c, by omega, by rw [Hak.out], by rw [Hs.out]; simp [hpos], by rw [Hs.out]; simp only [hpos, if_false, List.append_nil]; exact hO, hBr⟩
            case measure => simp [intOf] <;> omega
        · obtain rfl : k = g.start.length := by omega
          have e1 : ((g.start.length : Int) - 1 - g.start.length) = -1 := by omega
          rw [e1]
          clear e1
          go_wp2
          go_ret2
          exact ⟨A, c, rfl, Vals.own hO.out, HB3.out.trans (hBr.out.mono hw3)⟩
    · have hv : takenVal g y = [] := by simp [takenVal, hp, hy]
      have he : standErr g y = 6 := by simp [standErr, hp, hy]
      rw [hv, he]
      have HYs := Lib.hid hy
      rw [hp] at HH
      clear hp hy hv he R
      go_enter Try.func17, Try.ntmps17
      go_wp2_with (first
        | (go_at_call 39; refine HH.out.mono ?_; rintro e w1 ⟨rfl, hB1⟩
           have cB1 := box_cells rfl hB1
           have HB1 := Lib.hid (Hb0.out.trans (hB1.mono (by simp)))
           have hw1 : w.heap.size < w1.heap.size := by have := hB1.size; simp at this; omega
           clear hB1)
        | (go_at_call 40; refine (refHas_any g _ A1 c1 A2 c2 _ f0 f1 l60).mono ?_; rintro e w2 ⟨rfl, hB2⟩
           rw [HYs.out]
           have HB2 := Lib.hid (HB1.out.trans (hB2.mono (by omega)))
           clear hB2))
      go_ret2
      exact TakePost.nil HB2.out
  · have hv : takenVal g y = [] := by simp [takenVal, hp]
    have he : standErr g y = 10 := by simp [standErr, hp]
    rw [hv, he]
    rw [hp] at HH
    clear hp hv he
    go_enter Try.func17, Try.ntmps17
    go_wp2_with (first
      | (go_at_call 39; refine HH.out.mono ?_; rintro e w1 ⟨rfl, hB1⟩
         have HB1 := Lib.hid (Hb0.out.trans (hB1.mono (by simp)))
         clear hB1))
    go_ret2
    exact TakePost.nil HB1.out

end Go.Proofs.Ytanjolmelbipoaa

