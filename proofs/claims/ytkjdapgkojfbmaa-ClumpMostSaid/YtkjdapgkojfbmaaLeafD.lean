/-
  The program's spans: within, upTo, validSpan, validHabit.
-/
import Derived.Test.YtkjdapgkojfbmaaRefA
import Derived.Deep.RegionHeld3
import Derived.Deep.DrawnRows
import Derived.Outline
namespace Go.Proofs.Ytkjdapgkojfbmaa
open Go.RowKit

/-- All numbers are in a span. -/
def allIn (lo hi : Int) (l : List Int) : Bool := l.all fun x => inR x lo hi
theorem allIn_at {lo hi : Int} {l : List Int} (h : ∀ k, k < l.length → inR (l[k]?.getD 0) lo hi = true) : allIn lo hi l = true := by
  simp only [allIn, List.all_eq_true]
  intro x hx
  obtain ⟨k, hk, rfl⟩ := List.mem_iff_getElem.1 hx
  simpa [hk] using h k hk
theorem allIn_not {lo hi : Int} {l : List Int} {k : Nat} (hk : k < l.length) (h : inR (l[k]?.getD 0) lo hi = false) : allIn lo hi l = false := by
  simp only [allIn, List.all_eq_false]
  exact ⟨l[k], List.getElem_mem hk, by simpa [hk] using h⟩

set_option maxHeartbeats 1000000 in
theorem within_any (lo hi : Int) (A : Option Addr) (cap : Nat) (zs : List Int) (B : Nat) (w : World) (hB : B ≤ w.heap.size) (hI : Ints w B A zs) (hl : zs.length ≤ 9223372036854775807) :
    Calls Try.prog 62 #[.agg #[.int .i64 lo, .int .i64 hi], .slice A zs.length cap] w fun e w' => e = .returned (.bool (allIn lo hi zs)) ∧ Below w.heap.size w w' := by
  have H := Lib.hid hI
  clear hI
  go_enter Try.func62, Try.ntmps62
  go_wp2
  go_loop [9] (fun i => ∃ k : Nat, k ≤ zs.length ∧ i = .int .i64 k ∧ Hid (∀ j, j < k → inR (zs[j]?.getD 0) lo hi = true)) (fun i => zs.length - (intOf i).toNat)
  case atStart => exact ⟨0, Nat.zero_le _, rfl, fun j hj => absurd hj (by omega)⟩
  case round =>
    obtain ⟨k, hk, rfl, hall⟩ := hrel
    by_cases hlt : k < zs.length
    · obtain ⟨b, off, hA, hbB, hc⟩ := H.out (by omega)
      subst hA
      have hcell : (w.alloc (.cells #[.int .i64 lo, .int .i64 hi] 23)).cell? ⟨b, off + k, none⟩ = _ := (World.cell?_alloc_lt _ _ _ (by simp; omega)).trans (hc k hlt)
      have hno := fun h => allIn_not (lo := lo) (hi := hi) hlt h
      clear hc
      generalize hx : zs[k]?.getD 0 = x at hcell hno
      have Hx := Lib.hid hx
      have Hno := Lib.hid hno
      clear hx hno
      by_cases h1 : x < lo
      · have hf := Lib.hid (Hno.out (by rw [inR_not]; omega))
        go_wp2
        go_ret
        exact ⟨by rw [hf.out]; rfl, (Below.refl _ _).alloc (Nat.le_refl _) _⟩
      · by_cases h2 : hi < x
        · have hf := Lib.hid (Hno.out (by rw [inR_not]; omega))
          go_wp2
          go_ret
          exact ⟨by rw [hf.out]; rfl, (Below.refl _ _).alloc (Nat.le_refl _) _⟩
        · have hin := Lib.hid (show inR x lo hi = true from inR_iff.2 (by omega))
          go_wp2
          go_round
          case rel => exact ⟨k + 1, by omega, by go_num, fun j hj => by
            rcases Nat.lt_or_ge j k with h | h
            · exact hall.out j h
            · obtain rfl : j = k := by omega
              rw [Hx.out]; exact hin.out⟩
          case measure => simp [intOf] <;> omega
    · obtain rfl : k = zs.length := by omega
      have hf := Lib.hid (allIn_at hall.out)
      clear hall
      go_wp2
      go_ret
      exact ⟨by rw [hf.out]; rfl, (Below.refl _ _).alloc (Nat.le_refl _) _⟩

set_option maxHeartbeats 400000 in
theorem upTo_any (m : Int) (w : World) :
    Calls Try.prog 63 #[.int .i64 m] w fun e w' => e = .returned (.agg #[.int .i64 0, .int .i64 m]) ∧ Below w.heap.size w w' := by
  go_enter Try.func63, Try.ntmps63
  go_wp2
  refine bodyPost_ret (v := .agg #[.int .i64 0, .int .i64 m]) (by simp [results, Try.results63, go_sem]) rfl ⟨rfl, ?_⟩
  exact (Below.refl _ _).alloc (Nat.le_refl _) _

/-- A span is valid. -/
def okSpan (lo hi m : Int) : Bool := decide (lo ≤ hi) && allIn 0 m [lo, hi]

theorem ints_lit {w : World} {g : Nat} {cs : Array Value} (zs : List Int) (h : w.heap[g]? = some (.cells cs 3 (0, 0))) (he : cs = (ints zs).toArray) : Ints w w.heap.size (some ⟨g, 0, none⟩) zs := fun _ =>
  ⟨g, 0, rfl, (Array.getElem?_eq_some_iff.1 h).1, fun k hk => by subst he; rw [Nat.zero_add]; exact (cell_of_row w g k _ _ _ h).trans (ints_at zs k hk)⟩

theorem drew_size' (w : World) : w.drew.heap.size = w.heap.size := rfl

set_option maxHeartbeats 2000000 in
theorem validSpan_any (lo hi m : Int) (w : World) :
    Calls Try.prog 64 #[.agg #[.int .i64 lo, .int .i64 hi], .int .i64 m] w fun e w' => e = .returned (.bool (okSpan lo hi m)) ∧ Below w.heap.size w w' := by
  by_cases h1 : lo ≤ hi
  · go_enter Try.func64, Try.ntmps64
    go_wp2
    go_region_held3 (fun W => W.cell? ⟨w.heap.size, 0, none⟩ = some (.int .i64 lo) ∧ W.cell? ⟨w.heap.size, 1, none⟩ = some (.int .i64 hi))
      (first | go_keep | exact ⟨k0, k1⟩ | exact ⟨k2, k3⟩)
      (first
        | (go_at_call 63; refine (upTo_any _ _).mono ?_; rintro e w1 ⟨rfl, hB1⟩
           have hs1 := hB1.size
           have hw : w.heap.size < w1.heap.size := by have := hB1.size; (try simp at this); omega
           have k0 := (hB1.cell (p := ⟨w.heap.size, 0, none⟩) (by simp; try omega)).trans (by simp : _ = some (Value.int .i64 lo))
           have k1 := (hB1.cell (p := ⟨w.heap.size, 1, none⟩) (by simp; try omega)).trans (by simp : _ = some (Value.int .i64 hi)))
        | (go_at_call 62; refine (within_any 0 m _ 2 [lo, hi] _ _ (Nat.le_refl _) (by first | exact ints_lit _ (alloc_at0 _ _) rfl | exact ints_lit _ ((hB1.block _ (by simp)).trans (alloc2_at1 _ _ _)) rfl) (by simp)).mono ?_; rintro e w2 ⟨rfl, hB2⟩
           have k2 := (hB2.cell (p := ⟨w.heap.size, 0, none⟩) (by (try simp at hs1); (try simp); (try omega))).trans (by first | exact k0 | exact (World.cell?_alloc_lt _ _ _ hw).trans k0 : _ = some (Value.int .i64 lo))
           have k3 := (hB2.cell (p := ⟨w.heap.size, 1, none⟩) (by (try simp at hs1); (try simp); (try omega))).trans (by first | exact k1 | exact (World.cell?_alloc_lt _ _ _ hw).trans k1 : _ = some (Value.int .i64 hi))))
    all_goals
      have hs2 := hB2.size
      simp only [World.size_alloc, drew_size'] at hs1 hs2
      go_wp2
      go_ret
      first
        | exact ⟨by simp [okSpan, h1], ((((Below.refl _ w).alloc (Nat.le_refl _) _).drew.trans (hB1.mono (by rw [drew_size']; simp))).alloc (by omega) _).trans (hB2.mono (by simp; omega))⟩
        | exact ⟨by simp [okSpan, h1], ((((Below.refl _ w).alloc (Nat.le_refl _) _).alloc (by simp) _).drew.trans (hB1.mono (by rw [drew_size']; simp; omega))).trans (hB2.mono (by omega))⟩
  · have hd : decide (lo ≤ hi) = false := by simpa using h1
    go_enter Try.func64, Try.ntmps64
    go_wp2
    go_quiet (fail)
    go_wp2
    go_ret
    exact ⟨by simp [okSpan, hd], below_drewN ((Below.refl _ w).alloc (Nat.le_refl _) _) _⟩

end Go.Proofs.Ytkjdapgkojfbmaa
