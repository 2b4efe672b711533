/-
  The program's Stand.
-/
import Derived.Test.YtkjdapgkojfbmaaRecE
import Derived.Laws.Cover3
namespace Go.Proofs.Ytkjdapgkojfbmaa
open Go.RowKit Go.Shelf

theorem recordOf_any (g : Gr) (y : Int) (A1 : Option Addr) (c1 : Nat) (A2 : Option Addr) (c2 : Nat) (B : Nat) (w : World) (hB : B ≤ w.heap.size) (hG : GrAt w B g A1 c1 A2 c2) :
    Calls Try.prog 37 #[grv g A1 c1 A2 c2, .int .i64 y] w fun e w' => e = .returned (.tuple #[recR g y, .int .i64 (standErr g y)]) ∧ Below w.heap.size w w' := by
  cases h : okGrove g with
  | true => exact recordOf_ok g y A1 c1 A2 c2 B w hB hG h
  | false => exact recordOf_bad g y A1 c1 A2 c2 B w hB hG h

theorem run_eql_slice_nil {P : Program} (w : World) (t e : TypeId) (a : Option Addr) (l c : Nat) (h : P.underlying t = some (.slice e)) : (binOp .eql t (.slice a l c) (.slice none 0 0)).run P w = .ok (.bool a.isNone) w := by
  simp only [binOp]
  simp [run_equal_slice_nil w t e a l c h]

def ClonePost (w : World) (zs : List Int) (e : Ending) (w' : World) : Prop :=
  ∃ g1 c1, e = .returned (.slice (some ⟨g1, 0, none⟩) zs.length c1) ∧ zs.length ≤ c1 ∧ w.heap.size ≤ g1 ∧ Ints w' w'.heap.size (some ⟨g1, 0, none⟩) zs ∧ (∀ k, w'.frozen? ⟨g1, k, none⟩ = false) ∧ Below w.heap.size w w'

set_option maxRecDepth 100000 in
set_option maxHeartbeats 1000000 in
theorem clone_any (b off cap : Nat) (zs : List Int) (B : Nat) (w : World) (hB : B ≤ w.heap.size) (hl : zs.length ≤ 1000) (hI : Ints w B (some ⟨b, off, none⟩) zs) :
    Calls Try.prog 38 #[.slice (some ⟨b, off, none⟩) zs.length cap] w (ClonePost w zs) := by
  obtain ⟨i0, hi, hz0, hz1, hz2⟩ := info_parts Try.info3
  have HI := Lib.hid (And.intro hi (And.intro hz0 (And.intro hz1 hz2)))
  have h1 := oneCells_ints zs
  have hsl : (ints zs).length = zs.length * 1 := by simp [ints]
  have HV := Lib.hid ((hI.mono hB).vals)
  have Hsl := Lib.hid hsl
  clear hI hi hz0 hz1 hz2 hsl
  have hnil : ∀ W, (binOp .eql 26 (.slice (some ⟨b, off, none⟩) zs.length cap) (.slice none 0 0)).run Try.prog W = .ok (.bool false) W := fun W => run_eql_slice_nil W 26 3 (some ⟨b, off, none⟩) zs.length cap Try.underlying26
  go_enter Try.func38, Try.ntmps38
  go_wp2_with (first
    | (at_builtin
       refine wpl_clone (by rfl) (.tmp 5) (.tmp 6) _ (by rfl) w.heap.size 3 i0 _ 1 8 Try.underlying26 HI.out.1 HI.out.2.1 HI.out.2.2.1 HI.out.2.2.2 rfl (by omega) _ (by rfl) (alloc_at0 _ _) (by omega)
         w.heap.size (some ⟨b, off, none⟩) zs.length cap (ints zs) (by rfl) (HV.out.below ((Below.refl _ _).alloc (Nat.le_refl _) _)) Hsl.out h1 (by simp only [maxLen]; omega) (by omega) ?_
       intro x1 y1 w3 hown hgrow hat hx1 hx1s
       have HO := Lib.hid hown
       have HB3 := Lib.hid (Below.ofGrown ((Below.refl w.heap.size w).alloc (Nat.le_refl _) _) hgrow (by simp) (Nat.le_refl _))
       clear hown hgrow hat)
    | fail)
  go_ret
  exact ⟨x1, y1, rfl, own_cap HO.out, hx1, (Vals.own HO.out).ints, fun j => HO.out.frozenAt j, HB3.out⟩

theorem recC_at {p : Int × Int} {x : Int} {a b : List Int} (ha : a.length = 7) {k : Nat} : (k < a.length → (recC p x a b)[3 + k]? = some (.int .i64 (a[k]?.getD 0))) ∧ (k < b.length → (recC p x a b)[10 + k]? = some (.int .i64 (b[k]?.getD 0))) := by
  constructor
  · intro hk
    rw [show 3 + k = k + 1 + 1 + 1 by omega]
    simp only [recC, List.getElem?_cons_succ]
    rw [List.getElem?_append_left (by simpa [ints] using hk)]
    exact ints_atL a k hk
  · intro hk
    rw [show 10 + k = (7 + k) + 1 + 1 + 1 by omega]
    simp only [recC, List.getElem?_cons_succ]
    rw [List.getElem?_append_right (by simp [ints, ha]), show 7 + k - (ints a).length = k by simp [ints, ha]]
    exact ints_atL b k hk

/-- What recordOf hands back of a year of the book. -/
theorem recR_in {g : Gr} {y : Int} {d r : Nat} (R : Runs g d r) (hok : okGrove g = true) (hy : hasY g y = true) : ∃ m, m ≤ g.seas.length ∧ y = g.first + m ∧ recR g y = .agg (recA g d r m).toArray ∧ standErr g y = 0 ∧
    standVal g y = runL g.start (g.seas.take m) ∧ takenVal g y = takesTo y (goneAt g m) g.start.length := by
  have hf := R.fine
  have hy' := hy
  simp only [hasY, inR_iff] at hy'
  refine ⟨(y - g.first).toNat, by omega, by omega, ?_, by simp [standErr, hok, hy], by simp [standVal, hok, hy], by simp [takenVal, hok, hy]⟩
  rw [recR, if_pos ⟨hok, hy⟩, hf.hd, hf.hr, Int.toNat_natCast, Int.toNat_natCast, recK_A]

set_option maxHeartbeats 2000000 in
theorem stand_out (g : Gr) (y : Int) (A1 : Option Addr) (c1 : Nat) (A2 : Option Addr) (c2 : Nat) (B : Nat) (w : World) (hB : B ≤ w.heap.size) (hG : GrAt w B g A1 c1 A2 c2) (hno : ¬ (okGrove g = true ∧ hasY g y = true)) :
    Calls Try.prog 14 #[grv g A1 c1 A2 c2, .int .i64 y] w (ListPost w (standVal g y) (standErr g y)) := by
  have eR : recR g y = .agg zero17 := by rw [recR, if_neg hno]; rfl
  have eV : standVal g y = [] := by rw [standVal, if_neg hno]
  have eE : standErr g y = 6 ∨ standErr g y = 10 := by
    unfold standErr
    split
    · split
      · rename_i h1 h2; exact absurd ⟨h1, h2⟩ hno
      · exact .inl rfl
    · exact .inr rfl
  have H := recordOf_any g y A1 c1 A2 c2 B (w.alloc (.cells (gcs g A1 c1 A2 c2) 29)) (by simp; omega) (hG.below ((Below.refl _ _).alloc hB _))
  rw [eR] at H
  rw [eV]
  generalize standErr g y = er at H eE ⊢
  have HH := Lib.hid H
  clear H eR eV hG hno
  unfold grv
  rcases eE with rfl | rfl
  all_goals
    go_enter Try.func14, Try.ntmps14
    go_wp2_with
      (go_at_call 37
       refine HH.out.mono ?_
       rintro e w1 ⟨rfl, hB1⟩
       have hs1 := hB1.size
       simp only [World.size_alloc] at hs1
       have B1 := Lib.hid (((Below.refl _ w).alloc (Nat.le_refl _) _).trans (hB1.mono (by simp)))
       clear hB1)
    go_ret2
    exact ListPost.nil (B1.out.alloc (by omega) _)

end Go.Proofs.Ytkjdapgkojfbmaa
