/-
  The reference's Taken.
-/
import Derived.Test.YtkjdapgkojfbmaaRefI
namespace Go.Proofs.Ytkjdapgkojfbmaa
open Go.RowKit

/-- What was cut in a year, told from the oldest age downwards: k ages. -/
def takesTo (y : Int) (gone : List Int) : Nat → List (Int × Int)
  | 0 => []
  | k + 1 => takesTo y gone k ++ (if 0 < gone[gone.length - 1 - k]?.getD 0 then [(y - ((gone.length - 1 - k : Nat) : Int), gone[gone.length - 1 - k]?.getD 0)] else [])
theorem takesTo_len (y : Int) (gone : List Int) (k : Nat) : (takesTo y gone k).length ≤ k := by
  induction k with
  | zero => simp [takesTo]
  | succ k ih =>
    simp only [takesTo, List.length_append]
    split <;> simp <;> omega
theorem pairs_app (a b : List (Int × Int)) : pairs (a ++ b) = pairs a ++ pairs b := by simp [pairs]

def takenVal (g : Gr) (y : Int) : List (Int × Int) := if okGrove g = true ∧ hasY g y = true then takesTo y (goneAt g (y - g.first).toNat) g.start.length else []

def TakePost (w : World) (ts : List (Int × Int)) (er : Int) (e : Ending) (w' : World) : Prop :=
  ∃ A c, e = .returned (.tuple #[.slice A ts.length c, .int .i64 er]) ∧ Vals w' w'.heap.size A (pairs ts) ∧ Below w.heap.size w w'
theorem TakePost.nil {w w' : World} {er : Int} (h : Below w.heap.size w w') : TakePost w [] er (.returned (.tuple #[.slice none 0 0, .int .i64 er])) w' :=
  ⟨none, 0, rfl, fun h => by simp [pairs] at h, h⟩

theorem Try.info78 : (Try.prog.info? 78).map (fun i => (i.zero, i.size, i.bytes)) = some (some (.agg #[.int .i64 0, .int .i64 0]), 2, 16) := by kernel_rfl

theorem vals_new {w : World} {g B : Nat} {vs : List Value} {t : TypeId} {fr : Nat × Nat} (h : w.heap[g]? = some (.cells vs.toArray t fr)) (hB : g < B) : Vals w B (some ⟨g, 0, none⟩) vs := fun _ =>
  ⟨g, 0, rfl, hB, fun j u hj => by rw [Nat.zero_add, cell_of_row w g j _ _ _ h, List.getElem?_toArray]; exact hj⟩

theorem goneAt_len {g : Gr} (m : Nat) : (goneAt g m).length = g.start.length := by
  cases m with
  | zero => simp [goneAt]
  | succ m => simp only [goneAt]; rw [goneL_len, runL_len]
theorem goneAt_bnd {g : Gr} {d r : Nat} (R : Runs g d r) (m : Nat) (hm : m ≤ g.seas.length) : Bnd 0 30 (goneAt g m) := by
  cases m with
  | zero => exact Bnd.replicate _ (by omega) (by omega)
  | succ m =>
    have h2 := R.yr m (by omega)
    simp only [goneAt]
    exact (cutTo_bnd (nowL_bnd (R.bnd m (by omega)) h2.1.1 h2.1.2) h2.2.1.1 h2.2.1.2 _ (by rw [nowL_len, runL_len, R.pre.ls]; omega) _ (by omega)).2.1

set_option maxHeartbeats 2000000 in
theorem refTaken_any (g : Gr) (y : Int) (A1 : Option Addr) (c1 : Nat) (A2 : Option Addr) (c2 : Nat) (B : Nat) (w : World) (hB : B ≤ w.heap.size) (hG : GrAt w B g A1 c1 A2 c2) :
    Calls Try.prog 17 #[grv g A1 c1 A2 c2, .int .i64 y] w (TakePost w (takenVal g y) (standErr g y)) := by
  have HG := Lib.hid hG
  clear hG
  have hb0 : Below w.heap.size w (w.alloc (.cells #[.int .i64 g.id, .int .i64 g.hab.lo, .int .i64 g.hab.hi, .int .i64 g.hab.bears, .int .i64 g.hab.ripe, .int .i64 g.hab.dies, .int .i64 g.hab.keep, .int .i64 g.first, .slice A1 g.start.length c1, .slice A2 g.seas.length c2] 29)) := (Below.refl _ _).alloc (Nat.le_refl _) _
  have H := refGrove_any g A1 c1 A2 c2 B _ (by simp; omega) (HG.out.below (hb0.mono hB))
  have HH := Lib.hid H
  have Hb0 := Lib.hid hb0
  clear H hb0
  rw [show grv g A1 c1 A2 c2 = .agg #[.int .i64 g.id, .int .i64 g.hab.lo, .int .i64 g.hab.hi, .int .i64 g.hab.bears, .int .i64 g.hab.ripe, .int .i64 g.hab.dies, .int .i64 g.hab.keep, .int .i64 g.first, .slice A1 g.start.length c1, .slice A2 g.seas.length c2] from rfl]
  rcases Bool.eq_false_or_eq_true (okGrove g) with hp | hp
  · obtain ⟨d, r, R⟩ := okGrove_runs hp
    have f0 := R.pre.f0
    have f1 := R.pre.f1
    have l60 := R.pre.l60
    rcases Bool.eq_false_or_eq_true (hasY g y) with hy | hy
    · have hy' := hy
      simp only [hasY, inR_iff] at hy'
      obtain ⟨m, hm⟩ : ∃ m : Nat, y = g.first + m := ⟨(y - g.first).toNat, by omega⟩
      subst hm
      have hv : takenVal g (g.first + m) = takesTo (g.first + m) (goneAt g m) g.start.length := by
        simp only [takenVal, hp, hy, and_self, if_true]
        rw [show (g.first + (m : Int) - g.first).toNat = m by omega]
      have he : standErr g (g.first + m) = 0 := by simp [standErr, hp, hy]
      rw [hv, he]
      have hml : m ≤ g.seas.length := by omega
      have HP := Lib.hid hp
      have HYs := Lib.hid hy
      have hgl := Lib.hid (goneAt_len (g := g) m)
      have hgb := Lib.hid (goneAt_bnd R m hml)
      have hsl : g.start.length ≤ 7 ∧ 1 ≤ g.start.length := by have := R.pre.ls; have := R.pre.d6; omega
      rw [hp] at HH
      clear hp hy hv he hy' R
      go_enter Try.func17, Try.ntmps17
      go_wp2_with (first
        | (go_at_call 39; refine HH.out.mono ?_; rintro e w1 ⟨rfl, hB1⟩
           have cB1 := box_cells rfl hB1
           have HB1 := Lib.hid (Hb0.out.trans (hB1.mono (by simp)))
           have hw1 : w.heap.size < w1.heap.size := by have := hB1.size; simp at this; omega
           clear hB1)
        | (go_at_call 40; refine (refHas_any g _ A1 c1 A2 c2 _ f0 f1 l60).mono ?_; rintro e w2 ⟨rfl, hB2⟩
           rw [HYs.out]
           have cB2 := fun i => (hB2.cell (p := ⟨w.heap.size, i, none⟩) hw1).trans (cB1 i)
           have HB2 := Lib.hid (HB1.out.trans (hB2.mono (by omega)))
           have hw2 : w.heap.size < w2.heap.size := by have := hB2.size; omega
           clear hB2)
        | (go_at_call 41; refine (refAt_any g m A1 c1 A2 c2 B _ (by omega) (HG.out.below (HB2.out.mono hB)) HP.out hml).mono ?_; rintro e w3 ⟨p1, q1, p2, q2, rfl, hp1, hp2, hq1, hq2, hI1, hI2, hf1, hB3⟩
           have HI2 := Lib.hid hI2
           have HB3 := Lib.hid (HB2.out.trans (hB3.mono (by omega)))
           have hw3 : w.heap.size ≤ w3.heap.size := by have := hB3.size; omega
           clear hI1 hI2 hf1 hB3 hq1 hq2 cB1 cB2))
      obtain ⟨i0, hi, hz0, hz1, hz2⟩ := info_parts Try.info78
      have HI := Lib.hid (And.intro hi (And.intro hz0 (And.intro hz1 hz2)))
      clear hi hz0 hz1 hz2
      go_loopw [8, 9] (fun v i wr => ∃ (k : Nat) (A : Option Addr) (c : Nat), k ≤ g.start.length ∧ i = .int .i64 ((g.start.length : Int) - 1 - k) ∧ v = .slice A (takesTo (g.first + m) (goneAt g m) k).length c ∧
          Hid (wr.ownsRow w3.heap.size 78 2 (.slice A (takesTo (g.first + m) (goneAt g m) k).length c) (takesTo (g.first + m) (goneAt g m) k).length (pairs (takesTo (g.first + m) (goneAt g m) k))) ∧ Hid (Below w3.heap.size w3 wr))
        (fun _ i _ => (intOf i + 1).toNat)
      case atStart => exact ⟨0, none, 0, Nat.zero_le _, by simp, rfl, World.ownsRow_nil _ _ _ _, Below.refl _ _⟩
      case round =>
        obtain ⟨k, A, c, hk, rfl, rfl, hO, hBr⟩ := hrel
        by_cases hlt : k < g.start.length
        · obtain ⟨a, ha⟩ : ∃ a : Nat, a = g.start.length - 1 - k := ⟨_, rfl⟩
          have e1 : ((g.start.length : Int) - 1 - k) = (a : Int) := by omega
          obtain ⟨b, off, hA, hb, hc⟩ := HI2.out (by rw [hgl.out]; omega)
          simp only [Option.some.injEq, Addr.mk.injEq, and_true] at hA
          obtain ⟨rfl, rfl⟩ := hA
          have hx : wr.cell? ⟨p2, a, none⟩ = some (.int .i64 ((goneAt g m)[a]?.getD 0)) := (hBr.out.cell (p := ⟨p2, a, none⟩) hb).trans (by have := hc a (by rw [hgl.out]; omega); rwa [Nat.zero_add] at this)
          have hstep : takesTo (g.first + m) (goneAt g m) (k + 1) = takesTo (g.first + m) (goneAt g m) k ++ (if 0 < (goneAt g m)[a]?.getD 0 then [(g.first + m - (a : Int), (goneAt g m)[a]?.getD 0)] else []) := by
            simp only [takesTo, hgl.out, ← ha]
          have hxb := hgb.out a (by rw [hgl.out]; omega)
          have hlen := takesTo_len (g.first + m) (goneAt g m) k
          rw [e1]
          generalize (goneAt g m)[a]?.getD 0 = x at hx hstep hxb
          generalize takesTo (g.first + m) (goneAt g m) k = l at hO hstep hlen
          have Hs := Lib.hid hstep
          have hak : (a : Int) - 1 = (g.start.length : Int) - 1 - ((k + 1 : Nat) : Int) := by omega
          have Hak := Lib.hid hak
          have hal : (a : Int) < g.start.length := by omega
          have hws := hBr.out.size
          clear hstep hc ha e1 hak
          by_cases hpos : 0 < x
          · go_wp2_with (first
              | (at_builtin
                 refine wpl_app (by rfl) (.tmp 35) (.tmp 44) _ (by rfl) w3.heap.size 78 i0 _ 2 16 Try.underlying37 HI.out.1 HI.out.2.1 HI.out.2.2.1 HI.out.2.2.2 rfl (by omega) _ l.length (pairs l) (by rfl) (hO.out.alloc _)
                   (wr.heap.size + 1) (some ⟨wr.heap.size, 0, none⟩) 1 1 [.int .i64 (g.first + m - (a : Int)), .int .i64 x] (by rfl) (vals_new (alloc_at0 _ _) (by omega)) (by simp) (by simp [Value.oneCell']) (by simp only [maxLen]; omega) (by omega) (by simp; omega) ?_
                 go_must (
                 intro v' w4 hown hgrow hat
                 have hne : v' ≠ .slice none 0 0 := by
                   rintro rfl
                   have h1 := hown.1
                   rcases hown.2 with ⟨_, h2⟩ | ⟨_, _, _, h2, _⟩
                   · omega
                   · cases h2
                 obtain ⟨g4, c4, rfl, hg4, hg4s⟩ := own_form hown hne
                 have HO4 := Lib.hid hown
                 have HB4 := Lib.hid (((Below.refl w3.heap.size wr).alloc hws _).grown hgrow (by simp; omega) (fun k e => by have := hO.out.lt k e; omega))
                 clear hown hgrow hat hne))
              | fail)
            go_roundw
            case rel => exact ⟨k + 1, some ⟨g4, 0, none⟩, c4, by omega, by rw [Hak.out], by rw [Hs.out]; simp [hpos], by rw [Hs.out]; simpa [hpos, pairs, Hid] using HO4.out, hBr.out.trans HB4.out⟩
            case measure => simp [intOf] <;> omega
          · go_wp2
            go_roundw
            case rel => exact ⟨k + 1, A, c, by omega, by rw [Hak.out], by rw [Hs.out]; simp [hpos], by rw [Hs.out]; simp only [hpos, if_false, List.append_nil]; exact hO, hBr⟩
            case measure => simp [intOf] <;> omega
        · obtain rfl : k = g.start.length := by omega
          have e1 : ((g.start.length : Int) - 1 - g.start.length) = -1 := by omega
          rw [e1]
          clear e1
          go_wp2
          go_ret2
          exact ⟨A, c, rfl, Vals.own hO.out, HB3.out.trans (hBr.out.mono hw3)⟩
    · have hv : takenVal g y = [] := by simp [takenVal, hp, hy]
      have he : standErr g y = 6 := by simp [standErr, hp, hy]
      rw [hv, he]
      have HYs := Lib.hid hy
      rw [hp] at HH
      clear hp hy hv he R
      go_enter Try.func17, Try.ntmps17
      go_wp2_with (first
        | (go_at_call 39; refine HH.out.mono ?_; rintro e w1 ⟨rfl, hB1⟩
           have cB1 := box_cells rfl hB1
           have HB1 := Lib.hid (Hb0.out.trans (hB1.mono (by simp)))
           have hw1 : w.heap.size < w1.heap.size := by have := hB1.size; simp at this; omega
           clear hB1)
        | (go_at_call 40; refine (refHas_any g _ A1 c1 A2 c2 _ f0 f1 l60).mono ?_; rintro e w2 ⟨rfl, hB2⟩
           rw [HYs.out]
           have HB2 := Lib.hid (HB1.out.trans (hB2.mono (by omega)))
           clear hB2))
      go_ret2
      exact TakePost.nil HB2.out
  · have hv : takenVal g y = [] := by simp [takenVal, hp]
    have he : standErr g y = 10 := by simp [standErr, hp]
    rw [hv, he]
    rw [hp] at HH
    clear hp hv he
    go_enter Try.func17, Try.ntmps17
    go_wp2_with (first
      | (go_at_call 39; refine HH.out.mono ?_; rintro e w1 ⟨rfl, hB1⟩
         have HB1 := Lib.hid (Hb0.out.trans (hB1.mono (by simp)))
         clear hB1))
    go_ret2
    exact TakePost.nil HB1.out

end Go.Proofs.Ytkjdapgkojfbmaa
