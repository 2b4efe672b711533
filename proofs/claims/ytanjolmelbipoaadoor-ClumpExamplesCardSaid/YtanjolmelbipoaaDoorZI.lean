/-
  The program's mostOf and Most.
-/
import Derived.Test.YtanjolmelbipoaaDoorZH
import Derived.Laws.EntriesVeiled
import Derived.Test.YtanjolmelbipoaaDoorZD
namespace Go.Proofs.YtanjolmelbipoaaDoor
open Go.RowKit Go.Maps

theorem FromPost.mono {s : Nat} {h : Hab} {d r b : Nat} {ps : List (Int × Int)} {n n' y : Nat} {l : List Int} {w : World} {e : Ending} {w' : World} (hp : FromPost s h d r b ps n y l w e w') (hn : n ≤ n') : FromPost s h d r b ps n' y l w e w' :=
  ⟨hp.1, hp.2.1.mono hn, hp.2.2⟩

theorem from_any {s : Nat} {h : Hab} {d r b : Nat} {c0 : List Int} {A : Option Addr} {k : Nat} {ps : List (Int × Int)} (H : HabOk h d r b) (hr : rainsOk ps = true) : ∀ (m y : Nat) (l : List Int) (n : Nat) (w : World), y + m = ps.length → l.length = d + 1 → Bnd 0 (30 * 11 ^ y) l →
    EnvM s h c0 A k ps w → Memo h d r b ps (s + 3) n w → n + kept m ≤ 40000 →
    Calls Tryd.prog 38 #[stv y (pad7 l), .pointer (some ⟨s + 1, 0, none⟩), .pointer (some ⟨s + 4, 0, none⟩), .pointer (some ⟨s, 0, none⟩), .pointer (some ⟨s + 5, 0, none⟩)] w (FromPost s h d r b ps (n + kept m) y l w)
  | 0, y, l, n, w, hy, hl, _, hE, hM, _ => by
    obtain rfl : y = ps.length := by omega
    exact from_zero (rainsOk_len hr).2 l (pad7_len (by have := H.d6; omega)) hE hM
  | m + 1, y, l, n, w, hy, hl, hb, hE, hM, hn => by
    have h4 := (rainsOk_len hr).2
    have hp := pow11 (k := y) (by omega)
    have hp0 : (30 : Int) ≤ 30 * 11 ^ y := by
      match y, (show y < 4 by omega) with
      | 0, _ => decide
      | 1, _ => decide
      | 2, _ => decide
      | 3, _ => decide
    obtain ⟨kl, hkey⟩ := stv_key y (by omega) (pad7_len (l := l) (by have := H.d6; omega)) (fun j hj => by have := pad7_bnd hb (by omega) j hj; omega)
    obtain ⟨D, hown, hR⟩ := hM
    cases hok : Maps.has D kl with
    | true => exact (from_hit h4 (by omega) l hl H.d6 hkey hE hown hR hok).mono (fun _ _ hp => hp.mono (by omega))
    | false =>
      refine from_miss H hr hy l hl hb hp hp0 hkey hE hown hR hok hn (fun l' n' W hl' hb' hE' hM' hn' => ?_)
      exact from_any H hr m (y + 1) l' n' W (by omega) hl' (by rw [Int.pow_succ]; rw [show (30 : Int) * (11 ^ y * 11) = 11 * (30 * 11 ^ y) by rw [← Int.mul_assoc, Int.mul_comm]]; exact hb') hE' hM' hn'

set_option maxRecDepth 100000 in
set_option maxHeartbeats 4000000 in
theorem mostOf_any (h : Hab) (d r b : Nat) (H : HabOk h d r b) (c0 : List Int) (hc0 : c0.length = d + 1) (hb0 : Bnd 0 30 c0) (A : Option Addr) (k : Nat) (ps : List (Int × Int)) (hr : rainsOk ps = true) (B : Nat) (w : World) (hB : B ≤ w.heap.size) (hV : Vals w B A (pairs ps)) :
    Calls Tryd.prog 24 #[gv h (pad7 c0), .slice A ps.length k] w fun e w' => e = .returned (ansV h r b ps 0 c0) ∧ Below w.heap.size w w' := by
  have hmm := @run_makeMap Tryd.prog
  have hmf : ∀ (fn : Fn) (first cap : Array Value) (w : World), (Instr.makeFunc fn first cap).run Tryd.prog w = .ok (.func fn first cap) w := fun _ _ _ _ => rfl
  have h7 := pad7_len (l := c0) (by have := H.d6; omega)
  have rowG : RowTy Tryd.prog 71 (gl h (pad7 c0)).length := by rw [gl_len h7]; exact rowGrove
  rw [show gv h (pad7 c0) = .agg (gl h (pad7 c0)).toArray from rfl]
  obtain ⟨wA, hwA⟩ : ∃ wA, w.alloc (.cells (gl h (pad7 c0)).toArray 71) = wA := ⟨_, rfl⟩
  have sA : wA.heap.size = w.heap.size + 1 := by rw [← hwA]; simp
  obtain ⟨wB, hwB⟩ : ∃ wB, wA.alloc (.cells #[.slice A ps.length k] 43) = wB := ⟨_, rfl⟩
  have sB : wB.heap.size = w.heap.size + 2 := by rw [← hwB]; simp [sA]
  obtain ⟨wC, hwC⟩ : ∃ wC, wB.alloc (.cells #[.bool false, .int .i64 0, .int .i64 0, .int .i64 0, .int .i64 0, .int .i64 0] 75) = wC := ⟨_, rfl⟩
  have sC : wC.heap.size = w.heap.size + 3 := by rw [← hwC]; simp [sB]
  obtain ⟨wD, hwD⟩ : ∃ wD, wC.alloc (.map #[] 0) = wD := ⟨_, rfl⟩
  have sD : wD.heap.size = w.heap.size + 4 := by rw [← hwD]; simp [sC]
  obtain ⟨wE, hwE⟩ : ∃ wE, wD.alloc (.cells #[.map (some (w.heap.size + 3))] 93) = wE := ⟨_, rfl⟩
  have sE : wE.heap.size = w.heap.size + 5 := by rw [← hwE]; simp [sD]
  obtain ⟨wF, hwF⟩ : ∃ wF, wE.alloc (.cells #[fromV w.heap.size] 94) = wF := ⟨_, rfl⟩
  have sF : wF.heap.size = w.heap.size + 6 := by rw [← hwF]; simp [sE]
  have gF : w.grownBy wF none := by rw [← hwF, ← hwE, ← hwD, ← hwC, ← hwB, ← hwA]; exact grown_trans (grown_trans (grown_trans (grown_trans (grown_trans (World.grownBy_alloc _ _ _) (World.grownBy_alloc _ _ _)) (World.grownBy_alloc _ _ _)) (World.grownBy_alloc _ _ _)) (World.grownBy_alloc _ _ _)) (World.grownBy_alloc _ _ _)
  have f0 : wF.heap[w.heap.size]? = some (.cells (gl h (pad7 c0)).toArray 71 (0, 0)) := by
    rw [← hwF, Below.heap_alloc _ _ _ (by omega), ← hwE, Below.heap_alloc _ _ _ (by omega), ← hwD, Below.heap_alloc _ _ _ (by omega), ← hwC, Below.heap_alloc _ _ _ (by omega), ← hwB, Below.heap_alloc _ _ _ (by omega), ← hwA]; exact alloc_at0 w _
  have f1 : wF.heap[w.heap.size + 1]? = some (.cells #[.slice A ps.length k] 43 (0, 0)) := by
    rw [← hwF, Below.heap_alloc _ _ _ (by omega), ← hwE, Below.heap_alloc _ _ _ (by omega), ← hwD, Below.heap_alloc _ _ _ (by omega), ← hwC, Below.heap_alloc _ _ _ (by omega), ← hwB, ← sA]; exact alloc_at0 wA _
  have f2 : wF.heap[w.heap.size + 2]? = some (.cells (hvl (false, 0, [0, 0, 0, 0])).toArray 75 (0, 0)) := by
    rw [← hwF, Below.heap_alloc _ _ _ (by omega), ← hwE, Below.heap_alloc _ _ _ (by omega), ← hwD, Below.heap_alloc _ _ _ (by omega), ← hwC, ← sB]; exact alloc_at0 wB _
  have f4 : wF.heap[w.heap.size + 4]? = some (.cells #[.map (some (w.heap.size + 3))] 93 (0, 0)) := by
    rw [← hwF, Below.heap_alloc _ _ _ (by omega), ← hwE, ← sD]; exact alloc_at0 wD _
  have f5 : wF.heap[w.heap.size + 5]? = some (.cells #[fromV w.heap.size] 94 (0, 0)) := by
    rw [← hwF, ← sE]; exact alloc_at0 wE _
  have fM : Memo h d r b ps (w.heap.size + 3) 0 wF := by
    have h0 : Memo h d r b ps (w.heap.size + 3) 0 wD := by rw [← hwD, ← sC]; exact Memo.made wC
    refine h0.kept (row := none) ?_ (by simp)
    rw [← hwF, ← hwE]
    exact grown_trans (World.grownBy_alloc _ _ _) (World.grownBy_alloc _ _ _)
  have hE : EnvM w.heap.size h (pad7 c0) A k ps wF := ⟨f0, f1, f4, f5, (hV.mono hB).below ⟨gF.os, gF.tape, gF.output, gF.size, fun j hj => gF.block j hj (by simp)⟩, by omega⟩
  have hcall := from_any H hr ps.length 0 c0 0 wF (by omega) hc0 (by simpa using hb0) hE fM (by have := kept_le (rainsOk_len hr).2; omega)
  have hst : stv 0 (pad7 c0) = .agg (Value.int .i64 0 :: ints (pad7 c0)).toArray := by simp [stv, stl]
  rw [hst] at hcall
  have hff := cell_of_row wF (w.heap.size + 5) 0 _ _ _ f5
  simp only [List.getElem?_toArray, List.getElem?_cons_zero] at hff
  unfold fromV at hwF hff
  have hans : ansV h r b ps 0 c0 = .agg (hvl (hvT 0 (bestL h r b ps c0))).toArray := rfl
  have hvl4 : (hvT 0 (bestL h r b ps c0)).2.2.length = 4 := hvT_len (m := ps.length) (by have := (rainsOk_len hr).2; omega) (bestL_good h r b ps c0)
  generalize hvT 0 (bestL h r b ps c0) = X at hans hvl4
  have rowX : RowTy Tryd.prog 75 (hvl X).length := by rw [hvl_len hvl4]; exact rowHarvest
  have HC := Lib.hid (And.intro f0 (And.intro f2 (And.intro gF (And.intro h7 (And.intro hcall (And.intro hans (And.intro rowX (hvl_len hvl4))))))))
  clear f0 f1 f2 f4 f5 fM hE hcall gF H hc0 hb0 hr hV h7 rowG hB hst hvl4 rowX
  go_enter Tryd.func24, Tryd.ntmps24
  go_wp2_with (first
    | (show wpList _ _ _ (Oper.mk (some 11) _ _ _ _ _ :: _) _ _
       refine wpList_load_blk 58 (.tmp 10) rfl rfl rfl HC.out.1 (ints (pad7 c0)) (culms_at h _) (by rw [ints_len, HC.out.2.2.2.1]; exact rowCulms) ?_)
    | (show wpList _ _ _ (Oper.mk (some 12) _ _ _ _ _ :: _) _ _
       refine wpList_build2 96 (.const (.int .i64 0)) (.tmp 11) rfl rfl rfl rfl (state_built _ HC.out.2.2.2.1) ?_)
    | (go_at_call 38; refine (HC.out.2.2.2.2.1).mono ?_
       rintro e w1 ⟨rfl, -, hg1⟩
       rw [HC.out.2.2.2.2.2.1]
       have h2 := (hg1.block (w.heap.size + 2) (by omega) (by simp)).trans HC.out.2.1
       have H1 := Lib.hid (And.intro hg1 h2)
       clear hg1 h2)
    | (show wpList _ _ _ (Oper.mk none (Op.store _ (Operand.tmp 4) (Operand.tmp 13)) _ _ _ _ :: _) _ _
       refine wpList_store_blk 75 (.tmp 4) (.tmp 13) rfl rfl rfl rfl rfl H1.out.2 (by rw [HC.out.2.2.2.2.2.2.2]; decide) (hvl_one _) HC.out.2.2.2.2.2.2.1 ?_
       intro w2 hP2 hM2
       rw [splice_all (by rw [HC.out.2.2.2.2.2.2.2]; rfl)] at hM2
       have H2 := Lib.hid (And.intro hP2 hM2)
       clear hP2 hM2))
  have hg := HC.out.2.2.1
  have hg1 := H1.out.1
  have hP := H2.out.1
  have hbel : Below w.heap.size w w2 := ⟨hP.os.trans (hg1.os.trans hg.os), hP.tape.trans (hg1.tape.trans hg.tape), hP.output.trans (hg1.output.trans hg.output), by rw [hP.size]; exact Nat.le_trans hg.size hg1.size,
    fun j hj => (hP.other j (by omega)).trans ((hg1.block j (by omega) (by simp; omega)).trans (hg.block j hj (by simp)))⟩
  have he := HC.out.2.2.2.2.2.1
  have hM := H2.out.2
  have h6 := HC.out.2.2.2.2.2.2.2
  have HBL := Lib.hid hbel
  clear hbel hg hg1 hP
  generalize hvl X = L at hM he h6 ⊢
  obtain ⟨z0, z1, z2, z3, z4, z5, rfl⟩ := len6 h6
  have hres : ∀ i, w2.cell? ⟨w.heap.size + 2, i, none⟩ = _ := fun i => cell_of_row w2 (w.heap.size + 2) i _ _ _ hM
  refine bodyPost_ret (v := .agg #[z0, z1, z2, z3, z4, z5]) (by simp [results, Tryd.results24, go_sem, hres]) rfl ⟨by rw [he], HBL.out⟩

end Go.Proofs.YtanjolmelbipoaaDoor

namespace Go.Proofs.YtanjolmelbipoaaDoor
open Go.RowKit

attribute [local go_sem] gives

/-- What Most tells: the plan, its culms, the error. -/
def mostR (g : Gr) (ps : List (Int × Int)) : List Int × Int × Int :=
  if okGrove g = true then (if rainsOk ps = true then mostOut (bestL g.hab g.hab.ripe.toNat g.hab.bears.toNat ps (lastL g)) else ([], 0, 11)) else ([], 0, 10)

def MostPost (w : World) (x : List Int × Int × Int) (e : Ending) (w' : World) : Prop :=
  ∃ A c, e = .returned (.tuple #[.slice A x.1.length c, .int .i64 x.2.1, .int .i64 x.2.2]) ∧ x.1.length ≤ c ∧ Ints w' w'.heap.size A x.1 ∧ Below w.heap.size w w'
theorem MostPost.nil {w w' : World} {er : Int} (h : Below w.heap.size w w') : MostPost w ([], 0, er) (.returned (.tuple #[.slice none 0 0, .int .i64 0, .int .i64 er])) w' :=
  ⟨none, 0, rfl, Nat.le_refl _, fun h => by simp at h, h⟩

/-- Where the end of Most is. -/
structure MoAt (w : World) (g8 : Nat) (X : List Value) (W : World) : Prop where
  h8 : W.heap[g8]? = some (.cells X.toArray 75 (0, 0))
  bel : Below w.heap.size w W
  le : w.heap.size ≤ g8
theorem MoAt.next {w : World} {g8 : Nat} {X : List Value} {W W' : World} (h : MoAt w g8 X W) (hg : Grows W W') : MoAt w g8 X W' :=
  ⟨(hg.block _ (lt_of_heap h.h8)).trans h.h8, h.bel.trans (hg.mono (by have := h.bel.size; omega)), h.le⟩
/-- The plan's copy. -/
def PlF (p : List Int) : Fact := fun v W => ∃ A c, v = .slice A p.length c ∧ p.length ≤ c ∧ Ints W W.heap.size A p
theorem PlF.next {p : List Int} {v : Value} {W W' : World} (h : PlF p v W) (hg : Grows W W') : PlF p v W' := by
  obtain ⟨A, c, h1, h2, h3⟩ := h
  exact ⟨A, c, h1, h2, (h3.below hg).mono hg.size⟩

theorem vals_in {w : World} {g B o : Nat} {L vs : List Value} {t : TypeId} {fr : Nat × Nat} (h : w.heap[g]? = some (.cells L.toArray t fr)) (hB : g < B) (hv : ∀ j v, vs[j]? = some v → L.toArray[o + j]? = some v) : Vals w B (some ⟨g, o, none⟩) vs := fun _ =>
  ⟨g, o, rfl, hB, fun j v hj => (cell_of_row w g (o + j) _ _ _ h).trans (hv j v hj)⟩

set_option maxHeartbeats 4000000 in
theorem mostP_any (g : Gr) (A1 : Option Addr) (c1 : Nat) (A2 : Option Addr) (c2 : Nat) (P1 : Option Addr) (k1 : Nat) (ps : List (Int × Int)) (B : Nat) (w : World) (hB : B ≤ w.heap.size) (hG : GrAt w B g A1 c1 A2 c2)
    (hV1 : Vals w B P1 (pairs ps)) (l1 : ps.length ≤ 9223372036854775807) :
    Calls Tryd.prog 13 #[grv g A1 c1 A2 c2, .slice P1 ps.length k1] w (MostPost w (mostR g ps)) := by
  have HG := Lib.hid hG
  have HV := Lib.hid hV1
  obtain ⟨w0, hw0⟩ : ∃ w0, w.alloc (.cells (gcs g A1 c1 A2 c2) 34) = w0 := ⟨_, rfl⟩
  have hb0 : Below w.heap.size w w0 := by rw [← hw0]; exact (Below.refl _ _).alloc (Nat.le_refl _) _
  have hs0 : w0.heap.size = w.heap.size + 1 := by rw [← hw0]; simp
  have hm0 : w0.heap[w.heap.size]? = some (.cells (gcs g A1 c1 A2 c2) 34 (0, 0)) := by rw [← hw0]; exact alloc_at0 w _
  have hc0 := fun i => cell_of_row w0 w.heap.size i _ _ _ hm0
  have B0 := Lib.hid (And.intro hb0 (And.intro hm0 hw0))
  have HS0 := Lib.hid hs0
  clear hG hV1 hb0 hm0 hs0
  have stop : ∀ er W, Below w.heap.size w W → MostPost w ([], 0, er) (.returned (.tuple #[.slice none 0 0, .int .i64 0, .int .i64 er])) W := fun er W h => MostPost.nil h
  have STOP := Lib.hid stop
  clear stop
  rcases Bool.eq_false_or_eq_true (okGrove g) with hok | hok
  case inr =>
    have e1 : mostR g ps = ([], 0, 10) := by simp [mostR, hok]
    have e3 : errG g = 10 := by simp [errG, hok]
    rw [e1]
    have E3 := Lib.hid e3
    clear e1 e3 hok
    unfold grv
    simp only [gcs] at hw0
    go_enter Tryd.func13, Tryd.ntmps13
    go_wp2_with
      (go_at_call 14; refine (check_any g A1 c1 A2 c2 B w0 (by have := HS0.out; omega) (HG.out.below (B0.out.1.mono hB))).mono ?_; rintro e w1 ⟨rfl, hB1⟩; rw [E3.out]; have H1 := Lib.hid hB1; clear hB1)
    go_ret3
    exact STOP.out 10 _ (B0.out.1.trans (H1.out.mono (by have := HS0.out; omega)))
  case inl =>
    have e3 : errG g = 0 := by simp [errG, hok]
    have E3 := Lib.hid e3
    clear e3
    rcases Bool.eq_false_or_eq_true (rainsOk ps) with hr | hr
    case inr =>
      have e1 : mostR g ps = ([], 0, 11) := by simp [mostR, hok, hr]
      rw [e1]
      have HR := Lib.hid hr
      clear e1 hok hr
      unfold grv
      simp only [gcs] at hw0
      go_enter Tryd.func13, Tryd.ntmps13
      go_wp2_with (first
        | (go_at_call 14; refine (check_any g A1 c1 A2 c2 B w0 (by have := HS0.out; omega) (HG.out.below (B0.out.1.mono hB))).mono ?_; rintro e w1 ⟨rfl, hB1⟩; rw [E3.out]; have H1 := Lib.hid (B0.out.1.trans (hB1.mono (by have := HS0.out; omega))); clear hB1)
        | (go_at_call 20; refine (validRains_any P1 k1 ps B w1 (Nat.le_trans hB H1.out.size) (HV.out.below (H1.out.mono hB)) l1).mono ?_; rintro e w2 ⟨rfl, hB2⟩; rw [HR.out]; have H2 := Lib.hid (H1.out.trans (hB2.mono H1.out.size)); clear hB2))
      go_ret3
      exact STOP.out 11 _ H2.out
    case inl =>
      obtain ⟨d, r, R⟩ := okGrove_runs hok
      have hab := habOk_of hok R
      have e2 : mostR g ps = mostOut (bestL g.hab r g.hab.bears.toNat ps (lastL g)) := by
        have : g.hab.ripe.toNat = r := by rw [R.pre.hr, Int.toNat_natCast]
        simp [mostR, hok, hr, this]
      have hat := fun W hBW hGW => atWork_any g A1 c1 A2 c2 d r R.fine B W hBW hGW
      rw [lastL_pad R] at hat
      have hmo := fun W hBW h1 => mostOf_any g.hab d r g.hab.bears.toNat hab (lastL g) (lastL_len R) (lastL_bnd R) P1 k1 ps hr B W hBW h1
      unfold ansV at hmo
      rw [List.drop_zero] at hmo
      have hgood := bestL_good g.hab r g.hab.bears.toNat ps (lastL g)
      have h4 := (rainsOk_len hr).2
      have hv4 : (hvT 0 (bestL g.hab r g.hab.bears.toNat ps (lastL g))).2.2.length = 4 := hvT_len (m := ps.length) (by omega) hgood
      rw [e2]
      generalize bestL g.hab r g.hab.bears.toNat ps (lastL g) = o at hmo hgood hv4 ⊢
      have rowX : RowTy Tryd.prog 75 (hvl (hvT 0 o)).length := by rw [hvl_len hv4]; exact rowHarvest
      have HX := Lib.hid (And.intro rowX (hvl_len hv4))
      have HA := Lib.hid hat
      have HL := Lib.hid hmo
      have HR := Lib.hid hr
      clear e2 hok hr R hab hat hmo rowX
      unfold grv
      simp only [gcs] at hw0
      cases o with
      | none =>
        go_enter Tryd.func13, Tryd.ntmps13
        go_wp2_with (first
          | (go_at_call 14; refine (check_any g A1 c1 A2 c2 B w0 (by have := HS0.out; omega) (HG.out.below (B0.out.1.mono hB))).mono ?_; rintro e w1 ⟨rfl, hB1⟩; rw [E3.out]
             have hw1 : w.heap.size < w1.heap.size := by have := HS0.out; have := hB1.size; omega
             have H1 := Lib.hid (And.intro (B0.out.1.trans (hB1.mono (by have := HS0.out; omega))) ((hB1.block _ (by have := HS0.out; omega)).trans B0.out.2.1)); clear hB1)
          | (go_at_call 20; refine (validRains_any P1 k1 ps B w1 (Nat.le_trans hB H1.out.1.size) (HV.out.below (H1.out.1.mono hB)) l1).mono ?_; rintro e w2 ⟨rfl, hB2⟩; rw [HR.out]
             have H2 := Lib.hid (And.intro (H1.out.1.trans (hB2.mono H1.out.1.size)) ((hB2.block _ hw1).trans H1.out.2))
             have hc3 := fun i => cell_of_row w2 w.heap.size i _ _ _ H2.out.2
             clear hB2 hc0)
          | (go_at_call 23; refine (HA.out w2 (Nat.le_trans hB H2.out.1.size) (HG.out.below (H2.out.1.mono hB))).mono ?_; rintro e w4 ⟨rfl, hB4⟩
             have H4 := Lib.hid (H2.out.1.trans (hB4.mono H2.out.1.size)); clear hB4)
          | (go_at_call 24; refine (HL.out w4 (Nat.le_trans hB H4.out.size) (HV.out.below (H4.out.mono hB))).mono ?_; rintro e w5 ⟨rfl, hB5⟩
             have H5 := Lib.hid (H4.out.trans (hB5.mono H4.out.size)); clear hB5)
          | (show wpList _ _ _ (Oper.mk none (Op.store _ (Operand.tmp 8) (Operand.tmp 20)) _ _ _ _ :: _) _ _
             refine wpList_store_blk 75 (.tmp 8) (.tmp 20) (L := hvl (false, 0, [0, 0, 0, 0])) rfl rfl rfl rfl rfl (alloc_at0 w5 _) (by rw [HX.out.2]; decide) (hvl_one _) HX.out.1 ?_
             intro w6 hP6 hM6
             rw [splice_all (by rw [HX.out.2]; rfl)] at hM6
             have hsu := cell_of_row w6 w5.heap.size 0 _ _ _ hM6
             simp only [hvl, hvT, List.getElem?_toArray, List.getElem?_cons_zero] at hsu
             have H6 := Lib.hid (And.intro ((H5.out.alloc H5.out.size _).trans (hP6.below (B := w.heap.size) H5.out.size)) hM6)
             clear hP6 hM6))
        go_ret3
        exact STOP.out 6 _ H6.out.1
      | some x =>
        obtain ⟨p, t⟩ := x
        obtain ⟨hpl, hpb, hps, ht0, ht1⟩ := hgood p t rfl
        have hlz : (ps.length : Int) ≤ 4 := by omega
        have HP := Lib.hid (And.intro hpl hpb)
        clear hgood hpb hps
        go_enter Tryd.func13, Tryd.ntmps13
        go_wp2_with (first
          | (go_at_call 14; refine (check_any g A1 c1 A2 c2 B w0 (by have := HS0.out; omega) (HG.out.below (B0.out.1.mono hB))).mono ?_; rintro e w1 ⟨rfl, hB1⟩; rw [E3.out]
             have hw1 : w.heap.size < w1.heap.size := by have := HS0.out; have := hB1.size; omega
             have H1 := Lib.hid (And.intro (B0.out.1.trans (hB1.mono (by have := HS0.out; omega))) ((hB1.block _ (by have := HS0.out; omega)).trans B0.out.2.1)); clear hB1)
          | (go_at_call 20; refine (validRains_any P1 k1 ps B w1 (Nat.le_trans hB H1.out.1.size) (HV.out.below (H1.out.1.mono hB)) l1).mono ?_; rintro e w2 ⟨rfl, hB2⟩; rw [HR.out]
             have H2 := Lib.hid (And.intro (H1.out.1.trans (hB2.mono H1.out.1.size)) ((hB2.block _ hw1).trans H1.out.2))
             have hc3 := fun i => cell_of_row w2 w.heap.size i _ _ _ H2.out.2
             clear hB2 hc0)
          | (go_at_call 23; refine (HA.out w2 (Nat.le_trans hB H2.out.1.size) (HG.out.below (H2.out.1.mono hB))).mono ?_; rintro e w4 ⟨rfl, hB4⟩
             have H4 := Lib.hid (H2.out.1.trans (hB4.mono H2.out.1.size)); clear hB4)
          | (go_at_call 24; refine (HL.out w4 (Nat.le_trans hB H4.out.size) (HV.out.below (H4.out.mono hB))).mono ?_; rintro e w5 ⟨rfl, hB5⟩
             have H5 := Lib.hid (H4.out.trans (hB5.mono H4.out.size)); clear hB5)
          | (show wpList _ _ _ (Oper.mk none (Op.store _ (Operand.tmp 8) (Operand.tmp 20)) _ _ _ _ :: _) _ _
             refine wpList_store_blk 75 (.tmp 8) (.tmp 20) (L := hvl (false, 0, [0, 0, 0, 0])) rfl rfl rfl rfl rfl (alloc_at0 w5 _) (by rw [HX.out.2]; decide) (hvl_one _) HX.out.1 ?_
             intro w6 hP6 hM6
             rw [splice_all (by rw [HX.out.2]; rfl)] at hM6
             have hsu := cell_of_row w6 w5.heap.size 0 _ _ _ hM6
             simp only [hvl, hvT, List.getElem?_toArray, List.getElem?_cons_zero] at hsu
             have H6 := Lib.hid (And.intro ((H5.out.alloc H5.out.size _).trans (hP6.below (B := w.heap.size) H5.out.size)) hM6)
             clear hP6 hM6))
        have hMo : MoAt w w5.heap.size (hvl (hvT 0 (some (p, t)))) w6 := ⟨H6.out.2, H6.out.1, H5.out.size⟩
        have hcl : ∀ W, MoAt w w5.heap.size (hvl (hvT 0 (some (p, t)))) W → Calls Tryd.prog 18 #[.slice (some ⟨w5.heap.size, 2, none⟩) ps.length 4] W (ClonePost W p) := fun W hW => by
          have hI : Ints W W.heap.size (some ⟨w5.heap.size, 2, none⟩) p := by
            refine (vals_in hW.h8 (lt_of_heap hW.h8) (fun j v hj => ?_)).ints
            rw [Nat.add_comm]
            simp only [hvl, hvT, List.getElem?_toArray, List.getElem?_cons_succ, List.replicate_zero, List.nil_append]
            unfold ints at hj ⊢
            rw [List.map_append, List.getElem?_append_left (List.getElem?_eq_some_iff.1 hj).1]
            exact hj
          have := clone_any w5.heap.size 2 4 p W.heap.size W (Nat.le_refl _) (by have := HP.out.1; omega) hI
          rwa [HP.out.1] at this
        have HCL := Lib.hid hcl
        have HMO := Lib.hid hMo
        clear hcl hMo hsu
        refine R2.wp_walk (C := MoAt w w5.heap.size (hvl (hvT 0 (some (p, t))))) (S := fun _ => Grows) 31 (by kernel_rfl) (by kernel_rfl) rfl (fun _ => Grows.refl) (HMO.out.next (Below.refl _ _).drew) ?_
        simp only []
        repeat
          (refine' R2.WalkR.det (fun _ => rfl) rfl (fun ρ W hW hH hU => ?_) ?_
           rotate_left
           · clear hH hU
             have HW := Lib.hid hW
             have hto := cell_of_row W w5.heap.size 1 _ _ _ hW.h8
             simp only [hvl, hvT, List.getElem?_toArray, List.getElem?_cons_zero, List.getElem?_cons_succ] at hto
             clear hW
             go_simp
             with_reducible exact ⟨rfl, Grows.refl _, HW.out⟩
           simp only [Act.put, List.setIfInBounds_toArray, List.set_cons_succ, List.set_cons_zero])
        refine' R2.WalkR.nd (PlF p) (fun _ => rfl) rfl rfl (fun o' v W W' _ _ hv hs _ => hv.next hs) (fun ρ W hW hH hU => ?_) ?_
        · clear hH hU
          have HW := Lib.hid hW
          clear hW
          go_simp
          go_at_call 18
          refine (HCL.out W HW.out).mono ?_
          rintro e W1 ⟨g1, k2, rfl, hk2, hg1, hi1, -, hB1⟩
          exact ⟨_, rfl, ⟨_, _, rfl, hk2, hi1⟩, hB1, HW.out.next hB1⟩
        simp only [Act.put, List.setIfInBounds_toArray, List.set_cons_succ, List.set_cons_zero]
        repeat
          (refine' R2.WalkR.det (fun _ => rfl) rfl (fun ρ W hW hH hU => ?_) ?_
           rotate_left
           · clear hH hU
             have HW := Lib.hid hW
             have hto := cell_of_row W w5.heap.size 1 _ _ _ hW.h8
             simp only [hvl, hvT, List.getElem?_toArray, List.getElem?_cons_zero, List.getElem?_cons_succ] at hto
             clear hW
             go_simp
             with_reducible exact ⟨rfl, Grows.refl _, HW.out⟩
           simp only [Act.put, List.setIfInBounds_toArray, List.set_cons_succ, List.set_cons_zero])
        refine' R2.WalkR.nd (PlF p) (fun _ => rfl) rfl rfl (fun o' v W W' _ _ hv hs _ => hv.next hs) (fun ρ W hW hH hU => ?_) ?_
        · have hv := hH _ (.head _) (by first | decide +kernel | (dsimp only; decide +kernel))
          clear hH hU
          have HW := Lib.hid (And.intro hv hW)
          clear hW hv
          go_simp
          exact ⟨HW.out.1, Grows.refl _, HW.out.2⟩
        simp only [Act.put, List.setIfInBounds_toArray, List.set_cons_succ, List.set_cons_zero]
        repeat
          (refine' R2.WalkR.det (fun _ => rfl) rfl (fun ρ W hW hH hU => ?_) ?_
           rotate_left
           · clear hH hU
             have HW := Lib.hid hW
             have hto := cell_of_row W w5.heap.size 1 _ _ _ hW.h8
             simp only [hvl, hvT, List.getElem?_toArray, List.getElem?_cons_zero, List.getElem?_cons_succ] at hto
             clear hW
             go_simp
             with_reducible exact ⟨rfl, Grows.refl _, HW.out⟩
           simp only [Act.put, List.setIfInBounds_toArray, List.set_cons_succ, List.set_cons_zero])
        refine R2.WalkR.nil (fun ρ W hW hH hF => ?_)
        obtain ⟨A, c, hv, hc, hi⟩ := hH _ (.head _)
        have hv' : ρ 4 = .slice A p.length c := hv
        rw [hv']
        have HE := Lib.hid (And.intro hc (And.intro hi hW.bel))
        clear hH hF hv hv' hc hi hW
        go_wp2
        go_ret3
        exact ⟨A, c, rfl, HE.out.1, HE.out.2.1, HE.out.2.2⟩

end Go.Proofs.YtanjolmelbipoaaDoor

