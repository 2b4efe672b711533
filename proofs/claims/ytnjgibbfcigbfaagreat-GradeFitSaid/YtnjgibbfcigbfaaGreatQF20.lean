import Derived.Deep.QuietTactic
import Derived.BigQuiet
import Derived.RegionTactic
import Derived.ChangeAlike
import Derived.Outline
import Derived.Deep.RegionLaw
import Derived.Deep.DeepCutAuto
import Derived.Test.YtnjgibbfcigbfaaGreatQF1
import Derived.Deep.RegionHeld3
import Derived.Deep.DrawnRows
set_option linter.all false
set_option maxRecDepth 100000
set_option maxHeartbeats 64000000
namespace Go.Proofs.YtnjgibbfcigbfaaGreat
def cutTo (c : List Int) (n : Int) (hi : Nat) : Nat → List Int × List Int × Int
 | 0 => (c, List.replicate c.length 0, n)
 | k + 1 =>
   let s := cutTo c n hi k
   let t := min s.2.2 (s.1[hi - k]?.getD 0)
   (s.1.set (hi - k) (s.1[hi - k]?.getD 0 - t), s.2.1.set (hi - k) t, s.2.2 - t)
theorem zPn {c : List Int} {n : Int} {hi k a : Nat} (ha : a = hi - k) {x m : Int} (hx : (cutTo c n hi k).1[a]?.getD 0 = x) (hm : (cutTo c n hi k).2.2 = m) {t u v : Int} (ht : min m x = t) (hu : x - t = u) (hv : m - t = v) :
 cutTo c n hi (k + 1) = ((cutTo c n hi k).1.set a u, (cutTo c n hi k).2.1.set a t, v) := by
 subst ha hx hm ht hu hv; rfl
theorem zCq (c : List Int) (n : Int) (hi k : Nat) : (cutTo c n hi k).1.length = c.length ∧ (cutTo c n hi k).2.1.length = c.length := by
 induction k with
 | zero => simp [cutTo]
 | succ k ih => simp [cutTo, ih]
theorem Bnd.set {lo hi : Int} {c : List Int} (h : Bnd lo hi c) (a : Nat) {x : Int} (h1 : lo ≤ x) (h2 : x ≤ hi) : Bnd lo hi (c.set a x) := fun k hk => by
 rw [List.length_set] at hk
 by_cases e : a = k
 · subst e; simp [hk, h1, h2]
 · rw [List.getElem?_set_ne e]; exact h k hk
theorem Bnd.replicate {lo hi x : Int} (n : Nat) (h1 : lo ≤ x) (h2 : x ≤ hi) : Bnd lo hi (List.replicate n x) := fun k hk => by
 rw [List.length_replicate] at hk; simp [hk, h1, h2]
theorem zHs {c : List Int} {n M : Int} (hc : Bnd 0 M c) (hn : 0 ≤ n) (hM : n ≤ M) (hi : Nat) (hh : hi < c.length) : ∀ k, k ≤ hi + 1 →
 Bnd 0 M (cutTo c n hi k).1 ∧ Bnd 0 M (cutTo c n hi k).2.1 ∧ 0 ≤ (cutTo c n hi k).2.2 ∧ (cutTo c n hi k).2.2 ≤ M := by
 intro k
 induction k with
 | zero => intro _; exact ⟨hc, Bnd.replicate _ (by omega) (by omega), hn, hM⟩
 | succ k ih =>
   intro hk; obtain ⟨h1, h2, h3, h4⟩ := ih (by omega)
   have h5 := h1 (hi - k) (by rw [(zCq c n hi k).1]; omega)
   simp only [cutTo]; generalize (cutTo c n hi k).1[hi - k]?.getD 0 = x at *; refine ⟨h1.set _ (by omega) (by omega), h2.set _ (by omega) (by omega), by omega, by omega⟩
def laterP (d : Nat) (c : List Int) (s : Int) : List Int := s :: (c.take d ++ List.replicate (6 - d) 0)
theorem zDh {d : Nat} {c : List Int} (s : Int) (hd : d ≤ 6) (hc : c.length = 7) : (laterP d c s).length = 7 := by simp [laterP, hc]; omega
theorem zM4 {k : Nat} {c : List Int} (s : Int) (hk : k < 6) (hc : c.length = 7) : (laterP k c s).set (k + 1) (c[k]?.getD 0) = laterP (k + 1) c s := by
 obtain ⟨c0, c1, c2, c3, c4, c5, c6, rfl⟩ := len7 hc
 match k, hk with
 | 0, _ => rfl
 | 1, _ => rfl
 | 2, _ => rfl
 | 3, _ => rfl
 | 4, _ => rfl
 | 5, _ => rfl
end Go.Proofs.YtnjgibbfcigbfaaGreat
namespace Go.Proofs.YtnjgibbfcigbfaaGreat
open Go.RowKit
theorem zRx {x lo hi : Int} : inR x lo hi = false ↔ ¬ (lo ≤ x ∧ x ≤ hi) := by rw [← inR_iff, Bool.not_eq_true]
def hv (h : Hab) : Value := .agg #[.int .i64 h.lo, .int .i64 h.hi, .int .i64 h.bears, .int .i64 h.ripe, .int .i64 h.dies, .int .i64 h.keep]
def okHab (h : Hab) : Bool := inR h.lo 0 1000 && inR h.hi h.lo 1000 && inR h.dies 1 6 && inR h.bears 0 h.dies && inR h.ripe 1 h.dies && inR h.keep 0 200
def ageL (l : List Int) : List Int := (0 :: l).take l.length
theorem zN6 (l : List Int) : (ageL l).length = l.length := by simp [ageL]
def nowLL1 (l : List Int) (s : Int) : List Int := (ageL l).set 0 s
theorem zDi (l : List Int) (s : Int) : (nowLL1 l s).length = l.length := by simp [nowLL1, zN6]
theorem zUp {M : Int} {l : List Int} (h : Bnd 0 M l) (hM : 0 ≤ M) : Bnd 0 M (ageL l) := fun k hk => by
 rw [zN6] at hk; unfold ageL; rw [List.getElem?_take, if_pos hk]; cases k with
 | zero => simp [hM]
 | succ k => simp only [List.getElem?_cons_succ]; exact h k (by omega)
theorem zN7 {M s : Int} {l : List Int} (h : Bnd 0 M l) (hs : 0 ≤ s) (hM : s ≤ M) : Bnd 0 M (nowLL1 l s) := (zUp h (by omega)).set 0 hs hM
def yearL (l : List Int) (s n : Int) : List Int := (cutTo (nowLL1 l s) n (l.length - 1) l.length).1
def goneL (l : List Int) (s n : Int) : List Int := (cutTo (nowLL1 l s) n (l.length - 1) l.length).2.1
def yearOk (r : Nat) (l : List Int) (s n : Int) : Bool := decide (n ≤ ((nowLL1 l s).drop r).sum)
structure Gr where
 id : Int
 hab : Hab
 first : Int
 start : List Int
 seas : List (Int × Int)
def grv (g : Gr) (A1 : Option Addr) (c1 : Nat) (A2 : Option Addr) (c2 : Nat) : Value :=
 .agg #[.int .i64 g.id, .int .i64 g.hab.lo, .int .i64 g.hab.hi, .int .i64 g.hab.bears, .int .i64 g.hab.ripe, .int .i64 g.hab.dies, .int .i64 g.hab.keep, .int .i64 g.first, .slice A1 g.start.length c1, .slice A2 g.seas.length c2]
structure GrAt (w : World) (B : Nat) (g : Gr) (A1 : Option Addr) (c1 : Nat) (A2 : Option Addr) (c2 : Nat) : Prop where
 st : Ints w B A1 g.start
 se : Vals w B A2 (pairs g.seas)
 cap1 : g.start.length ≤ c1
 cap2 : g.seas.length ≤ c2
 len1 : g.start.length ≤ 9223372036854775807
 len2 : g.seas.length ≤ 9223372036854775807
theorem GrAt.below {w w' : World} {B : Nat} {g : Gr} {A1 A2 : Option Addr} {c1 c2 : Nat} (h : GrAt w B g A1 c1 A2 c2) (hb : Below B w w') : GrAt w' B g A1 c1 A2 c2 := ⟨h.st.below hb, h.se.below hb, h.cap1, h.cap2, h.len1, h.len2⟩
theorem GrAt.mono {w : World} {B B' : Nat} {g : Gr} {A1 A2 : Option Addr} {c1 c2 : Nat} (h : GrAt w B g A1 c1 A2 c2) (hb : B ≤ B') : GrAt w B' g A1 c1 A2 c2 := ⟨h.st.mono hb, h.se.mono hb, h.cap1, h.cap2, h.len1, h.len2⟩
def zDv (g : Gr) : Bool := decide (20 < g.start.length) || decide (80 < g.seas.length)
theorem zIw (g : Gr) (A1 : Option Addr) (c1 : Nat) (A2 : Option Addr) (c2 : Nat) (w : World) :
 Calls Tryz.prog 42 #[grv g A1 c1 A2 c2] w fun e w' => e = .returned (.bool (zDv g)) ∧ Grows w w' := by
 unfold grv
 by_cases h1 : 20 < g.start.length
 · have e : zDv g = true := by simp [zDv, h1]
   rw [e]; clear e
   go_enter Tryz.func42, Tryz.ntmps42
   go_wp2; go_ret
   exact ⟨by simp; try omega, (Below.refl _ _).alloc (Nat.le_refl _) _⟩
 · by_cases h2 : 80 < g.seas.length
   · have e : zDv g = true := by simp [zDv, h2]
     rw [e]; clear e
     go_enter Tryz.func42, Tryz.ntmps42
     go_wp2; go_ret
     exact ⟨by simp; try omega, (Below.refl _ _).alloc (Nat.le_refl _) _⟩
   · have e : zDv g = false := by simp [zDv]; omega
     rw [e]; clear e
     go_enter Tryz.func42, Tryz.ntmps42
     go_wp2; go_ret
     exact ⟨by simp; try omega, (Below.refl _ _).alloc (Nat.le_refl _) _⟩
def seasOk (r : Nat) : List Int → List (Int × Int) → Bool
 | _, [] => true
 | l, p :: ss => inR p.1 0 30 && inR p.2 0 30 && yearOk r l p.1 p.2 && seasOk r (yearL l p.1 p.2) ss
def runL (l : List Int) (ss : List (Int × Int)) : List Int := ss.foldl (fun l p => yearL l p.1 p.2) l
def okPre (g : Gr) : Bool := inR g.id 0 9999 && okHab g.hab && inR g.first 0 3000 && decide ((g.start.length : Int) = g.hab.dies + 1) && decide (g.seas.length ≤ 60) && decide (g.first + g.seas.length ≤ 3000)
def zCv (g : Gr) : Bool := g.start.all fun x => inR x 0 9
def zBr (g : Gr) : Bool := okPre g && zCv g && seasOk g.hab.ripe.toNat g.start g.seas
theorem okHab_iff {h : Hab} : okHab h = true ↔ (0 ≤ h.lo ∧ h.lo ≤ 1000) ∧ (h.lo ≤ h.hi ∧ h.hi ≤ 1000) ∧ (1 ≤ h.dies ∧ h.dies ≤ 6) ∧ (0 ≤ h.bears ∧ h.bears ≤ h.dies) ∧ (1 ≤ h.ripe ∧ h.ripe ≤ h.dies) ∧ (0 ≤ h.keep ∧ h.keep ≤ 200) := by
 simp only [okHab, Bool.and_eq_true, inR_iff, and_assoc]
theorem zGc {g : Gr} (h : zCv g = true) : Bnd 0 9 g.start := fun k hk => by
 simp only [zCv, List.all_eq_true] at h
 have := h g.start[k] (List.getElem_mem hk); rw [inR_iff] at this
 simpa [hk] using this
theorem zLj (l : List Int) (s n : Int) : (yearL l s n).length = l.length := by unfold yearL; rw [(zCq _ _ _ _).1, zDi]
theorem zRy (l : List Int) (s n : Int) : (goneL l s n).length = l.length := by unfold goneL; rw [(zCq _ _ _ _).2, zDi]
theorem zLk {M s n : Int} {l : List Int} (h : Bnd 0 M l) (hl : 1 ≤ l.length) (hs : 0 ≤ s) (hM : s ≤ M) (hn : 0 ≤ n) (hn2 : n ≤ M) : Bnd 0 M (yearL l s n) :=
 (zHs (zN7 h hs hM) hn hn2 (l.length - 1) (by rw [zDi]; omega) l.length (by omega)).1
structure Pre (g : Gr) (d r : Nat) : Prop where
 hd : g.hab.dies = d
 hr : g.hab.ripe = r
 d1 : 1 ≤ d
 d6 : d ≤ 6
 r1 : 1 ≤ r
 rd : r ≤ d
 ls : g.start.length = d + 1
 l60 : g.seas.length ≤ 60
 f0 : 0 ≤ g.first
 f1 : g.first ≤ 3000
 fl : g.first + g.seas.length ≤ 3000
theorem zHt {g : Gr} (h : okPre g = true) : ∃ d r, Pre g d r := by
 simp only [okPre, Bool.and_eq_true, decide_eq_true_eq, inR_iff, okHab_iff] at h; obtain ⟨⟨⟨⟨⟨h1, h2⟩, h3⟩, h4⟩, h5⟩, h6⟩ := h; exact ⟨g.hab.dies.toNat, g.hab.ripe.toNat, by omega, by omega, by omega, by omega, by omega, by omega, by omega, by omega, by omega, by omega, by omega⟩
theorem zLl (l : List Int) (ss : List (Int × Int)) (i : Nat) (hi : i < ss.length) : runL l (ss.take (i + 1)) = yearL (runL l (ss.take i)) (ss[i]?.getD (0, 0)).1 (ss[i]?.getD (0, 0)).2 := by
 unfold runL; rw [List.take_add_one, List.foldl_append]; simp [hi]
def errG (g : Gr) : Int := if zBr g = true then 0 else 10
def hasY (g : Gr) (y : Int) : Bool := inR y g.first (g.first + g.seas.length)
def goneAt (g : Gr) : Nat → List Int
 | 0 => List.replicate g.start.length 0
 | m + 1 => goneL (runL g.start (g.seas.take m)) (g.seas[m]?.getD (0, 0)).1 (g.seas[m]?.getD (0, 0)).2
theorem zPo {r : Nat} : ∀ {ss : List (Int × Int)} {l : List Int}, seasOk r l ss = true → ∀ k, k < ss.length →
 inR (ss[k]?.getD (0, 0)).1 0 30 = true ∧ inR (ss[k]?.getD (0, 0)).2 0 30 = true ∧ yearOk r (runL l (ss.take k)) (ss[k]?.getD (0, 0)).1 (ss[k]?.getD (0, 0)).2 = true := by
 intro ss
 induction ss with
 | nil => intro l _ k hk; simp at hk
 | cons p ss ih =>
   intro l h k hk; simp only [seasOk, Bool.and_eq_true] at h; cases k with
   | zero => simpa [runL] using ⟨h.1.1.1, h.1.1.2, h.1.2⟩
   | succ k =>
     have := ih h.2 k (by simpa using hk)
     simpa [runL] using this
structure Runs (g : Gr) (d r : Nat) : Prop where
 pre : Pre g d r
 b9 : Bnd 0 9 g.start
 yr : ∀ k, k < g.seas.length → (0 ≤ (g.seas[k]?.getD (0, 0)).1 ∧ (g.seas[k]?.getD (0, 0)).1 ≤ 30) ∧ (0 ≤ (g.seas[k]?.getD (0, 0)).2 ∧ (g.seas[k]?.getD (0, 0)).2 ≤ 30) ∧
  yearOk r (runL g.start (g.seas.take k)) (g.seas[k]?.getD (0, 0)).1 (g.seas[k]?.getD (0, 0)).2 = true
theorem zGw {g : Gr} (h : zBr g = true) : ∃ d r, Runs g d r := by
 simp only [zBr, Bool.and_eq_true] at h; obtain ⟨d, r, P⟩ := zHt h.1.1; refine ⟨d, r, P, zGc h.1.2, fun k hk => ?_⟩
 have := zPo h.2 k hk; rw [P.hr, Int.toNat_natCast] at this; exact ⟨inR_iff.1 this.1, inR_iff.1 this.2.1, this.2.2⟩
theorem zKa (l : List Int) (ss : List (Int × Int)) : (runL l ss).length = l.length := by
 induction ss generalizing l with
 | nil => rfl
 | cons p ss ih => simp only [runL, List.foldl_cons] at ih ⊢; rw [ih, zLj]
theorem Runs.bnd {g : Gr} {d r : Nat} (R : Runs g d r) : ∀ k, k ≤ g.seas.length → Bnd 0 30 (runL g.start (g.seas.take k)) := by
 intro k
 induction k with
 | zero => intro _ j hj; have := R.b9 j (by simpa [runL] using hj); simp only [runL, List.take_zero, List.foldl_nil]; omega
 | succ k ih =>
   intro hk; have h1 := ih (by omega)
   have h2 := R.yr k (by omega)
   rw [zLl _ _ _ (by omega)]
   exact zLk h1 (by rw [zKa, R.pre.ls]; omega) h2.1.1 h2.1.2 h2.2.1.1 h2.2.1.2
def standErr (g : Gr) (y : Int) : Int := if zBr g = true then (if hasY g y = true then 0 else 6) else 10
def zN8 (g : Gr) (y : Int) : List Int := if zBr g = true ∧ hasY g y = true then runL g.start (g.seas.take (y - g.first).toNat) else []
def zCc (y : Int) (gone : List Int) : Nat → List (Int × Int)
 | 0 => []
 | k + 1 => zCc y gone k ++ (if 0 < gone[gone.length - 1 - k]?.getD 0 then [(y - ((gone.length - 1 - k : Nat) : Int), gone[gone.length - 1 - k]?.getD 0)] else [])
theorem zM5 (y : Int) (gone : List Int) (k : Nat) : (zCc y gone k).length ≤ k := by
 induction k with
 | zero => simp [zCc]
 | succ k ih =>
   simp only [zCc, List.length_append]
   split <;> simp <;> omega
def takenVal (g : Gr) (y : Int) : List (Int × Int) := if zBr g = true ∧ hasY g y = true then zCc y (goneAt g (y - g.first).toNat) g.start.length else []
def TakePost (w : World) (ts : List (Int × Int)) (er : Int) (e : Ending) (w' : World) : Prop :=
 ∃ A c, e = .returned (.tuple #[.slice A ts.length c, .int .i64 er]) ∧ Vals w' w'.heap.size A (pairs ts) ∧ Grows w w'
theorem TakePost.nil {w w' : World} {er : Int} (h : Grows w w') : TakePost w [] er (.returned (.tuple #[.slice none 0 0, .int .i64 er])) w' :=
 ⟨none, 0, rfl, fun h => by simp [pairs] at h, h⟩
theorem Tryz.info101 : (Tryz.prog.info? 101).map (fun i => (i.zero, i.size, i.bytes)) = some (some (.agg #[.int .i64 0, .int .i64 0]), 2, 16) := by kernel_rfl
theorem zPp {g : Gr} (m : Nat) : (goneAt g m).length = g.start.length := by
 cases m with
 | zero => simp [goneAt]
 | succ m => simp only [goneAt]; rw [zRy, zKa]
end Go.Proofs.YtnjgibbfcigbfaaGreat
