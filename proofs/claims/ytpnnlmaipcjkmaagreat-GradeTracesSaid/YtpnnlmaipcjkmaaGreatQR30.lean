/-
  A batch that comes in, opened.
-/
import Derived.Test.YtpnnlmaipcjkmaaGreatQR2
import Derived.Deep.Slices
import Derived.Test.YtpnnlmaipcjkmaaGreatQR29
set_option linter.all false
namespace Go.Proofs.YtpnnlmaipcjkmaaGreat
open Go.RowKit

structure Bt where
  water : Int
  borax : Int
  lo : Int
  hi : Int
  need : Int

def fl (sp o c : Int) : Int := Int.tdiv ((o - c) * sp) 1000
def atR (r : List Int) (k : Nat) : Int := r[k]?.getD 0
def rowAt (ws : List (List Int)) (p : Nat) : List Int := ws[p]?.getD []
def inFl (s sp : Int) (r : List Int) (k : Nat) : Int := if k < r.length then fl sp (if k = 0 then s else atR r (k - 1)) (atR r k) else 0
def hourRow (s sp : Int) (r : List Int) : List Int := (List.range r.length).map fun k => atR r k + (inFl s sp r k - inFl s sp r (k + 1))
def hourB (s sp b : Int) (ws : List (List Int)) : Int := b - (ws.map (inFl s sp · 0)).sum
abbrev St := Int × List (List Int)
def hourS (W sp : Int) (st : St) : St := (hourB (st.1 / W) sp st.1 st.2, st.2.map (hourRow (st.1 / W) sp))
def runS (W sp : Int) (st : St) : Nat → St
  | 0 => st
  | n + 1 => hourS W sp (runS W sp st n)
def wallL (ws : List (List Int)) : List Int := (List.range 24).map fun i => atR (rowAt ws (i / 6)) (i % 6)

theorem wallL_len (ws : List (List Int)) : (wallL ws).length = 24 := by simp [wallL]
theorem wallL_at (ws : List (List Int)) (p c : Nat) (hp : p < 4) (hc : c < 6) : (wallL ws)[p * 6 + c]? = some (atR (rowAt ws p) c) := by
  have h : p * 6 + c < 24 := by omega
  simp only [wallL, List.getElem?_map, List.getElem?_range h, Option.map_some]
  rw [show (p * 6 + c) / 6 = p by omega, show (p * 6 + c) % 6 = c by omega]

theorem hourRow_len (s sp : Int) (r : List Int) : (hourRow s sp r).length = r.length := by simp [hourRow]
theorem hourRow_at (s sp : Int) (r : List Int) (k : Nat) : atR (hourRow s sp r) k = if k < r.length then atR r k + (inFl s sp r k - inFl s sp r (k + 1)) else 0 := by
  unfold hourRow
  by_cases h : k < r.length
  · simp only [atR, List.getElem?_map, List.getElem?_range h, Option.map_some, Option.getD_some, if_pos h]
  · rw [if_neg h]
    simp [atR, List.getElem?_map, List.getElem?_eq_none (show (List.range r.length).length ≤ k by simp; omega)]
theorem atR_out {r : List Int} {k : Nat} (h : ¬ k < r.length) : atR r k = 0 := by simp [atR, List.getElem?_eq_none (show r.length ≤ k by omega)]
theorem hourRow_all (s sp : Int) (r : List Int) (k : Nat) : atR (hourRow s sp r) k = atR r k + (inFl s sp r k - inFl s sp r (k + 1)) := by
  rw [hourRow_at]
  split
  · rfl
  · rename_i h
    rw [atR_out h]
    simp [inFl, h, show ¬ k + 1 < r.length by omega]

structure okRow (r : List Int) : Prop where
  l1 : 1 ≤ r.length
  l6 : r.length ≤ 6
  b0 : ∀ k, 0 ≤ atR r k
  b1 : ∀ k, atR r k ≤ 10000
structure GoodS (W : Int) (st : St) : Prop where
  w1 : 10 ≤ W
  w2 : W ≤ 10000
  b0 : 0 ≤ st.1
  bs : st.1 / W ≤ 10000
  n4 : st.2.length ≤ 4
  rows : ∀ r ∈ st.2, okRow r

theorem fl_up {sp o c : Int} (h1 : 1 ≤ sp) (h2 : sp ≤ 250) (h : c ≤ o) : 0 ≤ fl sp o c ∧ 4 * fl sp o c ≤ o - c := by
  have p0 : 0 ≤ (o - c) * sp := Int.mul_nonneg (by omega) (by omega)
  have p1 : (o - c) * sp ≤ (o - c) * 250 := Int.mul_le_mul_of_nonneg_left h2 (by omega)
  unfold fl
  rw [Int.tdiv_eq_ediv_of_nonneg p0]
  omega
theorem fl_neg (sp o c : Int) : fl sp o c = - fl sp c o := by
  unfold fl
  rw [← Int.neg_tdiv, ← Int.neg_mul, Int.neg_sub]
theorem fl_down {sp o c : Int} (h1 : 1 ≤ sp) (h2 : sp ≤ 250) (h : o ≤ c) : fl sp o c ≤ 0 ∧ o - c ≤ 4 * fl sp o c := by
  have := fl_up h1 h2 h
  rw [fl_neg]
  omega
theorem fl_bnd {sp o c : Int} (h1 : 1 ≤ sp) (h2 : sp ≤ 250) (o0 : 0 ≤ o) (o1 : o ≤ 10000) (c0 : 0 ≤ c) (c1 : c ≤ 10000) :
    4 * fl sp o c ≤ 10000 - c ∧ - c ≤ 4 * fl sp o c ∧ 4 * fl sp o c ≤ o ∧ o - 10000 ≤ 4 * fl sp o c := by
  rcases Int.le_total c o with h | h
  · have := fl_up h1 h2 h; omega
  · have := fl_down h1 h2 h; omega

theorem inFl_bnd {s sp : Int} {r : List Int} (h1 : 1 ≤ sp) (h2 : sp ≤ 250) (s0 : 0 ≤ s) (s1 : s ≤ 10000) (hr : okRow r) (k : Nat) :
    4 * inFl s sp r k ≤ 10000 - atR r k ∧ - atR r k ≤ 4 * inFl s sp r k ∧ (0 < k → 4 * inFl s sp r k ≤ atR r (k - 1) ∧ atR r (k - 1) - 10000 ≤ 4 * inFl s sp r k) ∧ (k = 0 → 4 * inFl s sp r k ≤ s ∧ s - 10000 ≤ 4 * inFl s sp r k) := by
  have b0 := hr.b0 k
  have b1 := hr.b1 k
  have c0 := hr.b0 (k - 1)
  have c1 := hr.b1 (k - 1)
  unfold inFl
  by_cases hk : k < r.length
  · rw [if_pos hk]
    by_cases h0 : k = 0
    · rw [if_pos h0]
      have := fl_bnd h1 h2 s0 s1 b0 b1
      exact ⟨this.1, this.2.1, fun h => by omega, fun _ => ⟨this.2.2.1, this.2.2.2⟩⟩
    · rw [if_neg h0]
      have := fl_bnd h1 h2 c0 c1 b0 b1
      exact ⟨this.1, this.2.1, fun _ => ⟨this.2.2.1, this.2.2.2⟩, fun h => absurd h h0⟩
  · rw [if_neg hk]
    exact ⟨by omega, by omega, fun _ => ⟨by omega, by omega⟩, fun _ => ⟨by omega, by omega⟩⟩

theorem hourRow_ok {s sp : Int} {r : List Int} (h1 : 1 ≤ sp) (h2 : sp ≤ 250) (s0 : 0 ≤ s) (s1 : s ≤ 10000) (hr : okRow r) : okRow (hourRow s sp r) := by
  have key : ∀ k, 0 ≤ atR (hourRow s sp r) k ∧ atR (hourRow s sp r) k ≤ 10000 := fun k => by
    rw [hourRow_all]
    have a := inFl_bnd h1 h2 s0 s1 hr k
    have b := (inFl_bnd h1 h2 s0 s1 hr (k + 1)).2.2.1 (by omega)
    rw [Nat.add_sub_cancel] at b
    have b0 := hr.b0 k
    have b1 := hr.b1 k
    omega
  exact ⟨by rw [hourRow_len]; exact hr.l1, by rw [hourRow_len]; exact hr.l6, fun k => (key k).1, fun k => (key k).2⟩

theorem sumFl_bnd {s sp : Int} (h1 : 1 ≤ sp) (h2 : sp ≤ 250) (s0 : 0 ≤ s) (s1 : s ≤ 10000) : ∀ (ws : List (List Int)), (∀ r ∈ ws, okRow r) → 4 * (ws.map (inFl s sp · 0)).sum ≤ ws.length * s ∧ ws.length * (s - 10000) ≤ 4 * (ws.map (inFl s sp · 0)).sum
  | [], _ => by simp
  | r :: ws, h => by
    have ih := sumFl_bnd h1 h2 s0 s1 ws (fun x hx => h x (List.mem_cons_of_mem _ hx))
    have a := (inFl_bnd h1 h2 s0 s1 (h r (List.mem_cons_self ..)) 0).2.2.2 rfl
    simp only [List.map_cons, List.sum_cons, List.length_cons, Int.natCast_add, Int.add_mul, Int.natCast_one, Int.one_mul]
    omega

theorem hourS_good {W sp : Int} {st : St} (h1 : 1 ≤ sp) (h2 : sp ≤ 250) (h : GoodS W st) : GoodS W (hourS W sp st) := by
  obtain ⟨w1, w2, b0, bs, n4, rows⟩ := h
  have s0 : 0 ≤ st.1 / W := Int.ediv_nonneg b0 (by omega)
  have hs := sumFl_bnd h1 h2 s0 bs st.2 rows
  have hlt : st.1 < (st.1 / W + 1) * W := Int.lt_ediv_add_one_mul_self _ (by omega)
  have hle : st.1 / W ≤ st.1 := Int.ediv_le_self _ b0
  have hm : (10000 - st.1 / W) * 1 ≤ (10000 - st.1 / W) * W := Int.mul_le_mul_of_nonneg_left (by omega) (by omega)
  have hb : hourB (st.1 / W) sp st.1 st.2 = st.1 - (st.2.map (inFl (st.1 / W) sp · 0)).sum := rfl
  have n0 : (st.2.length : Int) ≤ 4 := by omega
  have m1 : (st.2.length : Int) * (st.1 / W) ≤ 4 * (st.1 / W) := Int.mul_le_mul_of_nonneg_right n0 s0
  have m2 : (st.2.length : Int) * (10000 - st.1 / W) ≤ 4 * (10000 - st.1 / W) := Int.mul_le_mul_of_nonneg_right n0 (by omega)
  have m3 : (st.2.length : Int) * (st.1 / W - 10000) = - ((st.2.length : Int) * (10000 - st.1 / W)) := by rw [← Int.mul_neg, Int.neg_sub]
  rw [m3] at hs
  generalize hS : (st.2.map (inFl (st.1 / W) sp · 0)).sum = S at hb hs
  generalize hN : (st.2.length : Int) * (st.1 / W) = N1 at hs m1
  generalize hN2 : (st.2.length : Int) * (10000 - st.1 / W) = N2 at hs m2
  rw [Int.add_mul, Int.one_mul] at hlt
  rw [Int.mul_one, Int.sub_mul] at hm
  have hdiv : hourB (st.1 / W) sp st.1 st.2 / W ≤ 10000 := by
    have : hourB (st.1 / W) sp st.1 st.2 / W < 10001 := by
      refine Int.ediv_lt_of_lt_mul (by omega) ?_
      rw [hb]
      omega
    omega
  refine ⟨w1, w2, ?_, hdiv, ?_, ?_⟩
  · show 0 ≤ hourB (st.1 / W) sp st.1 st.2
    omega
  · simpa [hourS] using n4
  · intro r hr
    simp only [hourS, List.mem_map] at hr
    obtain ⟨q, hq, rfl⟩ := hr
    exact hourRow_ok h1 h2 s0 bs (rows q hq)
theorem runS_good {W sp : Int} {st : St} (h1 : 1 ≤ sp) (h2 : sp ≤ 250) (h : GoodS W st) : ∀ n, GoodS W (runS W sp st n)
  | 0 => h
  | n + 1 => hourS_good h1 h2 (runS_good h1 h2 h n)

def lens (ws : List (List Int)) : List Nat := ws.map List.length
theorem lens_hour (W sp : Int) (st : St) : lens (hourS W sp st).2 = lens st.2 := by
  simp [lens, hourS, Function.comp_def, hourRow_len]
theorem lens_run (W sp : Int) (st : St) : ∀ n, lens (runS W sp st n).2 = lens st.2
  | 0 => rfl
  | n + 1 => (lens_hour W sp _).trans (lens_run W sp st n)
theorem lens_len {a b : List (List Int)} (h : lens a = lens b) : a.length = b.length := by simpa [lens] using congrArg List.length h
theorem lens_at {a b : List (List Int)} (h : lens a = lens b) (p : Nat) : (rowAt a p).length = (rowAt b p).length := by
  have : (lens a)[p]?.getD 0 = (lens b)[p]?.getD 0 := by rw [h]
  simp only [lens, List.getElem?_map] at this
  unfold rowAt
  cases ha : a[p]? <;> cases hb : b[p]? <;> simp [ha, hb] at this ⊢ <;> omega

theorem sum_range_tel (f : Nat → Int) : ∀ n, ((List.range n).map fun k => f k - f (k + 1)).sum = f 0 - f n
  | 0 => by simp
  | n + 1 => by
    rw [List.range_succ, List.map_append, List.sum_append, sum_range_tel f n]
    simp
    omega
theorem sum_range_add (f g : Nat → Int) : ∀ n, ((List.range n).map fun k => f k + g k).sum = ((List.range n).map f).sum + ((List.range n).map g).sum
  | 0 => by simp
  | n + 1 => by
    rw [List.range_succ, List.map_append, List.sum_append, sum_range_add f g n]
    simp
    omega
theorem range_atR : ∀ (r : List Int), (List.range r.length).map (atR r) = r := fun r => by
  apply List.ext_getElem?
  intro i
  by_cases h : i < r.length
  · simp [atR, h]
  · simp [h]
theorem hourRow_sum (s sp : Int) (r : List Int) : (hourRow s sp r).sum = r.sum + inFl s sp r 0 := by
  unfold hourRow
  rw [sum_range_add, sum_range_tel, range_atR]
  simp [inFl]
def massL (ws : List (List Int)) : Int := (ws.map List.sum).sum
theorem massL_hour (s sp : Int) : ∀ (ws : List (List Int)), massL (ws.map (hourRow s sp)) = massL ws + (ws.map (inFl s sp · 0)).sum
  | [] => by simp [massL]
  | r :: ws => by
    have ih := massL_hour s sp ws
    unfold massL at ih ⊢
    simp only [List.map_cons, List.sum_cons]
    rw [ih, hourRow_sum]
    omega
theorem mass_hour (W sp : Int) (st : St) : (hourS W sp st).1 + massL (hourS W sp st).2 = st.1 + massL st.2 := by
  show hourB _ _ _ _ + massL (st.2.map _) = _
  rw [massL_hour]
  unfold hourB
  omega
theorem hourS_fix {W sp : Int} {st : St} (h : (hourS W sp st).2 = st.2) : hourS W sp st = st := by
  have := mass_hour W sp st
  rw [h] at this
  exact Prod.ext (by omega) h
theorem runS_fix {W sp : Int} {st : St} {m : Nat} (h : (runS W sp st (m + 1)).2 = (runS W sp st m).2) : ∀ j, runS W sp st (m + j) = runS W sp st m
  | 0 => rfl
  | j + 1 => by
    show hourS W sp (runS W sp st (m + j)) = _
    rw [runS_fix h j]
    exact hourS_fix h

theorem rows_ext {a b : List (List Int)} (hl : lens a = lens b) (h : ∀ p c, p < a.length → atR (rowAt a p) c = atR (rowAt b p) c) : a = b := by
  have hL := lens_len hl
  apply List.ext_getElem hL
  intro p h1 h2
  have hlp := lens_at hl p
  have hp := fun c => h p c h1
  have e1 : rowAt a p = a[p] := by simp [rowAt, h1]
  have e2 : rowAt b p = b[p] := by simp [rowAt, h2]
  rw [e1, e2] at hlp
  simp only [e1, e2] at hp
  apply List.ext_getElem hlp
  intro c h3 h4
  have := hp c
  simpa [atR, h3, h4] using this
theorem wallL_inj {a b : List (List Int)} (hl : lens a = lens b) (n4 : a.length ≤ 4) (h6 : ∀ r ∈ a, r.length ≤ 6) (h : wallL a = wallL b) : a = b := by
  refine rows_ext hl fun p c hp => ?_
  have hlp := lens_at hl p
  by_cases hc : c < 6
  · have e1 := wallL_at a p c (by omega) hc
    have e2 := wallL_at b p c (by omega) hc
    rw [h] at e1
    exact (Option.some.inj (e1.symm.trans e2))
  · have hm : (rowAt a p).length ≤ 6 := by
      have e1 : rowAt a p = a[p] := by simp [rowAt, hp]
      rw [e1]
      exact h6 _ (List.getElem_mem hp)
    rw [atR_out (by omega), atR_out (by omega)]

def lastK (F : Nat → Bool) : Nat → Nat → Nat
  | 0, k => k
  | n + 1, k => if F k = true then k else lastK F n (k + 1)
theorem lastK_le (F : Nat → Bool) : ∀ n k, k ≤ lastK F n k ∧ lastK F n k ≤ k + n
  | 0, k => by simp [lastK]
  | n + 1, k => by
    have := lastK_le F n (k + 1)
    simp only [lastK]
    split <;> omega
theorem lastK_go (F : Nat → Bool) : ∀ n k j, k ≤ j → j < lastK F n k → F j = false
  | 0, k, j, h1, h2 => by simp only [lastK] at h2; omega
  | n + 1, k, j, h1, h2 => by
    simp only [lastK] at h2
    split at h2
    · omega
    · rename_i hF
      by_cases e : j = k
      · subst e; simpa using hF
      · exact lastK_go F n (k + 1) j (by omega) h2
theorem lastK_stop (F : Nat → Bool) : ∀ n k, lastK F n k = k + n ∨ F (lastK F n k) = true
  | 0, k => .inl (by simp [lastK])
  | n + 1, k => by
    simp only [lastK]
    split
    · rename_i h; exact .inr h
    · rcases lastK_stop F n (k + 1) with h | h
      · exact .inl (by omega)
      · exact .inr h

def fixB (W sp : Int) (st : St) (k : Nat) : Bool := wallL (runS W sp st (k + 1)).2 == wallL (runS W sp st k).2
def stopK (W sp : Int) (st : St) (last : Nat) : Nat := lastK (fixB W sp st) last 0
theorem runS_stop {W sp : Int} {st : St} (h1 : 1 ≤ sp) (h2 : sp ≤ 250) (h : GoodS W st) (last : Nat) : ∀ n, stopK W sp st last ≤ n → n ≤ last → runS W sp st n = runS W sp st (stopK W sp st last) := by
  intro n hn hl
  rcases lastK_stop (fixB W sp st) last 0 with e | e
  · have : n = stopK W sp st last := by unfold stopK at hn ⊢; omega
    rw [this]
  · change fixB W sp st (stopK W sp st last) = true at e
    generalize stopK W sp st last = m at e hn
    have hw : wallL (runS W sp st (m + 1)).2 = wallL (runS W sp st m).2 := by simpa [fixB] using e
    have hg := runS_good h1 h2 h (m + 1)
    have hx := wallL_inj ((lens_run W sp st (m + 1)).trans (lens_run W sp st m).symm) hg.n4 (fun r hr => (hg.rows r hr).l6) hw
    have := runS_fix hx (n - m)
    rw [show m + (n - m) = n by omega] at this
    exact this

end Go.Proofs.YtpnnlmaipcjkmaaGreat

namespace Go.Proofs.YtpnnlmaipcjkmaaGreat
open Go.RowKit
open R6 (done done_ne done_me upd_ne upd_me)

attribute [local go_sem] gives

structure Sl where
  A : Option Addr
  c : Nat
  zs : List Int
def slv (s : Sl) : Value := .slice s.A s.zs.length s.c
def slvs (l : List Sl) : List Value := l.map slv
def rws (l : List Sl) : List (List Int) := l.map (·.zs)
structure Rows (w : World) (B : Nat) (A : Option Addr) (l : List Sl) : Prop where
  va : Vals w B A (slvs l)
  each : ∀ s ∈ l, Ints w B s.A s.zs
theorem Rows.below {w w' : World} {B : Nat} {A : Option Addr} {l : List Sl} (h : Rows w B A l) (hb : Below B w w') : Rows w' B A l := ⟨h.va.below hb, fun s hs => (h.each s hs).below hb⟩
theorem Rows.mono {w : World} {B B' : Nat} {A : Option Addr} {l : List Sl} (h : Rows w B A l) (hB : B ≤ B') : Rows w B' A l := ⟨h.va.mono hB, fun s hs => (h.each s hs).mono hB⟩
theorem slvs_len (l : List Sl) : (slvs l).length = l.length := by simp [slvs]
theorem slvs_at (l : List Sl) (k : Nat) (hk : k < l.length) : (slvs l)[k]? = some (slv l[k]) := by simp [slvs, hk]

theorem fromOne_any (n : Int) (w : World) : Calls Tryz.prog 154 #[.int .i64 n] w fun e w' => e = .returned (.agg #[.int .i64 1, .int .i64 n]) ∧ Below w.heap.size w w' := by
  go_enter Tryz.func154, Tryz.ntmps154
  go_wp2
  refine bodyPost_ret (v := .agg #[.int .i64 1, .int .i64 n]) (by simp [results, Tryz.results154, go_sem]) rfl ⟨rfl, ?_⟩
  exact (Below.refl _ _).alloc (Nat.le_refl _) _

theorem within_new (lo hi n : Int) (w : World) (b : Nat) (hb : w.heap[b]? = some (.cells #[.int .i64 n] 3 (0, 0))) :
    Calls Tryz.prog 71 #[.agg #[.int .i64 lo, .int .i64 hi], .slice (some ⟨b, 0, none⟩) 1 1] w fun e w' => e = .returned (.bool (allB lo hi [n])) ∧ Below w.heap.size w w' :=
  within_any lo hi (some ⟨b, 0, none⟩) 1 [n] _ w (Nat.le_refl _) (ints_lit [n] hb rfl) (by simp)

theorem validHours_any (n : Int) (w : World) : Calls Tryz.prog 72 #[.int .i64 n] w fun e w' => e = .returned (.bool (allB 0 300 [n])) ∧ Below w.heap.size w w' := by
  have H := fun W => within_new 0 300 n (W.alloc (.cells #[.int .i64 n] 3)) W.heap.size (alloc_at0 W _)
  generalize allB 0 300 [n] = v at H
  have HH := Lib.hid H
  clear H
  go_enter Tryz.func72, Tryz.ntmps72
  go_wp2_with (first
    | (go_at_call 71; refine (HH.out _).mono ?_; rintro e w2 ⟨rfl, hB2⟩; have H2 := Lib.hid hB2; clear hB2)
    | (go_at_call 119; refine (upTo_any _ _).mono ?_; rintro e w1 ⟨rfl, hB1⟩; have H1 := Lib.hid hB1; clear hB1))
  go_ret
  exact ⟨rfl, H1.out.trans ((grow1 w1 _).trans (H2.out.mono (by simp)) |>.mono H1.out.size)⟩

def okPole (zs : List Int) : Bool := allB 1 6 [(zs.length : Int)] && allB 0 1000 zs

theorem validPole_any (A : Option Addr) (cap : Nat) (zs : List Int) (B : Nat) (w : World) (hB : B ≤ w.heap.size) (hz : Ints w B A zs) (hl : zs.length ≤ 1000000) :
    Calls Tryz.prog 157 #[.slice A zs.length cap] w fun e w' => e = .returned (.bool (okPole zs)) ∧ Below w.heap.size w w' := by
  have H := fun W => within_new 1 6 (zs.length : Int) (W.alloc (.cells #[.int .i64 (zs.length : Int)] 3)) W.heap.size (alloc_at0 W _)
  have HZ := Lib.hid hz
  clear hz
  cases h : allB 1 6 [(zs.length : Int)] with
  | true =>
    have e : okPole zs = allB 0 1000 zs := by simp [okPole, h]
    rw [e]
    rw [h] at H
    have HH := Lib.hid H
    clear e h H
    go_enter Tryz.func157, Tryz.ntmps157
    go_wp2_with (first
      | (go_at_call 71; (with_reducible show Calls _ _ #[_, .slice (some ⟨_, _, _⟩) 1 1] _ _); refine (HH.out _).mono ?_; rintro e w2 ⟨rfl, hB2⟩; have H2 := Lib.hid (H1.out.trans ((grow1 w1 _).trans (hB2.mono (by simp)) |>.mono H1.out.size)); clear hB2)
      | (go_at_call 71; refine (within_any 0 1000 A cap zs B _ (Nat.le_trans hB H3.out.size) (HZ.out.below (H3.out.mono hB)) hl).mono ?_; rintro e w4 ⟨rfl, hB4⟩; have H4 := Lib.hid hB4; clear hB4)
      | (go_at_call 119; refine (upTo_any _ _).mono ?_; rintro e w3 ⟨rfl, hB3⟩; have H3 := Lib.hid (H2.out.trans (hB3.mono H2.out.size)); clear hB3)
      | (go_at_call 154; refine (fromOne_any _ _).mono ?_; rintro e w1 ⟨rfl, hB1⟩; have H1 := Lib.hid hB1; clear hB1))
    go_ret
    exact ⟨rfl, H3.out.trans (H4.out.mono H3.out.size)⟩
  | false =>
    have e : okPole zs = false := by simp [okPole, h]
    rw [e]
    rw [h] at H
    have HH := Lib.hid H
    clear e h H
    go_enter Tryz.func157, Tryz.ntmps157
    go_wp2_with (first
      | (go_at_call 71; refine (HH.out _).mono ?_; rintro e w2 ⟨rfl, hB2⟩; have H2 := Lib.hid (H1.out.trans ((grow1 w1 _).trans (hB2.mono (by simp)) |>.mono H1.out.size)); clear hB2)
      | (go_at_call 154; refine (fromOne_any _ _).mono ?_; rintro e w1 ⟨rfl, hB1⟩; have H1 := Lib.hid hB1; clear hB1))
    go_ret
    exact ⟨rfl, H2.out⟩

theorem validBatch1_any (A : Option Addr) (cap : Nat) (zs : List Int) (B : Nat) (w : World) (hB : B ≤ w.heap.size) (hz : Ints w B A zs) (hl : zs.length ≤ 1000000) :
    Calls Tryz.prog 156 #[.slice A zs.length cap] w fun e w' => e = .returned (.bool (!okPole zs)) ∧ Below w.heap.size w w' := by
  have H := Lib.hid (validPole_any A cap zs B w hB hz hl)
  generalize okPole zs = v at H
  clear hz
  go_enter Tryz.func156, Tryz.ntmps156
  go_wp2_with (go_at_call 157; refine H.out.mono ?_; rintro e w1 ⟨rfl, hB1⟩; have H1 := Lib.hid hB1; clear hB1)
  go_ret
  exact ⟨rfl, H1.out⟩

def shortL (l : List Sl) : Prop := l.length ≤ 1000000 ∧ ∀ s ∈ l, s.zs.length ≤ 1000000

set_option maxHeartbeats 2000000 in
theorem indexRows_any (A : Option Addr) (cap : Nat) (l : List Sl) (B : Nat) (w : World) (hB : B ≤ w.heap.size) (hz : Rows w B A l) (hl : shortL l) :
    Calls Tryz.prog 177 #[.slice A l.length cap, .func (.func 156) #[] #[]] w fun e w' => e = .returned (.int .i64 (idxL (fun s : Sl => !okPole s.zs) l 0)) ∧ Below w.heap.size w w' := by
  have hlz := hl.1
  have HZ := Lib.hid hz
  have HL := Lib.hid hl
  clear hz hl
  have hP : ∃ P : Sl → Bool, P = fun s => !okPole s.zs := ⟨_, rfl⟩
  obtain ⟨P, hP⟩ := hP
  rw [← hP]
  have HPP := Lib.hid hP
  clear hP
  go_enter Tryz.func177, Tryz.ntmps177
  go_wp2
  go_loopg [8] l.length (fun gg s8 wx => ∃ k : Nat, k + gg = l.length ∧ s8 = .int .i64 k ∧ Hid (idxL P (l.drop k) k = idxL P l 0) ∧ Hid (Below w.heap.size w wx))
  case atStart => exact ⟨0, by omega, rfl, rfl, Below.refl _ _⟩
  case round =>
    obtain ⟨k, hkg, rfl, hI, hBr⟩ := hrel
    cases gk with
    | zero =>
      obtain rfl : k = l.length := by omega
      go_wp2
      go_ret
      refine ⟨?_, hBr.out⟩
      rw [← hI.out, List.drop_length]
      rfl
    | succ gg =>
      have hk : k < l.length := by omega
      have hkz : (k : Int) < l.length := by omega
      obtain ⟨c, off, hA, hcB, hc⟩ := HZ.out.va (by rw [slvs_len]; omega)
      subst hA
      have hc0 : wr.cell? ⟨c, off + k, none⟩ = _ := (hBr.out.cell (p := ⟨c, off + k, none⟩) (by simp; omega)).trans (hc k _ (slvs_at l k hk))
      have hst := idxL_step (P := P) hk
      rw [hI.out] at hst
      have hmem := List.getElem_mem hk
      have hy := validBatch1_any l[k].A l[k].c l[k].zs B wr (Nat.le_trans hB hBr.out.size) ((HZ.out.each _ hmem).below (hBr.out.mono hB)) (HL.out.2 _ hmem)
      have hpp := congrFun HPP.out l[k]
      generalize l[k] = y at hc0 hst hy hpp
      unfold slv at hc0
      have HC := Lib.hid hy
      have HST := Lib.hid hst
      clear hc hst hy hmem
      cases hp : P y with
      | true =>
        rw [hp] at hpp
        have HP := Lib.hid (And.intro hp hpp)
        clear hp hpp
        go_wp2_with (go_at_call 156; refine HC.out.mono ?_; rintro e w' ⟨rfl, hB1⟩; rw [← HP.out.2]; have HB1 := Lib.hid hB1; clear hB1)
        go_ret
        refine ⟨?_, hBr.out.trans (HB1.out.mono hBr.out.size)⟩
        rw [HST.out, HP.out.1]
        rfl
      | false =>
        rw [hp] at hpp
        have HP := Lib.hid (And.intro hp hpp)
        clear hp hpp
        go_wp2_with (go_at_call 156; refine HC.out.mono ?_; rintro e w' ⟨rfl, hB1⟩; rw [← HP.out.2]; have HB1 := Lib.hid hB1; clear hB1)
        go_roundg gg
        case measure => omega
        case rel => exact ⟨k + 1, by omega, by go_num, by rw [HST.out, HP.out.1]; rfl, hBr.out.trans (HB1.out.mono hBr.out.size)⟩

theorem any_rows (l : List Sl) : (l.any fun s : Sl => !okPole s.zs) = !(rws l).all okPole := by
  induction l with
  | nil => rfl
  | cons a l ih => simp only [List.any_cons, rws, List.map_cons, List.all_cons, Bool.not_and]; rw [ih]; rfl

theorem containsRows_any (A : Option Addr) (cap : Nat) (l : List Sl) (B : Nat) (w : World) (hB : B ≤ w.heap.size) (hz : Rows w B A l) (hl : shortL l) :
    Calls Tryz.prog 155 #[.slice A l.length cap, .func (.func 156) #[] #[]] w fun e w' => e = .returned (.bool (!(rws l).all okPole)) ∧ Below w.heap.size w w' := by
  have H := indexRows_any A cap l B w hB hz hl
  have e := idxL_any (P := fun s : Sl => !okPole s.zs) l 0
  rw [any_rows] at e
  rw [← e]
  generalize idxL (fun s : Sl => !okPole s.zs) l 0 = i at H
  have HH := Lib.hid H
  clear H e hz hl
  go_enter Tryz.func155, Tryz.ntmps155
  go_wp2_with (go_at_call 177; refine HH.out.mono ?_; rintro e w' ⟨rfl, hB1⟩; have HB1 := Lib.hid hB1; clear hB1)
  go_ret
  exact ⟨rfl, HB1.out⟩

structure BoxL (w0 : World) (x : Nat) (cs : Array Value) (ty : TypeId) (L : List (Nat × Nat)) (f : Nat → Int) (D : Nat → Bool) (σ : Nat → Value) (W : World) : Prop where
  bel : Below w0.heap.size w0 W
  box : W.heap[x]? = some (.cells cs ty (0, 0))
  new : ∀ e ∈ L, D e.1 = true → ∃ b, σ e.2 = .slice (some ⟨b, 0, none⟩) 1 1 ∧ W.heap[b]? = some (.cells #[.int .i64 (f e.1)] 3 (0, 0))
def boxLK (L : List (Nat × Nat)) (k : Nat) (d : Option Nat) : Bool := L.all fun e => !(k == e.1 || d == some e.2)
def boxLM (L : List (Nat × Nat)) (k t : Nat) : Bool := L.all fun e => e == (k, t) || !(k == e.1 || t == e.2)
section
variable {w0 W W' : World} {x : Nat} {cs : Array Value} {ty : TypeId} {L : List (Nat × Nat)} {f : Nat → Int} {D : Nat → Bool} {σ : Nat → Value}
theorem BoxL.move {k : Nat} {d : Option Nat} {v : Value} (h : BoxL w0 x cs ty L f D σ W) (hk : boxLK L k d = true) : BoxL w0 x cs ty L f (done D k) (R4.upd σ d v) W := by
  refine ⟨h.bel, h.box, fun e he hD => ?_⟩
  have hk' := List.all_eq_true.1 hk e he
  simp only [Bool.not_eq_true', Bool.or_eq_false_iff, beq_eq_false_iff_ne, ne_eq] at hk'
  rw [done_ne (by omega)] at hD
  rw [upd_ne hk'.2]
  exact h.new e he hD
theorem BoxL.next (h : BoxL w0 x cs ty L f D σ W) (hg : Grows W W') : BoxL w0 x cs ty L f D σ W' :=
  ⟨h.bel.trans (hg.mono h.bel.size), (hg.block _ (lt_of_heap h.box)).trans h.box, fun e he hD => let ⟨b, h1, h2⟩ := h.new e he hD; ⟨b, h1, (hg.block _ (lt_of_heap h2)).trans h2⟩⟩
theorem BoxL.made {k t : Nat} {n : Int} (h : BoxL w0 x cs ty L f D σ W) (hk : boxLM L k t = true) (hn : f k = n) : BoxL w0 x cs ty L f (done D k) (R4.upd σ (some t) (.slice (some ⟨W.heap.size, 0, none⟩) 1 1)) (W.alloc (.cells #[.int .i64 n] 3)) := by
  subst hn
  have h' := h.next (grow1 W (.cells #[.int .i64 (f k)] 3))
  refine ⟨h'.bel, h'.box, fun e he hD => ?_⟩
  have hk' := List.all_eq_true.1 hk e he
  by_cases he2 : e = (k, t)
  · subst he2
    exact ⟨_, upd_me, alloc_at0 _ _⟩
  · simp only [Bool.or_eq_true, Bool.not_eq_true', Bool.or_eq_false_iff, beq_eq_false_iff_ne, ne_eq, beq_iff_eq, he2, false_or] at hk'
    rw [done_ne (by omega)] at hD
    rw [upd_ne (by simpa using hk'.2)]
    exact h'.new e he hD
theorem BoxL.start (hb : W = w0.alloc (.cells cs ty)) (hD : ∀ k, D k = false) : BoxL w0 w0.heap.size cs ty L f D σ W.drew := by
  subst hb
  exact ⟨((Below.refl _ _).alloc (Nat.le_refl _) _).drew, alloc_at0 _ _, fun e _ h => by rw [hD] at h; cases h⟩
end

def edgeB (ops : Array Oper) (i j : Nat) : Bool := match ops[i]? with
  | none => false
  | some o => o.after.any fun e => Region.binds .any e && e.on == j
theorem needs_edge {ops : Array Oper} {i j : Nat} (h : edgeB ops i j = true) : R6.needsI ops ops.size i j = true := by
  unfold edgeB at h
  cases ho : ops[i]? with
  | none => rw [ho] at h; cases h
  | some o =>
    rw [ho] at h
    have hs : ops.size ≠ 0 := fun e => by
      have := (Array.getElem?_eq_some_iff.1 ho).1
      omega
    obtain ⟨f, hf⟩ := Nat.exists_eq_succ_of_ne_zero hs
    rw [hf]
    unfold R6.needsI
    simp only [ho]
    simp only [Array.any_eq_true] at h ⊢
    obtain ⟨x, hx, hb⟩ := h
    refine ⟨x, hx, ?_⟩
    simp only [Bool.and_eq_true] at hb ⊢
    exact ⟨hb.1, by simp [hb.2]⟩

def btcells (t : Bt) (P : Value) : Array Value := #[.int .i64 t.water, .int .i64 t.borax, P, .int .i64 t.lo, .int .i64 t.hi, .int .i64 t.need]
def okHead (t : Bt) (n : Nat) : Bool := allB 10 10000 [t.water] && allB 0 100000 [t.borax] && allB 1 4 [(n : Int)]
def okBatch (t : Bt) (ws : List (List Int)) : Bool := okHead t ws.length && ws.all okPole && okS t.lo t.hi 1 250 && allB 1 1000 [t.need]
def numB (t : Bt) (n : Nat) : Nat → Int := fun k => if k = 3 then t.water else if k = 9 then t.borax else if k = 17 then (n : Int) else t.need

end Go.Proofs.YtpnnlmaipcjkmaaGreat

namespace Go.Proofs.YtpnnlmaipcjkmaaGreat
open Go.ChangeShapes Go.WideShapes Go.ChangeAt Go.RowKit Go.Deep

theorem Tryz.own : ownKnob Tryz.prog.godebug = none := by kernel_rfl
theorem cellsRows : Tryz.prog.cellsOf 60 = 1 := by kernel_rfl
theorem cellsBatch : Tryz.prog.cellsOf 63 = 6 := by kernel_rfl

section
variable {H : Type} {enc : TypeId × Value → H} {w : World} {base : Nat} {spare : Nat → Bool} {held : Bool}

theorem open_rows_raw {fuel : Nat} {c : Value} {x : DataW H × List MemPlace} (h : DataW.trod enc Tryz.prog w base spare held fuel 60 [c] = some x) :
    ∃ (A : Option Addr) (l : List Sl) (cap : Nat), c = .slice A l.length cap ∧ l.length ≤ maxLen ∧ Rows w w.heap.size A l ∧ ∀ s ∈ l, s.zs.length ≤ maxLen := by
  rcases open_slice1 Tryz.underlying60 cellsSl h with ⟨hc, _⟩ | ⟨a, len, cap, m, n, V, D, Pl, hc, _, hl, hm, hmm, _, hi⟩
  · simp only [List.cons.injEq, and_true] at hc
    exact ⟨none, [], 0, hc, by simp, ⟨fun h => by simp [slvs] at h, fun s hs => by cases hs⟩, fun s hs => by cases hs⟩
  · simp only [List.cons.injEq, and_true] at hc
    have hle : len ≤ m := by rw [hmm]; split <;> omega
    have hv : ∀ i, i < len → ∃ s : Sl, w.cell? (a.add i) = some (slv s) ∧ Ints w w.heap.size s.A s.zs ∧ s.zs.length ≤ maxLen := fun i h => by
      obtain ⟨h1, h2⟩ := hi i (by omega)
      obtain ⟨A, zs, c, e, _, e2, e3⟩ := open_ints_raw h2
      exact ⟨⟨A, c, zs⟩, by rw [h1, e]; rfl, e3, e2⟩
    obtain ⟨f, hf⟩ : ∃ f : Nat → Sl, ∀ i, i < len → w.cell? (a.add i) = some (slv (f i)) ∧ Ints w w.heap.size (f i).A (f i).zs ∧ (f i).zs.length ≤ maxLen :=
      ⟨fun i => if h : i < len then (hv i h).choose else ⟨none, 0, []⟩, fun i h => by simp only [h, dif_pos]; exact (hv i h).choose_spec⟩
    have hl2 : ((List.range len).map f).length = len := by simp
    refine ⟨some a, (List.range len).map f, cap, by rw [hl2]; exact hc, by rw [hl2]; omega, ⟨fun h0 => ?_, fun s hs => ?_⟩, fun s hs => ?_⟩
    · rw [slvs_len, hl2] at h0
      have h1 := (hf 0 (by omega)).1
      obtain ⟨b, off, spot⟩ := a
      have hs1 : spot = none := by
        have e0 : (⟨b, off, spot⟩ : Addr).add 0 = ⟨b, off, spot⟩ := by simp [Addr.add]
        rw [e0] at h1
        exact World.cell?_spot h1
      subst hs1
      rw [Addr.add_mid] at h1
      refine ⟨b, off, rfl, lt_of_cell h1, fun k v hk => ?_⟩
      have hkl : k < len := by
        have := (List.getElem?_eq_some_iff.1 hk).1
        rw [slvs_len, hl2] at this
        exact this
      have h2 := (hf k hkl).1
      rw [Addr.add_mid] at h2
      rw [h2, ← hk]
      simp [slvs, hkl]
    · simp only [List.mem_map, List.mem_range] at hs
      obtain ⟨i, hi', rfl⟩ := hs
      exact (hf i hi').2.1
    · simp only [List.mem_map, List.mem_range] at hs
      obtain ⟨i, hi', rfl⟩ := hs
      exact (hf i hi').2.2

end

end Go.Proofs.YtpnnlmaipcjkmaaGreat
