/-
  Classes for regions that draw their order: boxes that stay, and lists of numbers that the region makes.
-/
import Derived.Deep.LoopGhost
import Derived.Test.YtpnnlmaipcjkmaaGreatQR1
set_option linter.all false
namespace Go.Proofs.YtpnnlmaipcjkmaaGreat
open Go.RowKit

def idxL {α : Type} (P : α → Bool) : List α → Nat → Int
  | [], _ => -1
  | x :: l, i => if P x = true then (i : Int) else idxL P l (i + 1)
theorem idxL_step {α : Type} {P : α → Bool} {zs : List α} {k : Nat} (hk : k < zs.length) : idxL P (zs.drop k) k = if P zs[k] = true then (k : Int) else idxL P (zs.drop (k + 1)) (k + 1) := by
  rw [List.drop_eq_getElem_cons hk]; rfl
theorem idxL_iff {α : Type} {P : α → Bool} : ∀ (l : List α) (i : Nat), 0 ≤ idxL P l i ↔ l.any P = true
  | [], _ => by simp [idxL]
  | x :: l, i => by
    have ih := idxL_iff (P := P) l (i + 1)
    by_cases h : P x = true
    · have e : idxL P (x :: l) i = (i : Int) := by simp [idxL, h]
      rw [e, List.any_cons, h]
      simp
    · have e : idxL P (x :: l) i = idxL P l (i + 1) := by simp [idxL, h]
      rw [e, List.any_cons, show P x = false by simpa using h, Bool.false_or]
      exact ih
theorem idxL_any {α : Type} {P : α → Bool} (l : List α) (i : Nat) : decide (0 ≤ idxL P l i) = l.any P := by
  rw [Bool.eq_iff_iff, decide_eq_true_iff]
  exact idxL_iff l i
def outB (lo hi n : Int) : Bool := decide (n < lo) || decide (hi < n)

theorem within1_any (lo hi n : Int) (b : Nat) (w : World) (hb : w.heap[b]? = some (.cells #[.int .i64 lo, .int .i64 hi] 50 (0, 0))) :
    Calls Tryz.prog 118 #[.int .i64 n, .pointer (some ⟨b, 0, none⟩)] w fun e w' => e = .returned (.bool (outB lo hi n)) ∧ w = w' := by
  have hc := fun i => cell_of_row w b i _ _ _ hb
  have HB := Lib.hid hb
  clear hb
  by_cases h1 : n < lo
  · have e : outB lo hi n = true := by simp [outB, h1]
    rw [e]
    clear e
    go_enter Tryz.func118, Tryz.ntmps118
    go_wp2
    go_ret
    exact ⟨rfl, rfl⟩
  · by_cases h2 : hi < n
    · have e : outB lo hi n = true := by simp [outB, h2]
      rw [e]
      clear e
      go_enter Tryz.func118, Tryz.ntmps118
      go_wp2
      go_ret
      exact ⟨rfl, rfl⟩
    · have e : outB lo hi n = false := by simp [outB]; omega
      rw [e]
      clear e
      go_enter Tryz.func118, Tryz.ntmps118
      go_wp2
      go_ret
      exact ⟨rfl, rfl⟩

set_option maxHeartbeats 1000000 in
theorem indexInts_any (lo hi : Int) (b : Nat) (A : Option Addr) (cap : Nat) (zs : List Int) (B : Nat) (w : World) (hb : w.heap[b]? = some (.cells #[.int .i64 lo, .int .i64 hi] 50 (0, 0))) (hz : Ints w B A zs) (hl : zs.length ≤ 1000000) :
    Calls Tryz.prog 160 #[.slice A zs.length cap, .func (.func 118) #[] #[.pointer (some ⟨b, 0, none⟩)]] w fun e w' => e = .returned (.int .i64 (idxL (outB lo hi) zs 0)) ∧ w = w' := by
  have HB := Lib.hid hb
  have HZ := Lib.hid hz
  clear hb hz
  go_enter Tryz.func160, Tryz.ntmps160
  go_wp2
  go_loopg [8] zs.length (fun gg s8 wx => ∃ k : Nat, k + gg = zs.length ∧ s8 = .int .i64 k ∧ Hid (idxL (outB lo hi) (zs.drop k) k = idxL (outB lo hi) zs 0) ∧ wx = w)
  case atStart => exact ⟨0, by omega, rfl, rfl, rfl⟩
  case round =>
    obtain ⟨k, hkg, rfl, hI, rfl⟩ := hrel
    cases gk with
    | zero =>
      obtain rfl : k = zs.length := by omega
      go_wp2
      go_ret
      refine ⟨?_, rfl⟩
      rw [← hI.out, List.drop_length]
      rfl
    | succ gg =>
      have hk : k < zs.length := by omega
      have hkz : (k : Int) < zs.length := by omega
      obtain ⟨c, off, hA, hcB, hc⟩ := HZ.out (by omega)
      subst hA
      have hx := hc k hk
      have hst := idxL_step (P := outB lo hi) hk
      have hg : zs[k]?.getD 0 = zs[k] := by simp [hk]
      rw [hg] at hx
      rw [hI.out] at hst
      have hcl := fun n W hW => within1_any lo hi n b W hW
      generalize zs[k] = x at hx hst
      have HC := Lib.hid hcl
      have HST := Lib.hid hst
      clear hc hst hcl hg
      cases hp : outB lo hi x with
      | true =>
        have HP := Lib.hid hp
        clear hp
        go_wp2_with (go_at_call 118; refine (HC.out _ _ HB.out).mono ?_; rintro e w' ⟨rfl, rfl⟩; rw [HP.out])
        go_ret
        refine ⟨?_, rfl⟩
        rw [HST.out, HP.out]
        rfl
      | false =>
        have HP := Lib.hid hp
        clear hp
        go_wp2_with (go_at_call 118; refine (HC.out _ _ HB.out).mono ?_; rintro e w' ⟨rfl, rfl⟩; rw [HP.out])
        go_roundg gg
        case measure => omega
        case rel => exact ⟨k + 1, by omega, by go_num, by rw [HST.out, HP.out]; rfl, rfl⟩

theorem containsInts_any (lo hi : Int) (b : Nat) (A : Option Addr) (cap : Nat) (zs : List Int) (B : Nat) (w : World) (hb : w.heap[b]? = some (.cells #[.int .i64 lo, .int .i64 hi] 50 (0, 0))) (hz : Ints w B A zs) (hl : zs.length ≤ 1000000) :
    Calls Tryz.prog 117 #[.slice A zs.length cap, .func (.func 118) #[] #[.pointer (some ⟨b, 0, none⟩)]] w fun e w' => e = .returned (.bool (zs.any (outB lo hi))) ∧ w = w' := by
  have H := indexInts_any lo hi b A cap zs B w hb hz hl
  have e := idxL_any (P := outB lo hi) zs 0
  rw [← e]
  generalize idxL (outB lo hi) zs 0 = i at H
  have HH := Lib.hid H
  clear H e hb hz
  go_enter Tryz.func117, Tryz.ntmps117
  go_wp2_with (go_at_call 160; refine HH.out.mono ?_; rintro e w' ⟨rfl, rfl⟩)
  go_ret
  exact ⟨rfl, rfl⟩

def allB (lo hi : Int) (zs : List Int) : Bool := zs.all fun n => inR n lo hi
theorem allB_any (lo hi : Int) (zs : List Int) : allB lo hi zs = !zs.any (outB lo hi) := by
  unfold allB
  rw [Bool.eq_iff_iff]
  simp only [List.all_eq_true, Bool.not_eq_true', List.any_eq_false, inR_iff, outB, Bool.or_eq_true, decide_eq_true_eq, not_or]
  constructor
  · intro h x hx; have := h x hx; omega
  · intro h x hx; have := h x hx; omega

theorem within_any (lo hi : Int) (A : Option Addr) (cap : Nat) (zs : List Int) (B : Nat) (w : World) (hB : B ≤ w.heap.size) (hz : Ints w B A zs) (hl : zs.length ≤ 1000000) :
    Calls Tryz.prog 71 #[.agg #[.int .i64 lo, .int .i64 hi], .slice A zs.length cap] w fun e w' => e = .returned (.bool (allB lo hi zs)) ∧ Below w.heap.size w w' := by
  have hg : Below w.heap.size w (w.alloc (.cells #[.int .i64 lo, .int .i64 hi] 50)) := (Below.refl _ _).alloc (Nat.le_refl _) _
  have H := containsInts_any lo hi w.heap.size A cap zs B (w.alloc (.cells #[.int .i64 lo, .int .i64 hi] 50)) (alloc_at0 w _) (hz.below (hg.mono hB)) hl
  have HH := Lib.hid H
  have HG := Lib.hid hg
  clear H hg hz
  rw [allB_any]
  generalize zs.any (outB lo hi) = v at HH
  go_enter Tryz.func71, Tryz.ntmps71
  go_wp2_with (go_at_call 117; refine HH.out.mono ?_; rintro e w' ⟨rfl, rfl⟩)
  go_ret
  exact ⟨rfl, HG.out⟩

theorem upTo_any (n : Int) (w : World) : Calls Tryz.prog 119 #[.int .i64 n] w fun e w' => e = .returned (.agg #[.int .i64 0, .int .i64 n]) ∧ Below w.heap.size w w' := by
  go_enter Tryz.func119, Tryz.ntmps119
  go_wp2
  refine bodyPost_ret (v := .agg #[.int .i64 0, .int .i64 n]) (by simp [results, Tryz.results119, go_sem]) rfl ⟨rfl, ?_⟩
  exact (Below.refl _ _).alloc (Nat.le_refl _) _

end Go.Proofs.YtpnnlmaipcjkmaaGreat

namespace Go.Proofs.YtpnnlmaipcjkmaaGreat
open Go.RowKit

theorem flat_len {α : Type} {f : α → List Value} {n : Nat} (hf : ∀ x, (f x).length = n) (l : List α) : (l.flatMap f).length = l.length * n := by
  induction l with
  | nil => simp
  | cons x l ih => rw [List.flatMap_cons, List.length_append, ih, hf, List.length_cons, Nat.succ_mul, Nat.add_comm]
theorem flat_at {α : Type} {f : α → List Value} {n : Nat} (hf : ∀ x, (f x).length = n) : ∀ (l : List α) (k : Nat) (hk : k < l.length) (j : Nat), j < n → (l.flatMap f)[k * n + j]? = (f l[k])[j]?
  | [], k, hk, _, _ => by simp at hk
  | x :: l, 0, _, j, hj => by
    rw [List.flatMap_cons, List.getElem?_append_left (by rw [hf]; omega)]
    simp
  | x :: l, k + 1, hk, j, hj => by
    rw [List.flatMap_cons, List.getElem?_append_right (by rw [hf, Nat.succ_mul]; omega), hf, show (k + 1) * n + j - n = k * n + j by rw [Nat.succ_mul]; omega]
    exact flat_at hf l k (by simpa using hk) j hj
theorem vals_elem {α : Type} {f : α → List Value} {n : Nat} (hf : ∀ x, (f x).length = n) {w : World} {B : Nat} {A : Option Addr} {l : List α} (h : Vals w B A (l.flatMap f)) (hn : 0 < n) {k : Nat} (hk : k < l.length) :
    ∃ b off, A = some ⟨b, off, none⟩ ∧ b < B ∧ ∀ j v, (f l[k])[j]? = some v → w.cell? ⟨b, off + k * n + j, none⟩ = some v := by
  have hl : 0 < (l.flatMap f).length := by rw [flat_len hf]; exact Nat.mul_pos (by omega) hn
  obtain ⟨b, off, e, hb, hc⟩ := h hl
  refine ⟨b, off, e, hb, fun j v hv => ?_⟩
  have hj : j < n := by rw [← hf l[k]]; exact (List.getElem?_eq_some_iff.1 hv).1
  rw [Nat.add_assoc]
  exact hc _ _ ((flat_at hf l k hk j hj).trans hv)

section
variable {F : Fence} {n : Nat} {P : Program} {ops : Array Oper} {rest : List Oper} {op : Oper} {a : Act} {w : World} {Q : Exit → Act → World → Prop} {R : Value → World → Prop}
theorem run_load_at {ty : TypeId} {b o : Nat} {cs : List Value} (hcs : ∀ j v, cs[j]? = some v → w.cell? ⟨b, o + j, none⟩ = some v) (hty : RowTy P ty cs.length) :
    (Instr.loadAt ty (.pointer (some ⟨b, o, none⟩))).run P w = .ok (.agg cs.toArray) w := by
  obtain ⟨⟨d, hu, hd⟩, hi⟩ := hty
  exact run_loadAt_mid w b o ty cs d hcs hu hd hi
theorem wpList_load_at (ty : TypeId) (x : Operand) (hgd : op.guard = none) (ho : op.op = .load ty x) {b o : Nat} (hx : a.eval x = .pointer (some ⟨b, o, none⟩))
    (cs : List Value) (hcs : ∀ j v, cs[j]? = some v → w.cell? ⟨b, o + j, none⟩ = some v) (hty : RowTy P ty cs.length)
    (h : wpList P ops Q rest (a.put op.dst (.agg cs.toArray)) w) : wpList P ops Q (op :: rest) a w := by
  refine wpList_plain hgd fun K hK => ?_
  unfold Oper.wp execOp
  simp only [ho, hx, Sem.run_bind, run_load_at hcs hty, Result.andThen_ok]
  exact hK _ _ h
theorem wpList_load_blkG (ty : TypeId) (x : Operand) (hw : Region.wanted op (yielded ops a.tmps) = true) (ho : op.op = .load ty x) {b o : Nat} (hx : a.eval x = .pointer (some ⟨b, o, none⟩))
    {C : Array Value} {t : TypeId} {fr : Nat × Nat} (hb : w.heap[b]? = some (.cells C t fr)) (cs : List Value) (hcs : ∀ j v, cs[j]? = some v → C[o + j]? = some v) (hty : RowTy P ty cs.length)
    (h : wpList P ops Q rest (a.put op.dst (.agg cs.toArray)) w) : wpList P ops Q (op :: rest) a w := by
  refine wpList_step fun K hK => ?_
  rw [if_pos hw]
  unfold Oper.wp execOp
  simp only [ho, hx, Sem.run_bind, run_load_blk hb hcs hty, Result.andThen_ok]
  exact hK _ _ h
theorem gives_load_at (ty : TypeId) (x : Operand) (ho : op.op = .load ty x) {b o : Nat} (hx : a.eval x = .pointer (some ⟨b, o, none⟩))
    (cs : List Value) (hcs : ∀ j v, cs[j]? = some v → w.cell? ⟨b, o + j, none⟩ = some v) (hty : RowTy P ty cs.length)
    (h : R (.agg cs.toArray) w) : gives P op a w R := by
  unfold gives execOp
  simp only [ho, hx, Sem.run_bind, run_load_at hcs hty, Result.andThen_ok]
  exact h
end

structure Pol where
  id : Int
  clone : Int
  cut : Int
  shot : Int
  g0 : Int
  g1 : Int
  g2 : Int
  w0 : Int
  w1 : Int
  w2 : Int
  soak : Int
  place : Int
structure Gd where
  age : Int
  wall : Int
  l0 : Int
  h0 : Int
  l1 : Int
  h1 : Int
  l2 : Int
  h2 : Int
structure Ts where
  id : Int
  pole : Int
  sec : Int
  force : Int
  held : Bool
def pcl (p : Pol) : List Value := [.int .i64 p.id, .int .i64 p.clone, .int .i64 p.cut, .int .i64 p.shot, .int .i64 p.g0, .int .i64 p.g1, .int .i64 p.g2, .int .i64 p.w0, .int .i64 p.w1, .int .i64 p.w2, .int .i64 p.soak, .int .i64 p.place]
def gcl (g : Gd) : List Value := [.int .i64 g.age, .int .i64 g.wall, .int .i64 g.l0, .int .i64 g.h0, .int .i64 g.l1, .int .i64 g.h1, .int .i64 g.l2, .int .i64 g.h2]
def tcl (t : Ts) : List Value := [.int .i64 t.id, .int .i64 t.pole, .int .i64 t.sec, .int .i64 t.force, .bool t.held]
theorem pcl_len (p : Pol) : (pcl p).length = 12 := rfl
theorem gcl_len (g : Gd) : (gcl g).length = 8 := rfl
theorem tcl_len (t : Ts) : (tcl t).length = 5 := rfl
theorem pcl_one (l : List Pol) : ∀ v ∈ l.flatMap pcl, v.oneCell' = true := by
  intro v hv
  obtain ⟨p, -, hv⟩ := List.mem_flatMap.1 hv
  simp only [pcl, List.mem_cons, List.not_mem_nil, or_false] at hv
  rcases hv with rfl | rfl | rfl | rfl | rfl | rfl | rfl | rfl | rfl | rfl | rfl | rfl <;> rfl
theorem gcl_one (l : List Gd) : ∀ v ∈ l.flatMap gcl, v.oneCell' = true := by
  intro v hv
  obtain ⟨p, -, hv⟩ := List.mem_flatMap.1 hv
  simp only [gcl, List.mem_cons, List.not_mem_nil, or_false] at hv
  rcases hv with rfl | rfl | rfl | rfl | rfl | rfl | rfl | rfl <;> rfl
theorem tcl_one (l : List Ts) : ∀ v ∈ l.flatMap tcl, v.oneCell' = true := by
  intro v hv
  obtain ⟨p, -, hv⟩ := List.mem_flatMap.1 hv
  simp only [tcl, List.mem_cons, List.not_mem_nil, or_false] at hv
  rcases hv with rfl | rfl | rfl | rfl | rfl <;> rfl

def okSt (lo hi : Int) : Bool := decide (lo ≤ hi) && (inR lo 1 200000 && inR hi 1 200000)
def okGd (g : Gd) (a w : Int) : Bool := inR g.age a 6 && (inR g.wall w 60 && (okSt g.l0 g.h0 && (okSt g.l1 g.h1 && okSt g.l2 g.h2)))
def okGds : List Gd → Int → Int → Bool
  | [], _, _ => true
  | g :: l, a, w => okGd g a w && okGds l g.age g.wall
def okGrading (gs : List Gd) (vary : Int) : Bool := inR gs.length 1 3 && (inR vary 0 200000 && okGds gs 0 1)
def okSec (g w : Int) : Bool := inR w 1 60 && (inR g 10 300 && decide (2 * w ≤ g))
def okSecs (p : Pol) : Bool := okSec p.g0 p.w0 && (okSec p.g1 p.w1 && okSec p.g2 p.w2)
def okPol (p : Pol) : Bool := inR p.clone 0 9999 && ((inR p.shot 0 3000 && inR p.cut 0 3000) && (decide (p.shot ≤ p.cut) && (okSecs p && (inR p.soak 0 5 && inR p.place 0 3))))
def byIdL {α : Type} (id : α → Int) (ok : α → Bool) : List α → Int → Bool
  | [], _ => true
  | x :: l, n => inR (id x) n 9999 && (ok x && byIdL id ok l (id x + 1))
def hasPol (ps : List Pol) (id : Int) : Bool := ps.any fun p => decide (p.id = id)
def okTs (ps : List Pol) (t : Ts) : Bool := hasPol ps t.pole && (inR t.sec 0 2 && inR t.force 1 1000000)
def okPols (ps : List Pol) : Bool := decide (ps.length ≤ 12) && byIdL Pol.id okPol ps 0
def okTsL (ps : List Pol) (ts : List Ts) : Bool := decide (ts.length ≤ 20) && byIdL Ts.id (okTs ps) ts 0
def okSheet (ps : List Pol) (ts : List Ts) : Bool := okPols ps && okTsL ps ts
def gChk (gs : List Gd) (vary : Int) (ps : List Pol) (ts : List Ts) : Int := if okGrading gs vary = true then if okSheet ps ts = true then 0 else 51 else 50

def gg (p : Pol) (k : Nat) : Int := if k = 0 then p.g0 else if k = 1 then p.g1 else p.g2
def ww (p : Pol) (k : Nat) : Int := if k = 0 then p.w0 else if k = 1 then p.w1 else p.w2
def ar (p : Pol) (k : Nat) : Int := 3 * ww p k * (gg p k - ww p k)
def st0 (g : Gd) (k : Nat) : Int × Int := if k = 0 then (g.l0, g.h0) else if k = 1 then (g.l1, g.h1) else (g.l2, g.h2)
def needN (a f : Int) : Int := (1000 * f + a - 1) / a
def own1 (p : Pol) (k : Nat) (s : Int × Int) (t : Ts) : Int × Int :=
  if t.pole = p.id ∧ t.sec = k then (if t.held = true then (max s.1 (needN (ar p k) t.force), s.2) else (s.1, min s.2 (needN (ar p k) t.force - 1))) else s
def own (p : Pol) (g : Gd) (ts : List Ts) (k : Nat) : Int × Int := ts.foldl (own1 p k) (st0 g k)
def bears (p : Pol) (k : Nat) (s : Int) : Int := min (s * ar p k / 1000) 1000000

end Go.Proofs.YtpnnlmaipcjkmaaGreat

namespace Go.Proofs.YtpnnlmaipcjkmaaGreat
open Go.RowKit
open R6 (done done_ne done_me upd_ne upd_me)

attribute [local go_sem] gives

theorem ints_lit {w : World} {g : Nat} {cs : Array Value} (zs : List Int) (h : w.heap[g]? = some (.cells cs 3 (0, 0))) (he : cs = (ints zs).toArray) : Ints w w.heap.size (some ⟨g, 0, none⟩) zs := fun _ =>
  ⟨g, 0, rfl, (Array.getElem?_eq_some_iff.1 h).1, fun k hk => by subst he; rw [Nat.zero_add]; exact (cell_of_row w g k _ _ _ h).trans (ints_at zs k hk)⟩

def okS (lo hi a b : Int) : Bool := decide (lo ≤ hi) && allB a b [lo, hi]

theorem validSpan_any (lo hi a b : Int) (w : World) :
    Calls Tryz.prog 158 #[.agg #[.int .i64 lo, .int .i64 hi], .agg #[.int .i64 a, .int .i64 b]] w fun e w' => e = .returned (.bool (okS lo hi a b)) ∧ Below w.heap.size w w' := by
  by_cases h : lo ≤ hi
  · have e : okS lo hi a b = allB a b [lo, hi] := by simp [okS, h]
    rw [e]
    clear e
    have H := within_any a b (some ⟨w.heap.size + 1 + 1, 0, none⟩) 2 [lo, hi] _ (((w.alloc (.cells #[.int .i64 lo, .int .i64 hi] 50)).alloc (.cells #[.int .i64 a, .int .i64 b] 50)).alloc (.cells #[.int .i64 lo, .int .i64 hi] 3)) (Nat.le_refl _) (ints_lit [lo, hi] (alloc3_at2 _ _ _ _) rfl) (by simp)
    have hg : Below w.heap.size w (((w.alloc (.cells #[.int .i64 lo, .int .i64 hi] 50)).alloc (.cells #[.int .i64 a, .int .i64 b] 50)).alloc (.cells #[.int .i64 lo, .int .i64 hi] 3)) := (((Below.refl _ _).alloc (Nat.le_refl _) _).alloc (by simp) _).alloc (by simp; omega) _
    generalize allB a b [lo, hi] = v at H
    have HH := Lib.hid H
    have HG := Lib.hid hg
    clear H hg
    go_enter Tryz.func158, Tryz.ntmps158
    go_wp2_with (go_at_call 71; refine HH.out.mono ?_; rintro e w' ⟨rfl, hB⟩; have HB := Lib.hid hB; clear hB)
    go_ret
    exact ⟨rfl, HG.out.trans (HB.out.mono HG.out.size)⟩
  · have e : okS lo hi a b = false := by simp [okS, h]
    rw [e]
    clear e
    go_enter Tryz.func158, Tryz.ntmps158
    go_wp2
    go_ret
    exact ⟨rfl, ((Below.refl _ _).alloc (Nat.le_refl _) _).alloc (by simp) _⟩

structure BoxC (w0 : World) (x : Nat) (cs : Array Value) (ty : TypeId) (on : Bool) (kb tb : Nat) (n : Int) (D : Nat → Bool) (σ : Nat → Value) (W : World) : Prop where
  bel : Below w0.heap.size w0 W
  box : W.heap[x]? = some (.cells cs ty (0, 0))
  new : on = true → D kb = true → ∃ b, σ tb = .slice (some ⟨b, 0, none⟩) 1 1 ∧ W.heap[b]? = some (.cells #[.int .i64 n] 3 (0, 0))
section
variable {w0 W W' : World} {x : Nat} {cs : Array Value} {ty : TypeId} {on : Bool} {kb tb : Nat} {n : Int} {D : Nat → Bool} {σ : Nat → Value}
theorem BoxC.next (h : BoxC w0 x cs ty on kb tb n D σ W) (hg : Grows W W') : BoxC w0 x cs ty on kb tb n D σ W' :=
  ⟨h.bel.trans (hg.mono h.bel.size), (hg.block _ (lt_of_heap h.box)).trans h.box, fun e f => let ⟨b, h1, h2⟩ := h.new e f; ⟨b, h1, (hg.block _ (lt_of_heap h2)).trans h2⟩⟩
theorem BoxC.made (h : BoxC w0 x cs ty on kb tb n D σ W) : BoxC w0 x cs ty on kb tb n (done D kb) (R4.upd σ (some tb) (.slice (some ⟨W.heap.size, 0, none⟩) 1 1)) (W.alloc (.cells #[.int .i64 n] 3)) :=
  ⟨(h.next (grow1 _ _)).bel, (h.next (grow1 _ _)).box, fun _ _ => ⟨_, upd_me, alloc_at0 _ _⟩⟩
theorem BoxC.start (hb : W = w0.alloc (.cells cs ty)) (hD : D kb = false) : BoxC w0 w0.heap.size cs ty on kb tb n D σ W.drew := by
  subst hb
  exact ⟨((Below.refl _ _).alloc (Nat.le_refl _) _).drew, alloc_at0 _ _, fun _ e => by rw [hD] at e; cases e⟩
end

end Go.Proofs.YtpnnlmaipcjkmaaGreat

namespace Go.Proofs.YtpnnlmaipcjkmaaGreat
open Go.RowKit

theorem grWithin1_any (lo hi n : Int) (b : Nat) (w : World) (hb : w.heap[b]? = some (.cells #[.int .i64 lo, .int .i64 hi] 50 (0, 0))) :
    Calls Tryz.prog 136 #[.int .i64 n, .pointer (some ⟨b, 0, none⟩)] w fun e w' => e = .returned (.bool (outB lo hi n)) ∧ w = w' := by
  have hc := fun i => cell_of_row w b i _ _ _ hb
  have HB := Lib.hid hb
  clear hb
  by_cases h1 : n < lo
  · have e : outB lo hi n = true := by simp [outB, h1]
    rw [e]
    clear e
    go_enter Tryz.func136, Tryz.ntmps136
    go_wp2
    go_ret
    exact ⟨rfl, rfl⟩
  · by_cases h2 : hi < n
    · have e : outB lo hi n = true := by simp [outB, h2]
      rw [e]
      clear e
      go_enter Tryz.func136, Tryz.ntmps136
      go_wp2
      go_ret
      exact ⟨rfl, rfl⟩
    · have e : outB lo hi n = false := by simp [outB]; omega
      rw [e]
      clear e
      go_enter Tryz.func136, Tryz.ntmps136
      go_wp2
      go_ret
      exact ⟨rfl, rfl⟩

set_option maxHeartbeats 1000000 in
theorem grIndexInts_any (lo hi : Int) (b : Nat) (A : Option Addr) (cap : Nat) (zs : List Int) (B : Nat) (w : World) (hb : w.heap[b]? = some (.cells #[.int .i64 lo, .int .i64 hi] 50 (0, 0))) (hz : Ints w B A zs) (hl : zs.length ≤ 1000000) :
    Calls Tryz.prog 160 #[.slice A zs.length cap, .func (.func 136) #[] #[.pointer (some ⟨b, 0, none⟩)]] w fun e w' => e = .returned (.int .i64 (idxL (outB lo hi) zs 0)) ∧ w = w' := by
  have HB := Lib.hid hb
  have HZ := Lib.hid hz
  clear hb hz
  go_enter Tryz.func160, Tryz.ntmps160
  go_wp2
  go_loopg [8] zs.length (fun gg s8 wx => ∃ k : Nat, k + gg = zs.length ∧ s8 = .int .i64 k ∧ Hid (idxL (outB lo hi) (zs.drop k) k = idxL (outB lo hi) zs 0) ∧ wx = w)
  case atStart => exact ⟨0, by omega, rfl, rfl, rfl⟩
  case round =>
    obtain ⟨k, hkg, rfl, hI, rfl⟩ := hrel
    cases gk with
    | zero =>
      obtain rfl : k = zs.length := by omega
      go_wp2
      go_ret
      refine ⟨?_, rfl⟩
      rw [← hI.out, List.drop_length]
      rfl
    | succ gg =>
      have hk : k < zs.length := by omega
      have hkz : (k : Int) < zs.length := by omega
      obtain ⟨c, off, hA, hcB, hc⟩ := HZ.out (by omega)
      subst hA
      have hx := hc k hk
      have hst := idxL_step (P := outB lo hi) hk
      have hg : zs[k]?.getD 0 = zs[k] := by simp [hk]
      rw [hg] at hx
      rw [hI.out] at hst
      have hcl := fun n W hW => grWithin1_any lo hi n b W hW
      generalize zs[k] = x at hx hst
      have HC := Lib.hid hcl
      have HST := Lib.hid hst
      clear hc hst hcl hg
      cases hp : outB lo hi x with
      | true =>
        have HP := Lib.hid hp
        clear hp
        go_wp2_with (go_at_call 136; refine (HC.out _ _ HB.out).mono ?_; rintro e w' ⟨rfl, rfl⟩; rw [HP.out])
        go_ret
        refine ⟨?_, rfl⟩
        rw [HST.out, HP.out]
        rfl
      | false =>
        have HP := Lib.hid hp
        clear hp
        go_wp2_with (go_at_call 136; refine (HC.out _ _ HB.out).mono ?_; rintro e w' ⟨rfl, rfl⟩; rw [HP.out])
        go_roundg gg
        case measure => omega
        case rel => exact ⟨k + 1, by omega, by go_num, by rw [HST.out, HP.out]; rfl, rfl⟩

theorem grContainsInts_any (lo hi : Int) (b : Nat) (A : Option Addr) (cap : Nat) (zs : List Int) (B : Nat) (w : World) (hb : w.heap[b]? = some (.cells #[.int .i64 lo, .int .i64 hi] 50 (0, 0))) (hz : Ints w B A zs) (hl : zs.length ≤ 1000000) :
    Calls Tryz.prog 117 #[.slice A zs.length cap, .func (.func 136) #[] #[.pointer (some ⟨b, 0, none⟩)]] w fun e w' => e = .returned (.bool (zs.any (outB lo hi))) ∧ w = w' := by
  have H := grIndexInts_any lo hi b A cap zs B w hb hz hl
  have e := idxL_any (P := outB lo hi) zs 0
  rw [← e]
  generalize idxL (outB lo hi) zs 0 = i at H
  have HH := Lib.hid H
  clear H e hb hz
  go_enter Tryz.func117, Tryz.ntmps117
  go_wp2_with (go_at_call 160; refine HH.out.mono ?_; rintro e w' ⟨rfl, rfl⟩)
  go_ret
  exact ⟨rfl, rfl⟩

theorem grWithin_any (lo hi : Int) (A : Option Addr) (cap : Nat) (zs : List Int) (B : Nat) (w : World) (hB : B ≤ w.heap.size) (hz : Ints w B A zs) (hl : zs.length ≤ 1000000) :
    Calls Tryz.prog 93 #[.agg #[.int .i64 lo, .int .i64 hi], .slice A zs.length cap] w fun e w' => e = .returned (.bool (allB lo hi zs)) ∧ Below w.heap.size w w' := by
  have hg : Below w.heap.size w (w.alloc (.cells #[.int .i64 lo, .int .i64 hi] 50)) := (Below.refl _ _).alloc (Nat.le_refl _) _
  have H := grContainsInts_any lo hi w.heap.size A cap zs B (w.alloc (.cells #[.int .i64 lo, .int .i64 hi] 50)) (alloc_at0 w _) (hz.below (hg.mono hB)) hl
  have HH := Lib.hid H
  have HG := Lib.hid hg
  clear H hg hz
  rw [allB_any]
  generalize zs.any (outB lo hi) = v at HH
  go_enter Tryz.func93, Tryz.ntmps93
  go_wp2_with (go_at_call 117; refine HH.out.mono ?_; rintro e w' ⟨rfl, rfl⟩)
  go_ret
  exact ⟨rfl, HG.out⟩

theorem grUpTo_any (n : Int) (w : World) : Calls Tryz.prog 94 #[.int .i64 n] w fun e w' => e = .returned (.agg #[.int .i64 0, .int .i64 n]) ∧ Below w.heap.size w w' := by
  go_enter Tryz.func94, Tryz.ntmps94
  go_wp2
  refine bodyPost_ret (v := .agg #[.int .i64 0, .int .i64 n]) (by simp [results, Tryz.results94, go_sem]) rfl ⟨rfl, ?_⟩
  exact (Below.refl _ _).alloc (Nat.le_refl _) _

theorem grFromOne_any (n : Int) (w : World) : Calls Tryz.prog 101 #[.int .i64 n] w fun e w' => e = .returned (.agg #[.int .i64 1, .int .i64 n]) ∧ Below w.heap.size w w' := by
  go_enter Tryz.func101, Tryz.ntmps101
  go_wp2
  refine bodyPost_ret (v := .agg #[.int .i64 1, .int .i64 n]) (by simp [results, Tryz.results101, go_sem]) rfl ⟨rfl, ?_⟩
  exact (Below.refl _ _).alloc (Nat.le_refl _) _

theorem grWithin_new (lo hi : Int) (zs : List Int) (w : World) (b n c : Nat) (hn : n = zs.length) (hb : w.heap[b]? = some (.cells (ints zs).toArray 3 (0, 0))) (hl : zs.length ≤ 1000000) :
    Calls Tryz.prog 93 #[.agg #[.int .i64 lo, .int .i64 hi], .slice (some ⟨b, 0, none⟩) n c] w fun e w' => e = .returned (.bool (allB lo hi zs)) ∧ Below w.heap.size w w' := by
  subst hn
  exact grWithin_any lo hi (some ⟨b, 0, none⟩) c zs _ w (Nat.le_refl _) (ints_lit zs hb rfl) hl

theorem grEmpty_any (lo hi : Int) (w : World) : Calls Tryz.prog 142 #[.agg #[.int .i64 lo, .int .i64 hi]] w fun e w' => e = .returned (.bool (decide (hi < lo))) ∧ Below w.heap.size w w' := by
  go_enter Tryz.func142, Tryz.ntmps142
  go_wp2
  go_ret
  exact ⟨rfl, grow1 _ _⟩

theorem grValidSection_any (n : Int) (w : World) : Calls Tryz.prog 56 #[.int .i64 n] w fun e w' => e = .returned (.bool (allB 0 2 [n])) ∧ Below w.heap.size w w' := by
  have H := fun W => grWithin_new 0 2 [n] (W.alloc (.cells #[.int .i64 n] 3)) W.heap.size 1 1 rfl (alloc_at0 W _) (by simp)
  generalize allB 0 2 [n] = v at H
  have HH := Lib.hid H
  clear H
  go_enter Tryz.func56, Tryz.ntmps56
  go_wp2_with (first
    | (go_at_call 93; refine (HH.out _).mono ?_; rintro e w2 ⟨rfl, hB2⟩; have H2 := Lib.hid hB2; clear hB2)
    | (go_at_call 94; refine (grUpTo_any _ _).mono ?_; rintro e w1 ⟨rfl, hB1⟩; have H1 := Lib.hid hB1; clear hB1))
  go_ret
  exact ⟨rfl, H1.out.trans ((grow1 w1 _).trans (H2.out.mono (by simp)) |>.mono H1.out.size)⟩

end Go.Proofs.YtpnnlmaipcjkmaaGreat

namespace Go.Proofs.YtpnnlmaipcjkmaaGreat
open Go.RowKit
open R6 (done done_ne done_me upd_ne upd_me)

def keptK : List (Nat × Obj) → World → Prop
  | [], _ => True
  | e :: l, W => W.heap[e.1]? = some e.2 ∧ keptK l W
theorem keptK.next {W W' : World} (hg : Grows W W') : ∀ {K : List (Nat × Obj)}, keptK K W → keptK K W'
  | [], _ => trivial
  | _ :: _, h => ⟨(hg.block _ (lt_of_heap h.1)).trans h.1, keptK.next hg h.2⟩
theorem keptK.drew {W : World} : ∀ {K : List (Nat × Obj)}, keptK K W → keptK K W.drew
  | [], _ => trivial
  | _ :: _, h => ⟨h.1, keptK.drew h.2⟩

structure BoxM (w0 : World) (K : List (Nat × Obj)) (L : List (Nat × Nat)) (f : Nat → List Int) (D : Nat → Bool) (σ : Nat → Value) (W : World) : Prop where
  bel : Below w0.heap.size w0 W
  box : keptK K W
  new : ∀ e ∈ L, D e.1 = true → ∃ b, σ e.2 = .slice (some ⟨b, 0, none⟩) (f e.1).length (f e.1).length ∧ W.heap[b]? = some (.cells (ints (f e.1)).toArray 3 (0, 0))
def boxMK (L : List (Nat × Nat)) (k : Nat) (d : Option Nat) : Bool := L.all fun e => !(k == e.1 || d == some e.2)
def boxMM (L : List (Nat × Nat)) (k t : Nat) : Bool := L.all fun e => e == (k, t) || !(k == e.1 || t == e.2)
section
variable {w0 W W' : World} {K : List (Nat × Obj)} {L : List (Nat × Nat)} {f : Nat → List Int} {D : Nat → Bool} {σ : Nat → Value}
theorem BoxM.move {k : Nat} {d : Option Nat} {v : Value} (h : BoxM w0 K L f D σ W) (hk : boxMK L k d = true) : BoxM w0 K L f (done D k) (R4.upd σ d v) W := by
  refine ⟨h.bel, h.box, fun e he hD => ?_⟩
  have hk' := List.all_eq_true.1 hk e he
  simp only [Bool.not_eq_true', Bool.or_eq_false_iff, beq_eq_false_iff_ne, ne_eq] at hk'
  rw [done_ne (by omega)] at hD
  rw [upd_ne hk'.2]
  exact h.new e he hD
theorem BoxM.next (h : BoxM w0 K L f D σ W) (hg : Grows W W') : BoxM w0 K L f D σ W' :=
  ⟨h.bel.trans (hg.mono h.bel.size), h.box.next hg, fun e he hD => let ⟨b, h1, h2⟩ := h.new e he hD; ⟨b, h1, (hg.block _ (lt_of_heap h2)).trans h2⟩⟩
theorem BoxM.made {k t n : Nat} {cs : Array Value} (h : BoxM w0 K L f D σ W) (hk : boxMM L k t = true) (hc : cs = (ints (f k)).toArray) (hn : n = (f k).length) :
    BoxM w0 K L f (done D k) (R4.upd σ (some t) (.slice (some ⟨W.heap.size, 0, none⟩) n n)) (W.alloc (.cells cs 3)) := by
  subst hc hn
  have h' := h.next (grow1 W (.cells (ints (f k)).toArray 3))
  refine ⟨h'.bel, h'.box, fun e he hD => ?_⟩
  have hk' := List.all_eq_true.1 hk e he
  by_cases he2 : e = (k, t)
  · subst he2
    exact ⟨_, upd_me, alloc_at0 _ _⟩
  · simp only [Bool.or_eq_true, Bool.not_eq_true', Bool.or_eq_false_iff, beq_eq_false_iff_ne, ne_eq, beq_iff_eq, he2, false_or] at hk'
    rw [done_ne (by omega)] at hD
    rw [upd_ne (by simpa using hk'.2)]
    exact h'.new e he hD
theorem BoxM.start (hb : Below w0.heap.size w0 W) (hK : keptK K W) (hD : ∀ k, D k = false) : BoxM w0 K L f D σ W.drew :=
  ⟨hb.drew, hK.drew, fun e _ h => by rw [hD] at h; cases h⟩
end

def edgeM (ops : Array Oper) (i j : Nat) : Bool := match ops[i]? with
  | none => false
  | some o => o.after.any fun e => Region.binds .any e && e.on == j
theorem needs_edgeM {ops : Array Oper} {i j : Nat} (h : edgeM ops i j = true) : R6.needsI ops ops.size i j = true := by
  unfold edgeM at h
  cases ho : ops[i]? with
  | none => rw [ho] at h; cases h
  | some o =>
    rw [ho] at h
    have hs : ops.size ≠ 0 := fun e => by
      have := (Array.getElem?_eq_some_iff.1 ho).1
      omega
    obtain ⟨f, hf⟩ := Nat.exists_eq_succ_of_ne_zero hs
    rw [hf]
    unfold R6.needsI
    simp only [ho]
    simp only [Array.any_eq_true] at h ⊢
    obtain ⟨x, hx, hb⟩ := h
    refine ⟨x, hx, ?_⟩
    simp only [Bool.and_eq_true] at hb ⊢
    exact ⟨hb.1, by simp [hb.2]⟩

end Go.Proofs.YtpnnlmaipcjkmaaGreat
