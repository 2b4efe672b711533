/-
  Which batches are valid (the program's).
-/
import Derived.Test.YtddpebnmjfmgdaaGreatQE26
set_option linter.all false
namespace Go.Proofs.YtddpebnmjfmgdaaGreat
open Go.RowKit
open R6 (done done_ne done_me upd_ne upd_me)

attribute [local go_sem] gives

structure Sl where
  A : Option Addr
  c : Nat
  zs : List Int
def slv (s : Sl) : Value := .slice s.A s.zs.length s.c
def slvs (l : List Sl) : List Value := l.map slv
def rws (l : List Sl) : List (List Int) := l.map (·.zs)
structure Rows (w : World) (B : Nat) (A : Option Addr) (l : List Sl) : Prop where
  va : Vals w B A (slvs l)
  each : ∀ s ∈ l, Ints w B s.A s.zs
theorem Rows.below {w w' : World} {B : Nat} {A : Option Addr} {l : List Sl} (h : Rows w B A l) (hb : Below B w w') : Rows w' B A l := ⟨h.va.below hb, fun s hs => (h.each s hs).below hb⟩
theorem Rows.mono {w : World} {B B' : Nat} {A : Option Addr} {l : List Sl} (h : Rows w B A l) (hB : B ≤ B') : Rows w B' A l := ⟨h.va.mono hB, fun s hs => (h.each s hs).mono hB⟩
theorem slvs_len (l : List Sl) : (slvs l).length = l.length := by simp [slvs]
theorem slvs_at (l : List Sl) (k : Nat) (hk : k < l.length) : (slvs l)[k]? = some (slv l[k]) := by simp [slvs, hk]

theorem fromOne_any (n : Int) (w : World) : Calls Tryz.prog 154 #[.int .i64 n] w fun e w' => e = .returned (.agg #[.int .i64 1, .int .i64 n]) ∧ Below w.heap.size w w' := by
  go_enter Tryz.func154, Tryz.ntmps154
  go_wp2
  refine bodyPost_ret (v := .agg #[.int .i64 1, .int .i64 n]) (by simp [results, Tryz.results154, go_sem]) rfl ⟨rfl, ?_⟩
  exact (Below.refl _ _).alloc (Nat.le_refl _) _

theorem within_new (lo hi n : Int) (w : World) (b : Nat) (hb : w.heap[b]? = some (.cells #[.int .i64 n] 3 (0, 0))) :
    Calls Tryz.prog 71 #[.agg #[.int .i64 lo, .int .i64 hi], .slice (some ⟨b, 0, none⟩) 1 1] w fun e w' => e = .returned (.bool (allB lo hi [n])) ∧ Below w.heap.size w w' :=
  within_any lo hi (some ⟨b, 0, none⟩) 1 [n] _ w (Nat.le_refl _) (ints_lit [n] hb rfl) (by simp)

theorem validHours_any (n : Int) (w : World) : Calls Tryz.prog 72 #[.int .i64 n] w fun e w' => e = .returned (.bool (allB 0 300 [n])) ∧ Below w.heap.size w w' := by
  have H := fun W => within_new 0 300 n (W.alloc (.cells #[.int .i64 n] 3)) W.heap.size (alloc_at0 W _)
  generalize allB 0 300 [n] = v at H
  have HH := Lib.hid H
  clear H
  go_enter Tryz.func72, Tryz.ntmps72
  go_wp2_with (first
    | (go_at_call 71; refine (HH.out _).mono ?_; rintro e w2 ⟨rfl, hB2⟩; have H2 := Lib.hid hB2; clear hB2)
    | (go_at_call 119; refine (upTo_any _ _).mono ?_; rintro e w1 ⟨rfl, hB1⟩; have H1 := Lib.hid hB1; clear hB1))
  go_ret
  exact ⟨rfl, H1.out.trans ((grow1 w1 _).trans (H2.out.mono (by simp)) |>.mono H1.out.size)⟩

def okPole (zs : List Int) : Bool := allB 1 6 [(zs.length : Int)] && allB 0 1000 zs

theorem validPole_any (A : Option Addr) (cap : Nat) (zs : List Int) (B : Nat) (w : World) (hB : B ≤ w.heap.size) (hz : Ints w B A zs) (hl : zs.length ≤ 1000000) :
    Calls Tryz.prog 157 #[.slice A zs.length cap] w fun e w' => e = .returned (.bool (okPole zs)) ∧ Below w.heap.size w w' := by
  have H := fun W => within_new 1 6 (zs.length : Int) (W.alloc (.cells #[.int .i64 (zs.length : Int)] 3)) W.heap.size (alloc_at0 W _)
  have HZ := Lib.hid hz
  clear hz
  cases h : allB 1 6 [(zs.length : Int)] with
  | true =>
    have e : okPole zs = allB 0 1000 zs := by simp [okPole, h]
    rw [e]
    rw [h] at H
    have HH := Lib.hid H
    clear e h H
    go_enter Tryz.func157, Tryz.ntmps157
    go_wp2_with (first
      | (go_at_call 71; (with_reducible show Calls _ _ #[_, .slice (some ⟨_, _, _⟩) 1 1] _ _); refine (HH.out _).mono ?_; rintro e w2 ⟨rfl, hB2⟩; have H2 := Lib.hid (H1.out.trans ((grow1 w1 _).trans (hB2.mono (by simp)) |>.mono H1.out.size)); clear hB2)
      | (go_at_call 71; refine (within_any 0 1000 A cap zs B _ (Nat.le_trans hB H3.out.size) (HZ.out.below (H3.out.mono hB)) hl).mono ?_; rintro e w4 ⟨rfl, hB4⟩; have H4 := Lib.hid hB4; clear hB4)
      | (go_at_call 119; refine (upTo_any _ _).mono ?_; rintro e w3 ⟨rfl, hB3⟩; have H3 := Lib.hid (H2.out.trans (hB3.mono H2.out.size)); clear hB3)
      | (go_at_call 154; refine (fromOne_any _ _).mono ?_; rintro e w1 ⟨rfl, hB1⟩; have H1 := Lib.hid hB1; clear hB1))
    go_ret
    exact ⟨rfl, H3.out.trans (H4.out.mono H3.out.size)⟩
  | false =>
    have e : okPole zs = false := by simp [okPole, h]
    rw [e]
    rw [h] at H
    have HH := Lib.hid H
    clear e h H
    go_enter Tryz.func157, Tryz.ntmps157
    go_wp2_with (first
      | (go_at_call 71; refine (HH.out _).mono ?_; rintro e w2 ⟨rfl, hB2⟩; have H2 := Lib.hid (H1.out.trans ((grow1 w1 _).trans (hB2.mono (by simp)) |>.mono H1.out.size)); clear hB2)
      | (go_at_call 154; refine (fromOne_any _ _).mono ?_; rintro e w1 ⟨rfl, hB1⟩; have H1 := Lib.hid hB1; clear hB1))
    go_ret
    exact ⟨rfl, H2.out⟩

theorem validBatch1_any (A : Option Addr) (cap : Nat) (zs : List Int) (B : Nat) (w : World) (hB : B ≤ w.heap.size) (hz : Ints w B A zs) (hl : zs.length ≤ 1000000) :
    Calls Tryz.prog 156 #[.slice A zs.length cap] w fun e w' => e = .returned (.bool (!okPole zs)) ∧ Below w.heap.size w w' := by
  have H := Lib.hid (validPole_any A cap zs B w hB hz hl)
  generalize okPole zs = v at H
  clear hz
  go_enter Tryz.func156, Tryz.ntmps156
  go_wp2_with (go_at_call 157; refine H.out.mono ?_; rintro e w1 ⟨rfl, hB1⟩; have H1 := Lib.hid hB1; clear hB1)
  go_ret
  exact ⟨rfl, H1.out⟩

def shortL (l : List Sl) : Prop := l.length ≤ 1000000 ∧ ∀ s ∈ l, s.zs.length ≤ 1000000

set_option maxHeartbeats 2000000 in
theorem indexRows_any (A : Option Addr) (cap : Nat) (l : List Sl) (B : Nat) (w : World) (hB : B ≤ w.heap.size) (hz : Rows w B A l) (hl : shortL l) :
    Calls Tryz.prog 177 #[.slice A l.length cap, .func (.func 156) #[] #[]] w fun e w' => e = .returned (.int .i64 (idxL (fun s : Sl => !okPole s.zs) l 0)) ∧ Below w.heap.size w w' := by
  have hlz := hl.1
  have HZ := Lib.hid hz
  have HL := Lib.hid hl
  clear hz hl
  have hP : ∃ P : Sl → Bool, P = fun s => !okPole s.zs := ⟨_, rfl⟩
  obtain ⟨P, hP⟩ := hP
  rw [← hP]
  have HPP := Lib.hid hP
  clear hP
  go_enter Tryz.func177, Tryz.ntmps177
  go_wp2
  go_loopg [8] l.length (fun gg s8 wx => ∃ k : Nat, k + gg = l.length ∧ s8 = .int .i64 k ∧ Hid (idxL P (l.drop k) k = idxL P l 0) ∧ Hid (Below w.heap.size w wx))
  case atStart => exact ⟨0, by omega, rfl, rfl, Below.refl _ _⟩
  case round =>
    obtain ⟨k, hkg, rfl, hI, hBr⟩ := hrel
    cases gk with
    | zero =>
      obtain rfl : k = l.length := by omega
      go_wp2
      go_ret
      refine ⟨?_, hBr.out⟩
      rw [← hI.out, List.drop_length]
      rfl
    | succ gg =>
      have hk : k < l.length := by omega
      have hkz : (k : Int) < l.length := by omega
      obtain ⟨c, off, hA, hcB, hc⟩ := HZ.out.va (by rw [slvs_len]; omega)
      subst hA
      have hc0 : wr.cell? ⟨c, off + k, none⟩ = _ := (hBr.out.cell (p := ⟨c, off + k, none⟩) (by simp; omega)).trans (hc k _ (slvs_at l k hk))
      have hst := idxL_step (P := P) hk
      rw [hI.out] at hst
      have hmem := List.getElem_mem hk
      have hy := validBatch1_any l[k].A l[k].c l[k].zs B wr (Nat.le_trans hB hBr.out.size) ((HZ.out.each _ hmem).below (hBr.out.mono hB)) (HL.out.2 _ hmem)
      have hpp := congrFun HPP.out l[k]
      generalize l[k] = y at hc0 hst hy hpp
      unfold slv at hc0
      have HC := Lib.hid hy
      have HST := Lib.hid hst
      clear hc hst hy hmem
      cases hp : P y with
      | true =>
        rw [hp] at hpp
        have HP := Lib.hid (And.intro hp hpp)
        clear hp hpp
        go_wp2_with (go_at_call 156; refine HC.out.mono ?_; rintro e w' ⟨rfl, hB1⟩; rw [← HP.out.2]; have HB1 := Lib.hid hB1; clear hB1)
        go_ret
        refine ⟨?_, hBr.out.trans (HB1.out.mono hBr.out.size)⟩
        rw [HST.out, HP.out.1]
        rfl
      | false =>
        rw [hp] at hpp
        have HP := Lib.hid (And.intro hp hpp)
        clear hp hpp
        go_wp2_with (go_at_call 156; refine HC.out.mono ?_; rintro e w' ⟨rfl, hB1⟩; rw [← HP.out.2]; have HB1 := Lib.hid hB1; clear hB1)
        go_roundg gg
        case measure => omega
        case rel => exact ⟨k + 1, by omega, by go_num, by rw [HST.out, HP.out.1]; rfl, hBr.out.trans (HB1.out.mono hBr.out.size)⟩

theorem any_rows (l : List Sl) : (l.any fun s : Sl => !okPole s.zs) = !(rws l).all okPole := by
  induction l with
  | nil => rfl
  | cons a l ih => simp only [List.any_cons, rws, List.map_cons, List.all_cons, Bool.not_and]; rw [ih]; rfl

theorem containsRows_any (A : Option Addr) (cap : Nat) (l : List Sl) (B : Nat) (w : World) (hB : B ≤ w.heap.size) (hz : Rows w B A l) (hl : shortL l) :
    Calls Tryz.prog 155 #[.slice A l.length cap, .func (.func 156) #[] #[]] w fun e w' => e = .returned (.bool (!(rws l).all okPole)) ∧ Below w.heap.size w w' := by
  have H := indexRows_any A cap l B w hB hz hl
  have e := idxL_any (P := fun s : Sl => !okPole s.zs) l 0
  rw [any_rows] at e
  rw [← e]
  generalize idxL (fun s : Sl => !okPole s.zs) l 0 = i at H
  have HH := Lib.hid H
  clear H e hz hl
  go_enter Tryz.func155, Tryz.ntmps155
  go_wp2_with (go_at_call 177; refine HH.out.mono ?_; rintro e w' ⟨rfl, hB1⟩; have HB1 := Lib.hid hB1; clear hB1)
  go_ret
  exact ⟨rfl, HB1.out⟩

structure BoxL (w0 : World) (x : Nat) (cs : Array Value) (ty : TypeId) (L : List (Nat × Nat)) (f : Nat → Int) (D : Nat → Bool) (σ : Nat → Value) (W : World) : Prop where
  bel : Below w0.heap.size w0 W
  box : W.heap[x]? = some (.cells cs ty (0, 0))
  new : ∀ e ∈ L, D e.1 = true → ∃ b, σ e.2 = .slice (some ⟨b, 0, none⟩) 1 1 ∧ W.heap[b]? = some (.cells #[.int .i64 (f e.1)] 3 (0, 0))
def boxLK (L : List (Nat × Nat)) (k : Nat) (d : Option Nat) : Bool := L.all fun e => !(k == e.1 || d == some e.2)
def boxLM (L : List (Nat × Nat)) (k t : Nat) : Bool := L.all fun e => e == (k, t) || !(k == e.1 || t == e.2)
section
variable {w0 W W' : World} {x : Nat} {cs : Array Value} {ty : TypeId} {L : List (Nat × Nat)} {f : Nat → Int} {D : Nat → Bool} {σ : Nat → Value}
theorem BoxL.move {k : Nat} {d : Option Nat} {v : Value} (h : BoxL w0 x cs ty L f D σ W) (hk : boxLK L k d = true) : BoxL w0 x cs ty L f (done D k) (R4.upd σ d v) W := by
  refine ⟨h.bel, h.box, fun e he hD => ?_⟩
  have hk' := List.all_eq_true.1 hk e he
  simp only [Bool.not_eq_true', Bool.or_eq_false_iff, beq_eq_false_iff_ne, ne_eq] at hk'
  rw [done_ne (by omega)] at hD
  rw [upd_ne hk'.2]
  exact h.new e he hD
theorem BoxL.next (h : BoxL w0 x cs ty L f D σ W) (hg : Grows W W') : BoxL w0 x cs ty L f D σ W' :=
  ⟨h.bel.trans (hg.mono h.bel.size), (hg.block _ (lt_of_heap h.box)).trans h.box, fun e he hD => let ⟨b, h1, h2⟩ := h.new e he hD; ⟨b, h1, (hg.block _ (lt_of_heap h2)).trans h2⟩⟩
theorem BoxL.made {k t : Nat} {n : Int} (h : BoxL w0 x cs ty L f D σ W) (hk : boxLM L k t = true) (hn : f k = n) : BoxL w0 x cs ty L f (done D k) (R4.upd σ (some t) (.slice (some ⟨W.heap.size, 0, none⟩) 1 1)) (W.alloc (.cells #[.int .i64 n] 3)) := by
  subst hn
  have h' := h.next (grow1 W (.cells #[.int .i64 (f k)] 3))
  refine ⟨h'.bel, h'.box, fun e he hD => ?_⟩
  have hk' := List.all_eq_true.1 hk e he
  by_cases he2 : e = (k, t)
  · subst he2
    exact ⟨_, upd_me, alloc_at0 _ _⟩
  · simp only [Bool.or_eq_true, Bool.not_eq_true', Bool.or_eq_false_iff, beq_eq_false_iff_ne, ne_eq, beq_iff_eq, he2, false_or] at hk'
    rw [done_ne (by omega)] at hD
    rw [upd_ne (by simpa using hk'.2)]
    exact h'.new e he hD
theorem BoxL.start (hb : W = w0.alloc (.cells cs ty)) (hD : ∀ k, D k = false) : BoxL w0 w0.heap.size cs ty L f D σ W.drew := by
  subst hb
  exact ⟨((Below.refl _ _).alloc (Nat.le_refl _) _).drew, alloc_at0 _ _, fun e _ h => by rw [hD] at h; cases h⟩
end

def edgeB (ops : Array Oper) (i j : Nat) : Bool := match ops[i]? with
  | none => false
  | some o => o.after.any fun e => Region.binds .any e && e.on == j
theorem needs_edge {ops : Array Oper} {i j : Nat} (h : edgeB ops i j = true) : R6.needsI ops ops.size i j = true := by
  unfold edgeB at h
  cases ho : ops[i]? with
  | none => rw [ho] at h; cases h
  | some o =>
    rw [ho] at h
    have hs : ops.size ≠ 0 := fun e => by
      have := (Array.getElem?_eq_some_iff.1 ho).1
      omega
    obtain ⟨f, hf⟩ := Nat.exists_eq_succ_of_ne_zero hs
    rw [hf]
    unfold R6.needsI
    simp only [ho]
    simp only [Array.any_eq_true] at h ⊢
    obtain ⟨x, hx, hb⟩ := h
    refine ⟨x, hx, ?_⟩
    simp only [Bool.and_eq_true] at hb ⊢
    exact ⟨hb.1, by simp [hb.2]⟩

def btcells (t : Bt) (P : Value) : Array Value := #[.int .i64 t.water, .int .i64 t.borax, P, .int .i64 t.lo, .int .i64 t.hi, .int .i64 t.need]
def okHead (t : Bt) (n : Nat) : Bool := allB 10 10000 [t.water] && allB 0 100000 [t.borax] && allB 1 4 [(n : Int)]
def okBatch (t : Bt) (ws : List (List Int)) : Bool := okHead t ws.length && ws.all okPole && okS t.lo t.hi 1 250 && allB 1 1000 [t.need]
def numB (t : Bt) (n : Nat) : Nat → Int := fun k => if k = 3 then t.water else if k = 9 then t.borax else if k = 17 then (n : Int) else t.need

end Go.Proofs.YtddpebnmjfmgdaaGreat
