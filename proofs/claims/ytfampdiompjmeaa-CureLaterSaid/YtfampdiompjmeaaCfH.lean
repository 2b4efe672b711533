/-
  The law CureLater.
-/
import Derived.Test.YtfampdiompjmeaaCfE
import Derived.Lib.MinMax
namespace Go.Proofs.Ytfampdiompjmeaa
open Go.RowKit Go.Shelf
open R6 (done done_ne done_me upd_ne upd_me)

attribute [local go_sem] gives

def zero6 : List Value := [.int .i64 0, .int .i64 0, .slice none 0 0, .int .i64 0, .int .i64 0, .int .i64 0]
def twoK (k : Nat) (d : Option Nat) : Bool := !(k == 2 || k == 3 || k == 4 || k == 5 || d == some 20 || d == some 21)
def isB (v : Value) (n0 : Nat) (l : List Value) (W : World) (b : Nat) : Prop := v = .pointer (some ⟨b, 0, none⟩) ∧ n0 ≤ b ∧ W.heap[b]? = some (.cells l.toArray 28 (0, 0))
theorem isB.lt {v : Value} {n0 b : Nat} {l : List Value} {W : World} (h : isB v n0 l W b) : b < W.heap.size := lt_of_heap h.2.2
theorem isB.grows {v : Value} {n0 b : Nat} {l : List Value} {W W' : World} (h : isB v n0 l W b) (hg : Grows W W') : isB v n0 l W' b := ⟨h.1, h.2.1, (hg.block _ h.lt).trans h.2.2⟩
theorem isB.put {v : Value} {n0 b b' : Nat} {l : List Value} {W W' : World} (h : isB v n0 l W b) (hp : Put W W' b') (hne : b ≠ b') : isB v n0 l W' b := ⟨h.1, h.2.1, (hp.other _ hne).trans h.2.2⟩

structure TwoC (w0 : World) (X Y : List Value) (D : Nat → Bool) (σ : Nat → Value) (W : World) : Prop where
  bel : Below w0.heap.size w0 W
  a : D 2 = true → ∃ b, isB (σ 20) w0.heap.size (if D 4 = true then X else zero6) W b
  b : D 3 = true → ∃ b, isB (σ 21) w0.heap.size (if D 5 = true then Y else zero6) W b
  ne : D 2 = true → D 3 = true → σ 20 ≠ σ 21
section
variable {w0 W W' : World} {X Y : List Value} {D : Nat → Bool} {σ : Nat → Value}
theorem TwoC.move {k : Nat} {d : Option Nat} {v : Value} (h : TwoC w0 X Y D σ W) (hk : twoK k d = true) : TwoC w0 X Y (done D k) (R4.upd σ d v) W := by
  simp only [twoK, Bool.not_eq_true', Bool.or_eq_false_iff, beq_eq_false_iff_ne, ne_eq] at hk
  obtain ⟨⟨⟨⟨⟨h9, h10⟩, h11⟩, h12⟩, d1⟩, d2⟩ := hk
  have e9 := done_ne (D := D) (k := k) (j := 2) (by omega)
  have e10 := done_ne (D := D) (k := k) (j := 3) (by omega)
  have e11 := done_ne (D := D) (k := k) (j := 4) (by omega)
  have e12 := done_ne (D := D) (k := k) (j := 5) (by omega)
  have u1 := upd_ne (ρ := σ) (v := v) d1
  have u2 := upd_ne (ρ := σ) (v := v) d2
  exact ⟨h.bel, by rw [e9, e11, u1]; exact h.a, by rw [e10, e12, u2]; exact h.b, by rw [e9, e10, u1, u2]; exact h.ne⟩
theorem TwoC.newA (h : TwoC w0 X Y D σ W) (h11 : D 4 = false) : TwoC w0 X Y (done D 2) (R4.upd σ (some 20) (.pointer (some ⟨W.heap.size, 0, none⟩))) (W.alloc (.cells zero6.toArray 28)) := by
  have hg : Grows W (W.alloc (.cells zero6.toArray 28)) := grow1 _ _
  have e10 := done_ne (D := D) (k := 2) (j := 3) (by decide)
  have e11 := done_ne (D := D) (k := 2) (j := 4) (by decide)
  have e12 := done_ne (D := D) (k := 2) (j := 5) (by decide)
  have u2 := upd_ne (ρ := σ) (d := some 20) (v := .pointer (some ⟨W.heap.size, 0, none⟩)) (t := 21) (by decide)
  refine ⟨h.bel.trans (hg.mono h.bel.size), fun _ => ⟨W.heap.size, R6.upd_me, h.bel.size, ?_⟩, ?_, fun _ e => ?_⟩
  · rw [e11, h11]; exact alloc_at0 _ _
  · rw [e10, e12, u2]
    exact fun e => let ⟨b, hb⟩ := h.b e; ⟨b, hb.grows hg⟩
  · rw [e10] at e
    rw [u2, R6.upd_me]
    obtain ⟨b, hb⟩ := h.b e
    have := hb.lt
    rw [hb.1]
    intro e'
    simp only [Value.pointer.injEq, Option.some.injEq, Addr.mk.injEq, and_true] at e'
    omega
theorem TwoC.newB (h : TwoC w0 X Y D σ W) (h12 : D 5 = false) : TwoC w0 X Y (done D 3) (R4.upd σ (some 21) (.pointer (some ⟨W.heap.size, 0, none⟩))) (W.alloc (.cells zero6.toArray 28)) := by
  have hg : Grows W (W.alloc (.cells zero6.toArray 28)) := grow1 _ _
  have e9 := done_ne (D := D) (k := 3) (j := 2) (by decide)
  have e11 := done_ne (D := D) (k := 3) (j := 4) (by decide)
  have e12 := done_ne (D := D) (k := 3) (j := 5) (by decide)
  have u1 := upd_ne (ρ := σ) (d := some 21) (v := .pointer (some ⟨W.heap.size, 0, none⟩)) (t := 20) (by decide)
  refine ⟨h.bel.trans (hg.mono h.bel.size), ?_, fun _ => ⟨W.heap.size, R6.upd_me, h.bel.size, ?_⟩, fun e _ => ?_⟩
  · rw [e9, e11, u1]
    exact fun e => let ⟨b, hb⟩ := h.a e; ⟨b, hb.grows hg⟩
  · rw [e12, h12]; exact alloc_at0 _ _
  · rw [e9] at e
    rw [u1, R6.upd_me]
    obtain ⟨b, hb⟩ := h.a e
    have := hb.lt
    rw [hb.1]
    intro e'
    simp only [Value.pointer.injEq, Option.some.injEq, Addr.mk.injEq, and_true] at e'
    omega
theorem TwoC.putA (h : TwoC w0 X Y D σ W) (h9 : D 2 = true) {b : Nat} (hb : σ 20 = .pointer (some ⟨b, 0, none⟩)) (hp : Put W W' b) (hM : W'.heap[b]? = some (.cells X.toArray 28 (0, 0))) : TwoC w0 X Y (done D 4) σ W' := by
  have e9 := done_ne (D := D) (k := 4) (j := 2) (by decide)
  have e10 := done_ne (D := D) (k := 4) (j := 3) (by decide)
  have e12 := done_ne (D := D) (k := 4) (j := 5) (by decide)
  obtain ⟨b', hb'⟩ := h.a h9
  have eb : b' = b := by
    have := hb'.1.symm.trans hb
    simpa using this
  subst eb
  refine ⟨h.bel.trans (hp.below hb'.2.1), fun _ => ⟨b', hb, hb'.2.1, by rw [done_me]; exact hM⟩, ?_, by rw [e9, e10]; exact h.ne⟩
  rw [e10, e12]
  intro e
  obtain ⟨c, hc⟩ := h.b e
  exact ⟨c, hc.put hp fun e' => h.ne h9 e (by rw [hb, hc.1, e'])⟩
theorem TwoC.putB (h : TwoC w0 X Y D σ W) (h10 : D 3 = true) {b : Nat} (hb : σ 21 = .pointer (some ⟨b, 0, none⟩)) (hp : Put W W' b) (hM : W'.heap[b]? = some (.cells Y.toArray 28 (0, 0))) : TwoC w0 X Y (done D 5) σ W' := by
  have e9 := done_ne (D := D) (k := 5) (j := 2) (by decide)
  have e10 := done_ne (D := D) (k := 5) (j := 3) (by decide)
  have e11 := done_ne (D := D) (k := 5) (j := 4) (by decide)
  obtain ⟨b', hb'⟩ := h.b h10
  have eb : b' = b := by
    have := hb'.1.symm.trans hb
    simpa using this
  subst eb
  refine ⟨h.bel.trans (hp.below hb'.2.1), ?_, fun _ => ⟨b', hb, hb'.2.1, by rw [done_me]; exact hM⟩, by rw [e9, e10]; exact h.ne⟩
  rw [e9, e11]
  intro e
  obtain ⟨c, hc⟩ := h.a e
  exact ⟨c, hc.put hp fun e' => h.ne e h10 (by rw [hb, hc.1, e'])⟩
end


theorem cntS_mono {P Q : Int → Bool} {lo : Int} : ∀ n, (∀ i : Nat, i < n → P (lo + i) = true → Q (lo + i) = true) → cntS P lo n ≤ cntS Q lo n
  | 0, _ => Nat.le_refl _
  | n + 1, h => by
    have ih := cntS_mono (P := P) (Q := Q) (lo := lo) n (fun i hi => h i (by omega))
    have hn := h n (by omega)
    have e1 : (if P (lo + n) = true then 1 else 0) ≤ (if Q (lo + n) = true then 1 else 0) := by
      by_cases hp : P (lo + n) = true
      · rw [if_pos hp, if_pos (hn hp)]; exact Nat.le_refl _
      · rw [if_neg hp]; exact Nat.zero_le _
    exact Nat.add_le_add ih e1
theorem codeK_mono {n a b : Nat} (h0 : 0 < n) (h : a ≤ b) (hb : b ≤ n) : codeK n a ≤ codeK n b := by
  unfold codeK
  repeat' split
  all_goals omega
theorem codeK_cases (n c : Nat) : (codeK n c = 0 ∧ c = 0) ∨ (codeK n c = 2 ∧ c = n) ∨ (codeK n c = 1 ∧ c ≠ 0 ∧ c ≠ n) := by
  unfold codeK
  by_cases h0 : c = 0
  · rw [if_pos h0]; exact .inl ⟨rfl, h0⟩
  · rw [if_neg h0]
    by_cases h1 : c = n
    · rw [if_pos h1]; exact .inr (.inl ⟨rfl, h1⟩)
    · rw [if_neg h1]; exact .inr (.inr ⟨rfl, h0, h1⟩)
/-- With fewer spreads what is known stays so. -/
theorem codeK_sub {P : Int → Bool} {lo lo' : Int} {n n' : Nat} (h0 : 0 < n') (h1 : lo ≤ lo') (h2 : lo' + n' ≤ lo + n) (hk : codeK n (cntS P lo n) ≠ 1) : codeK n' (cntS P lo' n') = codeK n (cntS P lo n) := by
  have hs : ∀ i : Nat, i < n' → ∃ j : Nat, j < n ∧ lo' + (i : Int) = lo + (j : Int) := fun i hi => ⟨(lo' - lo).toNat + i, by omega, by omega⟩
  rcases codeK_cases n (cntS P lo n) with ⟨e, c⟩ | ⟨e, c⟩ | ⟨e, _⟩
  · have : cntS P lo' n' = 0 := (cntS_zero n').2 fun i hi => by
      obtain ⟨j, hj, ej⟩ := hs i hi
      rw [ej]; exact (cntS_zero n).1 c j hj
    rw [e, this]
    rfl
  · have : cntS P lo' n' = n' := (cntS_all n').2 fun i hi => by
      obtain ⟨j, hj, ej⟩ := hs i hi
      rw [ej]; exact (cntS_all n).1 c j hj
    rw [e, this]
    unfold codeK
    rw [if_neg (by omega), if_pos rfl]
  · exact absurd e hk
theorem codeK_one (P : Int → Bool) (lo : Int) : codeK 1 (cntS P lo 1) ≠ 1 := by
  have := cntS_le P lo 1
  rcases codeK_cases 1 (cntS P lo 1) with ⟨e, _⟩ | ⟨e, _⟩ | ⟨_, h1, h2⟩
  · rw [e]; decide
  · rw [e]; decide
  · omega
theorem inS_mono {t : Bt} {ws : List (List Int)} {x y : Nat} (h : x ≤ y) {s : Int} {p : Nat} (hs : inS t ws x s p = true) : inS t ws y s p = true := by
  obtain ⟨k, hk⟩ := Option.isSome_iff_exists.1 hs
  obtain ⟨a, b, c⟩ := firstB_some hk
  unfold inS
  rw [firstB_eq (K := y + 1) (by omega) b c]
  rfl
/-- The batch with other spreads. -/
def btS (t : Bt) (a b : Int) : Bt := ⟨t.water, t.borax, a, b, t.need⟩
theorem known_at {t : Bt} {ws : List (List Int)} {h p : Nat} (hp : p < ws.length) : (knownL t ws h)[p]?.getD 0 = codeK (spN t) (cntS (fun s => inS t ws h s p) t.lo (spN t)) := by
  simp [knownL, List.getElem?_range hp]
/-- What the four answers are. -/
theorem later_cases {t : Bt} {ws : List (List Int)} {x y p : Nat} {a b : Int} (hxy : x ≤ y) (ha : t.lo ≤ a) (hab : a ≤ b) (hb : b ≤ t.hi) (hp : p < ws.length) :
    ((knownL t ws x)[p]?.getD 0 ≤ (knownL t ws y)[p]?.getD 0) ∧
    (((knownL t ws x)[p]?.getD 0 = 0 ∧ (knownL (btS t a b) ws x)[p]?.getD 0 = 0 ∧ (knownL (btS t a a) ws x)[p]?.getD 0 = 0) ∨
     ((knownL t ws x)[p]?.getD 0 = 2 ∧ (knownL (btS t a b) ws x)[p]?.getD 0 = 2 ∧ (knownL (btS t a a) ws x)[p]?.getD 0 = 2) ∨
     ((knownL t ws x)[p]?.getD 0 = 1 ∧ (knownL (btS t a b) ws x)[p]?.getD 0 = 0 ∧ (knownL (btS t a a) ws x)[p]?.getD 0 = 0) ∨
     ((knownL t ws x)[p]?.getD 0 = 1 ∧ (knownL (btS t a b) ws x)[p]?.getD 0 = 2 ∧ (knownL (btS t a a) ws x)[p]?.getD 0 = 2) ∨
     ((knownL t ws x)[p]?.getD 0 = 1 ∧ (knownL (btS t a b) ws x)[p]?.getD 0 = 1 ∧ (knownL (btS t a a) ws x)[p]?.getD 0 = 0) ∨
     ((knownL t ws x)[p]?.getD 0 = 1 ∧ (knownL (btS t a b) ws x)[p]?.getD 0 = 1 ∧ (knownL (btS t a a) ws x)[p]?.getD 0 = 2)) := by
  rw [known_at hp, known_at hp, known_at hp, known_at hp]
  have hn : spN t = (t.hi - t.lo + 1).toNat := rfl
  have hn1 : spN (btS t a b) = (b - a + 1).toNat := rfl
  have hn2 : spN (btS t a a) = (a - a + 1).toNat := rfl
  have e2 : spN (btS t a a) = 1 := by rw [hn2]; omega
  have hP1 : (fun s => inS (btS t a b) ws x s p) = fun s => inS t ws x s p := rfl
  have hP2 : (fun s => inS (btS t a a) ws x s p) = fun s => inS t ws x s p := rfl
  have l1 : (btS t a b).lo = a := rfl
  have l2 : (btS t a a).lo = a := rfl
  rw [hP1, hP2, l1, l2, e2]
  have hm : codeK (spN t) (cntS (fun s => inS t ws x s p) t.lo (spN t)) ≤ codeK (spN t) (cntS (fun s => inS t ws y s p) t.lo (spN t)) :=
    codeK_mono (by omega) (cntS_mono _ fun i _ h => inS_mono hxy h) (cntS_le _ _ _)
  have s1 := fun h => codeK_sub (P := fun s => inS t ws x s p) (lo := t.lo) (lo' := a) (n := spN t) (n' := spN (btS t a b)) (by omega) ha (by omega) h
  have s2 := fun h => codeK_sub (P := fun s => inS t ws x s p) (lo := a) (lo' := a) (n := spN (btS t a b)) (n' := 1) (by omega) (Int.le_refl _) (by omega) h
  have s3 := codeK_one (fun s => inS t ws x s p) a
  refine ⟨hm, ?_⟩
  have c1 := codeK_cases (spN t) (cntS (fun s => inS t ws x s p) t.lo (spN t))
  have c2 := codeK_cases (spN (btS t a b)) (cntS (fun s => inS t ws x s p) a (spN (btS t a b)))
  have c3 := codeK_cases 1 (cntS (fun s => inS t ws x s p) a 1)
  generalize codeK (spN t) (cntS (fun s => inS t ws x s p) t.lo (spN t)) = w at *
  generalize codeK (spN (btS t a b)) (cntS (fun s => inS t ws x s p) a (spN (btS t a b))) = f at *
  generalize codeK 1 (cntS (fun s => inS t ws x s p) a 1) = c at *
  have c1' : w = 0 ∨ w = 2 ∨ w = 1 := by rcases c1 with h | h | h <;> simp [h.1]
  have c2' : f = 0 ∨ f = 2 ∨ f = 1 := by rcases c2 with h | h | h <;> simp [h.1]
  have c3' : c = 0 ∨ c = 2 ∨ c = 1 := by rcases c3 with h | h | h <;> simp [h.1]
  clear c1 c2 c3 hm
  rcases c1' with rfl | rfl | rfl <;> rcases c2' with rfl | rfl | rfl <;> rcases c3' with rfl | rfl | rfl <;> simp at s1 s2 s3 ⊢

theorem u8s_get {zs : List Int} {p : Nat} (hp : p < zs.length) : (u8s zs)[p]? = some (.int .u8 (zs[p]?.getD 0)) := by simp [u8s, hp]

def TrV (l : Nat) (L : List Int) (W : World) (e : Ending) (w' : World) : Prop := ∃ A c, e = .returned (.tuple #[.slice A l c, .int .i64 0]) ∧ Vals w' w'.heap.size A (u8s L) ∧ Below W.heap.size W w'
theorem trV_of {t : Bt} {A : Option Addr} {cap : Nat} {l : List Sl} {h : Nat} {B : Nat} {W : World} (hB : B ≤ W.heap.size) (hz : Rows W B A l) (hok : okBatch t (rws l) = true) (h3 : h ≤ 300) :
    Calls Try.prog 18 #[.agg (btcells t (.slice A l.length cap)), .int .i64 (h : Int)] W (TrV l.length (knownL t (rws l) h) W) := by
  have := cureTreated_any t A cap l h B W hB hz (okBatch_shortL hok)
  have hE : treatE t (rws l) h = 0 := by
    have e2 : allB 0 300 [(h : Int)] = true := allB_iff.2 ⟨by omega, by omega⟩
    simp [treatE, hok, e2]
  have hL : treatL t (rws l) h = knownL t (rws l) h := by simp [treatL, hE]
  unfold TrePost at this
  rw [hE, hL] at this
  refine this.mono fun e w' ⟨A', c, he, hO, hB'⟩ => ⟨A', c, ?_, Vals.own hO, hB'⟩
  rw [he, knownL_len]
  simp [rws]

set_option maxRecDepth 100000 in
set_option maxHeartbeats 8000000 in
theorem cureLater_no (t : Bt) (A : Option Addr) (cap : Nat) (l : List Sl) (x m u v : Int) (w : World) (hz : Rows w w.heap.size A l) (hll : l.length ≤ 9223372036854775807) (hl : ∀ s ∈ l, s.zs.length ≤ 9223372036854775807) (hno : okBatch t (rws l) = false) :
    Calls Try.prog 10 #[.agg (btcells t (.slice A l.length cap)), .int .u8 x, .int .u8 m, .int .u8 u, .int .u8 v] w fun e w' => e = .returned (.bool true) ∧ Below w.heap.size w w' := by
  have hrd := fun W (hW : Below w.heap.size w W) => ready4_any t A cap l w.heap.size W hW.size (hz.below hW) hll hl
  rw [hno] at hrd
  have h0 := BoxW.start w (btcells t (.slice A l.length cap))
  have HRD := Lib.hid hrd
  have H0 := Lib.hid h0
  clear hrd hz hll hl hno h0
  unfold btcells at H0 HRD ⊢
  go_enter Try.func10, Try.ntmps10
  go_wp2_with (first
    | (go_at_call 14; refine (alive_any _).mono ?_; rintro e w2 ⟨rfl, hB2⟩
       have h2 := H0.out.next hB2
       have hc2 := fun i => cell_of_row w2 w.heap.size i _ _ _ h2.b0
       have H2 := Lib.hid h2; clear hB2 h2)
    | (go_at_call 36; refine (HRD.out w2 H2.out.bel).mono ?_; rintro e w3 ⟨rfl, hB3⟩; have H3 := Lib.hid (H2.out.next hB3); clear hB3))
  go_ret
  exact ⟨rfl, H3.out.bel⟩

set_option maxRecDepth 100000 in
set_option maxHeartbeats 16000000 in
theorem cureLater_main (t : Bt) (A : Option Addr) (cap : Nat) (l : List Sl) (x m : Nat) (u v : Int) (w : World) (hz : Rows w w.heap.size A l) (hok : okBatch t (rws l) = true) (x1 : x < 256) (m1 : m < 256) (u0 : 0 ≤ u) (u1 : u < 256) (v0 : 0 ≤ v) (v1 : v < 256) :
    Calls Try.prog 10 #[.agg (btcells t (.slice A l.length cap)), .int .u8 (x : Int), .int .u8 (m : Int), .int .u8 u, .int .u8 v] w fun e w' => e = .returned (.bool true) ∧ Below w.heap.size w w' := by
  have hsh := okBatch_shortL hok
  obtain ⟨hgd, g1, g2, g3, g4, g5, g6⟩ := okBatch_good hok
  have hrl : (rws l).length = l.length := by simp [rws]
  have hl1 : 1 ≤ l.length := by rw [← hrl]; exact g4
  have hl4 : l.length ≤ 4 := by have := hgd.n4; simpa [rws] using this
  have hrd := fun W (hW : Below w.heap.size w W) => ready4_any t A cap l w.heap.size W hW.size (hz.below hW) (by omega) (fun q hq => by have := hsh.2 q hq; omega)
  rw [hok] at hrd
  have hpu := pickL_bnd (n := u) g2
  have hpv := pickL_bnd (n := v) g2
  have hiu := fun W => pick_any t.lo t.hi u (by omega) g2 (by omega) u0 (by omega) W
  have hiv := fun W => pick_any t.lo t.hi v (by omega) g2 (by omega) v0 (by omega) W
  generalize pickL t.lo t.hi u = su at hpu hiu
  generalize pickL t.lo t.hi v = sv at hpv hiv
  obtain ⟨y, hy⟩ : ∃ y : Nat, min ((x : Int) + m) 300 = (y : Int) := ⟨(min ((x : Int) + m) 300).toNat, by omega⟩
  obtain ⟨a, ha⟩ : ∃ a, min su sv = a := ⟨_, rfl⟩
  obtain ⟨b, hb⟩ : ∃ b, max su sv = b := ⟨_, rfl⟩
  have hxy : x ≤ y := by omega
  have hab : t.lo ≤ a ∧ a ≤ b ∧ b ≤ t.hi := by omega
  have hokS : ∀ c d : Int, t.lo ≤ c → c ≤ d → d ≤ t.hi → okBatch (btS t c d) (rws l) = true := fun c d h1 h2 h3 => by
    simp only [okBatch, Bool.and_eq_true, okS_iff, btS] at hok ⊢
    exact ⟨⟨hok.1.1, ⟨h2, by omega, by omega, by omega, by omega⟩⟩, hok.2⟩
  have ht1 := fun W (hW : Below w.heap.size w W) => trV_of (cap := cap) hW.size (hz.below hW) hok (by omega : x ≤ 300)
  have ht2 := fun W (hW : Below w.heap.size w W) => trV_of (cap := cap) hW.size (hz.below hW) hok (by omega : y ≤ 300)
  have ht3 := fun W (hW : Below w.heap.size w W) => trV_of (cap := cap) hW.size (hz.below hW) (hokS a b hab.1 hab.2.1 hab.2.2) (by omega : x ≤ 300)
  have ht4 := fun W (hW : Below w.heap.size w W) => trV_of (cap := cap) hW.size (hz.below hW) (hokS a a hab.1 (Int.le_refl _) (by omega)) (by omega : x ≤ 300)
  unfold TrV at ht1 ht2 ht3 ht4
  have hcs := fun p (hp : p < l.length) => later_cases (t := t) (ws := rws l) (p := p) hxy hab.1 hab.2.1 hab.2.2 (by rw [hrl]; exact hp)
  have hl1' : (knownL t (rws l) x).length = l.length := by rw [knownL_len, hrl]
  have hl2' : (knownL t (rws l) y).length = l.length := by rw [knownL_len, hrl]
  have hl3' : (knownL (btS t a b) (rws l) x).length = l.length := by rw [knownL_len, hrl]
  have hl4' : (knownL (btS t a a) (rws l) x).length = l.length := by rw [knownL_len, hrl]
  generalize knownL t (rws l) x = L1 at ht1 hcs hl1'
  generalize knownL t (rws l) y = L2 at ht2 hcs hl2'
  generalize knownL (btS t a b) (rws l) x = L3 at ht3 hcs hl3'
  generalize knownL (btS t a a) (rws l) x = L4 at ht4 hcs hl4'
  have hx1 : IntKind.u32.wrap u = u := IntWalk.u32_in _ (by omega)
  have hx2 : IntKind.u32.wrap v = v := IntWalk.u32_in _ (by omega)
  have hx3 : IntKind.i64.wrap (x : Int) = x := IntWalk.i64_in _ (by omega)
  have hx4 : IntKind.i64.wrap (m : Int) = m := IntWalk.i64_in _ (by omega)
  have hx5 : IntKind.i64.wrap ((x : Int) + m) = (x : Int) + m := IntWalk.i64_in _ (by omega)
  have h0 := boxD w (btcells t (.slice A l.length cap)) 28
  have HF := Lib.hid (And.intro hrd (And.intro hiu (And.intro hiv (And.intro ht1 (And.intro ht2 (And.intro ht3 ht4))))))
  have HL := Lib.hid (And.intro hcs (And.intro hl1' (And.intro hl2' (And.intro hl3' hl4'))))
  have HZ := Lib.hid hz
  have H0 := Lib.hid h0
  have HY := Lib.hid (And.intro hy (And.intro ha hb))
  clear hrd hiu hiv ht1 ht2 ht3 ht4 hcs hl1' hl2' hl3' hl4' hz hok hsh hgd g1 g2 g3 g4 g5 g6 hrl hpu hpv hxy hab hokS h0 hy ha hb
  unfold btcells at H0 HF ⊢
  unfold btS at HF
  go_enter Try.func10, Try.ntmps10
  go_wp2_with (first
    | (go_at_call 14; refine (alive_any _).mono ?_; rintro e w2 ⟨rfl, hB2⟩
       have h2 := H0.out.any (D' := fun _ => false) (σ' := fun _ => undef) hB2
       have hc2 := fun i => cell_of_row w2 w.heap.size i _ _ _ h2.box
       have H2 := Lib.hid h2; clear hB2 h2)
    | (go_at_call 36; refine (HF.out.1 w2 H2.out.bel).mono ?_; rintro e w3 ⟨rfl, hB3⟩
       have h3 := H2.out.any (D' := fun _ => false) (σ' := fun _ => undef) hB3
       have H3 := Lib.hid h3; clear hB3 h3 hc2))
  refine R6.wp_walk (C := ResC w.heap.size w w.heap.size #[.int .i64 t.water, .int .i64 t.borax, .slice A l.length cap, .int .i64 t.lo, .int .i64 t.hi, .int .i64 t.need] 28 (fun _ _ => True) 99 999) 207 (by kernel_rfl) (by kernel_rfl) rfl
    (ResC.start H3.out.bel H3.out.lb H3.out.box rfl) ?_
  simp only []
  repeat (first
    | (refine' R6.WalkR.det (fun _ => rfl) (fun D ρ W hK hC => ?_) ?_
       rotate_left
       · have hcb := fun i => cell_of_row W w.heap.size i _ _ _ hC.box
         have HC := Lib.hid hC
         clear hC hK
         go_simp
         first
           | with_reducible exact ⟨rfl, HC.out.same⟩
           | (go_at_call 37; (with_reducible show Calls _ _ #[_, .int _ u] _ _); refine (HF.out.2.1 W).mono ?_; rintro e W1 ⟨rfl, hB1⟩; exact ⟨_, rfl, rfl, HC.out.any hB1⟩)
           | (go_at_call 37; refine (HF.out.2.2.1 W).mono ?_; rintro e W1 ⟨rfl, hB1⟩; exact ⟨_, rfl, rfl, HC.out.any hB1⟩)
       simp only [Act.put, List.setIfInBounds_toArray, List.set_cons_succ, List.set_cons_zero]))
  refine R6.WalkR.nil (fun D ρ w5 hD' hC => ?_)
  have h5 : ResC w.heap.size w w.heap.size #[.int .i64 t.water, .int .i64 t.borax, .slice A l.length cap, .int .i64 t.lo, .int .i64 t.hi, .int .i64 t.need] 28 (fun _ _ => True) 99 999 (fun _ => false) (fun _ => undef) w5 := hC.same
  have hc5 := fun i => cell_of_row w5 w.heap.size i _ _ _ h5.box
  have H5 := Lib.hid h5
  clear hC hD' h5
  rw [HY.out.1]
  go_wp2_with (first
    | (go_at_call 18; refine (HF.out.2.2.2.2.1 w6 H6.out.1.bel).mono ?_; rintro e w7 ⟨A7, c7, rfl, hV7, hB7⟩
       have h7 := H6.out.1.any (D' := fun _ => false) (σ' := fun _ => undef) hB7
       have H7 := Lib.hid (And.intro h7 (And.intro ((H6.out.2.below hB7).mono hB7.size) hV7))
       clear h7 hV7 hB7 hc6)
    | (go_at_call 18; refine (HF.out.2.2.2.1 w5 H5.out.bel).mono ?_; rintro e w6 ⟨A6, c6, rfl, hV6, hB6⟩
       have h6 := H5.out.any (D' := fun _ => false) (σ' := fun _ => undef) hB6
       have hc6 := fun i => cell_of_row w6 w.heap.size i _ _ _ h6.box
       have H6 := Lib.hid (And.intro h6 hV6)
       clear h6 hV6 hB6 hc5))
  refine R6.wp_walk (C := TwoC w7 (btl t (.slice A l.length cap)) (btl t (.slice A l.length cap))) 207 (by kernel_rfl) (by kernel_rfl) rfl ⟨(Below.refl _ _).drew, fun e => (by cases e), fun e => (by cases e), fun e => (by cases e)⟩ ?_
  simp only []
  repeat (first
    | (refine' R6.WalkR.det (fun _ => rfl) (fun D ρ W hK hC => ?_) ?_
       rotate_left
       · have hcb := fun i => cell_of_row W w.heap.size i _ _ _ ((hC.bel.block _ (lt_of_heap H7.out.1.box)).trans H7.out.1.box)
         have HC := Lib.hid hC
         clear hC hK
         go_simp
         first
           | with_reducible exact ⟨rfl, HC.out.move (by decide)⟩
           | fail
       simp only [Act.put, List.setIfInBounds_toArray, List.set_cons_succ, List.set_cons_zero]))
  refine' R6.WalkR.nd (fun _ => rfl) rfl (fun D ρ W hK hC => ?_) ?_
  · have h11 := hK.post 4 (by first | decide +kernel | (dsimp only; decide +kernel))
    have HC := Lib.hid hC
    clear hC hK
    go_simp
    exact HC.out.newA h11
  simp only [Act.put, List.setIfInBounds_toArray, List.set_cons_succ, List.set_cons_zero]
  refine' R6.WalkR.nd (fun _ => rfl) rfl (fun D ρ W hK hC => ?_) ?_
  · have h12 := hK.post 5 (by first | decide +kernel | (dsimp only; decide +kernel))
    have HC := Lib.hid hC
    clear hC hK
    go_simp
    exact HC.out.newB h12
  simp only [Act.put, List.setIfInBounds_toArray, List.set_cons_succ, List.set_cons_zero]
  refine' R6.WalkR.det (c := undef) (fun _ => rfl) (fun D ρ W hK hC => ?_) ?_
  · have h9 := hK.pre 2 (by first | decide +kernel | (dsimp only; decide +kernel))
    obtain ⟨ba, hv, hn, hm⟩ := hC.a h9
    have hm' : W.heap[ba]? = some (.cells zero6.toArray 28 (0, 0)) := by rw [hm, hK.me]; rfl
    refine gives_store_blk 28 (.tmp 20) (.tmp 70) rfl hv (cs := btl t (.slice A l.length cap)) rfl hm' (by simp [btl, zero6]) (btl_one _ _ _ _) rowApiBatch (fun W' hP hM => ⟨rfl, ?_⟩)
    rw [splice_whole (by simp [btl, zero6])] at hM
    show TwoC _ _ _ _ (R4.upd ρ none undef) _
    rw [upd_none]
    exact hC.putA h9 hv hP hM
  simp only [Act.put]
  refine' R6.WalkR.det (c := undef) (fun _ => rfl) (fun D ρ W hK hC => ?_) ?_
  · have h10 := hK.pre 3 (by first | decide +kernel | (dsimp only; decide +kernel))
    obtain ⟨ba, hv, hn, hm⟩ := hC.b h10
    have hm' : W.heap[ba]? = some (.cells zero6.toArray 28 (0, 0)) := by rw [hm, hK.me]; rfl
    refine gives_store_blk 28 (.tmp 21) (.tmp 71) rfl hv (cs := btl t (.slice A l.length cap)) rfl hm' (by simp [btl, zero6]) (btl_one _ _ _ _) rowApiBatch (fun W' hP hM => ⟨rfl, ?_⟩)
    rw [splice_whole (by simp [btl, zero6])] at hM
    show TwoC _ _ _ _ (R4.upd ρ none undef) _
    rw [upd_none]
    exact hC.putB h10 hv hP hM
  simp only [Act.put]
  refine R6.WalkR.nil (fun D ρ w8 hD hC => ?_)
  obtain ⟨ga, hva, hna, hma⟩ := hC.a (hD 2 (by decide))
  obtain ⟨gb, hvb, hnb, hmb⟩ := hC.b (hD 3 (by decide))
  have hne : ga ≠ gb := fun e => hC.ne (hD 2 (by decide)) (hD 3 (by decide)) (by rw [hva, hvb, e])
  rw [hD 4 (by decide)] at hma
  rw [hD 5 (by decide)] at hmb
  rw [hva, hvb]
  have h8 : ResC w.heap.size w w.heap.size #[.int .i64 t.water, .int .i64 t.borax, .slice A l.length cap, .int .i64 t.lo, .int .i64 t.hi, .int .i64 t.need] 28 (fun _ _ => True) 99 999 (fun _ => false) (fun _ => undef) w8 := H7.out.1.any hC.bel
  have H8 := Lib.hid (And.intro h8 (And.intro trivial (And.intro trivial (And.intro hma hmb))))
  have H8V := Lib.hid (And.intro (H7.out.2.1.below hC.bel) (H7.out.2.2.below hC.bel))
  have HNE := Lib.hid (And.intro hne (And.intro hna hnb))
  have hb78 := hC.bel
  have H78 := Lib.hid hb78.size
  clear hD hC hva hvb hma hmb hne hna hnb h8 hb78
  rw [HY.out.2.1, HY.out.2.2]
  go_wp2_with (first
    | (go_at_call 18; refine (HF.out.2.2.2.2.2.2 w13 H13.out.1.bel).mono ?_; rintro e w14 ⟨A14, c14, rfl, hV14, hB14⟩
       have h14 := H13.out.1.any (D' := fun _ => false) (σ' := fun _ => undef) hB14
       have hc14 := fun i => cell_of_row w14 w.heap.size i _ _ _ h14.box
       have H14 := Lib.hid (And.intro h14 (And.intro ((H13.out.2.1.below hB14).mono hB14.size) (And.intro ((H13.out.2.2.1.below hB14).mono hB14.size) (And.intro ((H13.out.2.2.2.1.below hB14).mono hB14.size) hV14))))
       clear h14 hV14 hB14 hc13)
    | (go_at_call 18; refine (HF.out.2.2.2.2.2.1 w12 H12.out.1.bel).mono ?_; rintro e w13 ⟨A13, c13, rfl, hV13, hB13⟩
       have h13 := H12.out.1.any (D' := fun _ => false) (σ' := fun _ => undef) hB13
       have hm13 := (hB13.block _ (lt_of_heap H12.out.2.2.2.2)).trans H12.out.2.2.2.2
       have hc13 := fun i => cell_of_row w13 gb i _ _ _ hm13
       unfold btl at hc13
       have H13 := Lib.hid (And.intro h13 (And.intro ((H12.out.2.1.below hB13).mono hB13.size) (And.intro ((H12.out.2.2.1.below hB13).mono hB13.size) (And.intro hV13 trivial))))
       clear h13 hV13 hB13 hm13 hc12)
    | (show wpList _ _ _ (Oper.mk none (Op.store _ (Operand.tmp 79) (Operand.tmp 77)) _ _ _ _ :: _) _ _
       refine wpList_store_blk 26 (.tmp 79) (.tmp 77) (cs := [.int .i64 a, .int .i64 a]) (L := btl t (.slice A l.length cap)) rfl rfl rfl rfl rfl H11.out.2.2.2.2 (by simp [btl]) (by intro q hq; simp at hq; subst hq; rfl) rowSpan ?_
       intro w12 hP12 hM12
       have hm12 : w12.heap[gb]? = some (.cells (btl (btS t a a) (.slice A l.length cap)).toArray 28 (0, 0)) := hM12
       have hbg : Below w7.heap.size w11 w12 := hP12.below HNE.out.2.2
       have hw7 : w7.heap.size ≤ w12.heap.size := by rw [hP12.size, hs11]; have := H78.out; omega
       have h12 : ResC w.heap.size w w.heap.size #[.int .i64 t.water, .int .i64 t.borax, .slice A l.length cap, .int .i64 t.lo, .int .i64 t.hi, .int .i64 t.need] 28 (fun _ _ => True) 99 999 (fun _ => false) (fun _ => undef) w12 := ⟨H11.out.1.bel.trans (below_low hbg H7.out.1.lb), by rw [hP12.size]; exact H11.out.1.lb, (hbg.block _ (lt_of_heap H7.out.1.box)).trans H11.out.1.box, fun _ => trivial⟩
       have hg12 := (hP12.other _ HNE.out.1).trans H11.out.2.2.2.1
       have hc12 := fun i => cell_of_row w12 ga i _ _ _ hg12
       unfold btl at hc12
       have H12 := Lib.hid (And.intro h12 (And.intro ((H11.out.2.1.below hbg).mono hw7) (And.intro ((H11.out.2.2.1.below hbg).mono hw7) (And.intro hg12 hm12))))
       clear hP12 hM12 hm12 h12 hg12 hbg hw7)
    | (show wpList _ _ _ (Oper.mk none (Op.store _ (Operand.tmp 78) (Operand.tmp 74)) _ _ _ _ :: _) _ _
       refine wpList_store_blk 26 (.tmp 78) (.tmp 74) (cs := [.int .i64 a, .int .i64 b]) (L := btl t (.slice A l.length cap)) rfl rfl rfl rfl rfl H10.out.2.2.2.1 (by simp [btl]) (by intro q hq; simp at hq; rcases hq with rfl | rfl <;> rfl) rowSpan ?_
       intro w11 hP11 hM11
       have hm11 : w11.heap[ga]? = some (.cells (btl (btS t a b) (.slice A l.length cap)).toArray 28 (0, 0)) := hM11
       have hbg : Below w7.heap.size w10 w11 := hP11.below HNE.out.2.1
       have h11 : ResC w.heap.size w w.heap.size #[.int .i64 t.water, .int .i64 t.borax, .slice A l.length cap, .int .i64 t.lo, .int .i64 t.hi, .int .i64 t.need] 28 (fun _ _ => True) 99 999 (fun _ => false) (fun _ => undef) w11 := ⟨H10.out.1.bel.trans (below_low hbg H7.out.1.lb), by rw [hP11.size]; exact H10.out.1.lb, (hbg.block _ (lt_of_heap H7.out.1.box)).trans H10.out.1.box, fun _ => trivial⟩
       have H11 := Lib.hid (And.intro h11 (And.intro (H10.out.2.1.below hbg) (And.intro (H10.out.2.2.1.below hbg) (And.intro hm11 ((hP11.other _ (Ne.symm HNE.out.1)).trans H10.out.2.2.2.2)))))
       have hs11 := hP11.size
       clear hP11 hM11 hm11 h11 hbg)
    | (go_at_call 21; refine (span4_any _ _ w9).mono ?_; rintro e w10 ⟨rfl, hB10⟩
       have h10 := H9.out.1.any (D' := fun _ => false) (σ' := fun _ => undef) hB10
       have H10 := Lib.hid (And.intro h10 (And.intro (H9.out.2.1.below (below_low hB10 (Nat.le_trans H78.out hs9))) (And.intro (H9.out.2.2.1.below (below_low hB10 (Nat.le_trans H78.out hs9))) (And.intro ((hB10.block _ (lt_of_heap H9.out.2.2.2.1)).trans H9.out.2.2.2.1) ((hB10.block _ (lt_of_heap H9.out.2.2.2.2)).trans H9.out.2.2.2.2)))))
       have hs10 := hB10.size
       clear h10 hB10)
    | (go_at_call 21; refine (span4_any _ _ w8).mono ?_; rintro e w9 ⟨rfl, hB9⟩
       have h9 := H8.out.1.any (D' := fun _ => false) (σ' := fun _ => undef) hB9
       have H9 := Lib.hid (And.intro h9 (And.intro (H8V.out.1.below (below_low hB9 H78.out)) (And.intro (H8V.out.2.below (below_low hB9 H78.out)) (And.intro ((hB9.block _ (lt_of_heap H8.out.2.2.2.1)).trans H8.out.2.2.2.1) ((hB9.block _ (lt_of_heap H8.out.2.2.2.2)).trans H8.out.2.2.2.2)))))
       have hs9 := hB9.size
       clear h9 hB9))
  obtain ⟨bw, ow, hAw, hbw, hcw⟩ := H14.out.2.1 (by rw [u8s_len, HL.out.2.1]; omega)
  obtain ⟨bl, ol, hAl, hbl, hcl⟩ := H14.out.2.2.1 (by rw [u8s_len, HL.out.2.2.1]; omega)
  obtain ⟨bf, of, hAf, hbf, hcf⟩ := H14.out.2.2.2.1 (by rw [u8s_len, HL.out.2.2.2.1]; omega)
  obtain ⟨bs', os, hAs, hbs, hcs'⟩ := H14.out.2.2.2.2 (by rw [u8s_len, HL.out.2.2.2.2]; omega)
  subst hAw hAl hAf hAs
  have HW := Lib.hid (And.intro hbw hcw)
  have HLT := Lib.hid (And.intro hbl hcl)
  have HFW := Lib.hid (And.intro hbf hcf)
  have HSG := Lib.hid (And.intro hbs hcs')
  clear hbw hcw hbl hcl hbf hcf hbs hcs' hc14
  go_loopg [134] l.length (fun gg s134 wx => ∃ k : Nat, k + gg = l.length ∧ s134 = .int .i64 k ∧ Hid (Grows w14 wx))
  case atStart => exact ⟨0, by omega, rfl, Below.refl _ _⟩
  case round =>
    obtain ⟨k, hkg, rfl, hG⟩ := hrel
    cases gk with
    | zero =>
      have hkn : ¬ (k : Int) < l.length := by omega
      go_wp2
      go_ret
      exact ⟨rfl, H14.out.1.bel.trans (hG.out.mono H14.out.1.lb)⟩
    | succ gg =>
      have hk : k < l.length := by omega
      have hkz : (k : Int) < l.length := by omega
      have hk0 : (0 : Int) ≤ k := by omega
      have xw := HW.out.2 k _ (u8s_get (by rw [HL.out.2.1]; exact hk))
      have xl := HLT.out.2 k _ (u8s_get (by rw [HL.out.2.2.1]; exact hk))
      have xf := HFW.out.2 k _ (u8s_get (by rw [HL.out.2.2.2.1]; exact hk))
      have xs := HSG.out.2 k _ (u8s_get (by rw [HL.out.2.2.2.2]; exact hk))
      have hcs := HL.out.1 k hk
      generalize L1[k]?.getD 0 = cw at xw hcs
      generalize L2[k]?.getD 0 = cl at xl hcs
      generalize L3[k]?.getD 0 = cf at xf hcs
      generalize L4[k]?.getD 0 = ca at xs hcs
      obtain ⟨hle, hcs⟩ := hcs
      have hd : decide (cl < cw) = false := decide_eq_false (by omega)
      have hca : ¬ ca = 1 := by omega
      have hca2 : (ca == 1) = false := by simpa using hca
      have hca3 : decide (ca = 1) = false := decide_eq_false hca
      have hw2 : decide (2 < cw) = false := decide_eq_false (by omega)
      have h3 : (¬ cw = 1 ∧ cf = cw ∧ ca = cw) ∨ (cw = 1 ∧ ¬ cf = 1 ∧ ca = cf) ∨ (cw = 1 ∧ cf = 1) := by omega
      have H3c := Lib.hid h3
      have HX := Lib.hid (And.intro xw (And.intro xl (And.intro xf xs)))
      clear hle hcs h3 xw xl xf xs
      go_wp2
      refine R6.wp_walk (C := RdC wr) 207 (by kernel_rfl) (by kernel_rfl) rfl ⟨(Below.refl _ _).drew, rfl⟩ ?_
      simp only []
      repeat (first
        | (refine' R6.WalkR.det (fun _ => rfl) (fun D ρ W hK hC => ?_) ?_
           rotate_left
           · have hgw := hG.out.trans (hC.bel.mono hG.out.size)
             have y1 := (hgw.cell (p := ⟨bw, ow + k, none⟩) HW.out.1).trans HX.out.1
             have y2 := (hgw.cell (p := ⟨bl, ol + k, none⟩) HLT.out.1).trans HX.out.2.1
             have y4 := (hgw.cell (p := ⟨bs', os + k, none⟩) HSG.out.1).trans HX.out.2.2.2
             clear hgw
             have HC := Lib.hid hC
             clear hC hK
             go_simp
             first
               | with_reducible exact ⟨rfl, HC.out.move⟩
               | fail
           simp only [Act.put, List.setIfInBounds_toArray, List.set_cons_succ, List.set_cons_zero]))
      refine R6.WalkR.nil (fun D ρ w15 hD' hC => ?_)
      have HG := Lib.hid (hG.out.trans (hC.bel.mono hG.out.size))
      clear hC hD' hd hca hca2 hca3 hw2
      obtain ⟨xw, xl, xf, xs⟩ := HX.out
      have h3 := H3c.out
      clear HX H3c
      go_wp2
      rcases h3 with ⟨e1, rfl, rfl⟩ | ⟨rfl, e1, rfl⟩ | ⟨rfl, rfl⟩
      · have e2 : (ca == 1) = false := by simpa using e1
        have e4 : (ca != 1) = true := by simpa using e1
        have HX := Lib.hid (And.intro xw (And.intro xl (And.intro xf xs)))
        clear xw xl xf xs
        refine R6.wp_walk (C := RdC w15) 207 (by kernel_rfl) (by kernel_rfl) rfl ⟨(Below.refl _ _).drew, rfl⟩ ?_
        simp only []
        repeat (first
          | (refine R6.WalkR.un (fun _ => rfl) (fun D ρ W hK hC => hC.move) ?_
             simp only [Act.put, List.setIfInBounds_toArray, List.set_cons_succ, List.set_cons_zero])
          | (refine' R6.WalkR.det (fun _ => rfl) (fun D ρ W hK hC => ?_) ?_
             rotate_left
             · have hgw := HG.out.trans (hC.bel.mono HG.out.size)
               have y1 := (hgw.cell (p := ⟨bw, ow + k, none⟩) HW.out.1).trans HX.out.1
               have y3 := (hgw.cell (p := ⟨bf, of + k, none⟩) HFW.out.1).trans HX.out.2.2.1
               have y4 := (hgw.cell (p := ⟨bs', os + k, none⟩) HSG.out.1).trans HX.out.2.2.2
               clear hgw
               have HC := Lib.hid hC
               clear hC hK
               go_simp
               first
                 | with_reducible exact ⟨rfl, HC.out.move⟩
                 | fail
             simp only [Act.put, List.setIfInBounds_toArray, List.set_cons_succ, List.set_cons_zero]))
        refine R6.WalkR.nil (fun D ρ w16 hD' hC => ?_)
        have HG2 := Lib.hid (HG.out.trans (hC.bel.mono HG.out.size))
        clear hC hD'
        go_wp2
        go_roundg gg
        case measure => omega
        case rel => exact ⟨k + 1, by omega, by go_num, HG2.out⟩
      · have e2 : (ca == 1) = false := by simpa using e1
        have e4 : (ca != 1) = true := by simpa using e1
        have HX := Lib.hid (And.intro xw (And.intro xl (And.intro xf xs)))
        clear xw xl xf xs
        refine R6.wp_walk (C := RdC w15) 207 (by kernel_rfl) (by kernel_rfl) rfl ⟨(Below.refl _ _).drew, rfl⟩ ?_
        simp only []
        repeat (first
          | (refine R6.WalkR.un (fun _ => rfl) (fun D ρ W hK hC => hC.move) ?_
             simp only [Act.put, List.setIfInBounds_toArray, List.set_cons_succ, List.set_cons_zero])
          | (refine' R6.WalkR.det (fun _ => rfl) (fun D ρ W hK hC => ?_) ?_
             rotate_left
             · have hgw := HG.out.trans (hC.bel.mono HG.out.size)
               have y1 := (hgw.cell (p := ⟨bw, ow + k, none⟩) HW.out.1).trans HX.out.1
               have y3 := (hgw.cell (p := ⟨bf, of + k, none⟩) HFW.out.1).trans HX.out.2.2.1
               have y4 := (hgw.cell (p := ⟨bs', os + k, none⟩) HSG.out.1).trans HX.out.2.2.2
               clear hgw
               have HC := Lib.hid hC
               clear hC hK
               go_simp
               first
                 | with_reducible exact ⟨rfl, HC.out.move⟩
                 | fail
             simp only [Act.put, List.setIfInBounds_toArray, List.set_cons_succ, List.set_cons_zero]))
        refine R6.WalkR.nil (fun D ρ w16 hD' hC => ?_)
        have HG2 := Lib.hid (HG.out.trans (hC.bel.mono HG.out.size))
        clear hC hD'
        go_wp2
        go_roundg gg
        case measure => omega
        case rel => exact ⟨k + 1, by omega, by go_num, HG2.out⟩
      · have HX := Lib.hid (And.intro xw (And.intro xl (And.intro xf xs)))
        clear xw xl xf xs
        refine R6.wp_walk (C := RdC w15) 207 (by kernel_rfl) (by kernel_rfl) rfl ⟨(Below.refl _ _).drew, rfl⟩ ?_
        simp only []
        repeat (first
          | (refine R6.WalkR.un (fun _ => rfl) (fun D ρ W hK hC => hC.move) ?_
             simp only [Act.put, List.setIfInBounds_toArray, List.set_cons_succ, List.set_cons_zero])
          | (refine' R6.WalkR.det (fun _ => rfl) (fun D ρ W hK hC => ?_) ?_
             rotate_left
             · have hgw := HG.out.trans (hC.bel.mono HG.out.size)
               have y1 := (hgw.cell (p := ⟨bw, ow + k, none⟩) HW.out.1).trans HX.out.1
               have y3 := (hgw.cell (p := ⟨bf, of + k, none⟩) HFW.out.1).trans HX.out.2.2.1
               have y4 := (hgw.cell (p := ⟨bs', os + k, none⟩) HSG.out.1).trans HX.out.2.2.2
               clear hgw
               have HC := Lib.hid hC
               clear hC hK
               go_simp
               first
                 | with_reducible exact ⟨rfl, HC.out.move⟩
                 | fail
             simp only [Act.put, List.setIfInBounds_toArray, List.set_cons_succ, List.set_cons_zero]))
        refine R6.WalkR.nil (fun D ρ w16 hD' hC => ?_)
        have HG2 := Lib.hid (HG.out.trans (hC.bel.mono HG.out.size))
        clear hC hD'
        go_wp2
        go_roundg gg
        case measure => omega
        case rel => exact ⟨k + 1, by omega, by go_num, HG2.out⟩

theorem cureLater_law (t : Bt) (A : Option Addr) (cap : Nat) (l : List Sl) (x m u v : Int) (w : World) (hz : Rows w w.heap.size A l) (hll : l.length ≤ 9223372036854775807) (hl : ∀ s ∈ l, s.zs.length ≤ 9223372036854775807) (x0 : 0 ≤ x) (x1 : x < 256) (m0 : 0 ≤ m) (m1 : m < 256) (u0 : 0 ≤ u) (u1 : u < 256) (v0 : 0 ≤ v) (v1 : v < 256) :
    Calls Try.prog 10 #[.agg (btcells t (.slice A l.length cap)), .int .u8 x, .int .u8 m, .int .u8 u, .int .u8 v] w fun e w' => e = .returned (.bool true) ∧ Below w.heap.size w w' := by
  cases hb : okBatch t (rws l) with
  | false => exact cureLater_no t A cap l x m u v w hz hll hl hb
  | true =>
    obtain ⟨x', rfl⟩ : ∃ n : Nat, x = (n : Int) := ⟨x.toNat, by omega⟩
    obtain ⟨m', rfl⟩ : ∃ n : Nat, m = (n : Int) := ⟨m.toNat, by omega⟩
    exact cureLater_main t A cap l x' m' u v w hz hb (by omega) (by omega) u0 u1 v0 v1

end Go.Proofs.Ytfampdiompjmeaa
