/-
  The program's years are the reference's; Check.
-/
import Derived.Test.YtanjolmelbipoaaDoorYD
import Derived.Test.YtanjolmelbipoaaDoorYH
namespace Go.Proofs.YtanjolmelbipoaaDoor

def pad7 (l : List Int) : List Int := l ++ List.replicate (7 - l.length) 0

theorem start7_pad (g : Gr) : start7 g = pad7 g.start := rfl
theorem pad7_len {l : List Int} (h : l.length ≤ 7) : (pad7 l).length = 7 := by simp [pad7]; omega
theorem pad7_at {l : List Int} {i : Nat} (hi : i < l.length) : (pad7 l)[i]?.getD 0 = l[i]?.getD 0 := by
  simp [pad7, List.getElem?_append_left hi]
theorem pad7_set {l : List Int} {i : Nat} (hi : i < l.length) (x : Int) : (pad7 l).set i x = pad7 (l.set i x) := by
  simp [pad7, hi]
theorem pad7_drop {l : List Int} {r : Nat} (hr : r ≤ l.length) : ((pad7 l).drop r).sum = (l.drop r).sum := by
  unfold pad7
  rw [List.drop_append_of_le_length hr, List.sum_append]
  simp

theorem pad7_cut {m : List Int} {n : Int} {hi : Nat} (hh : hi < m.length) (h7 : m.length ≤ 7) : ∀ k, k ≤ hi + 1 →
    (cutTo (pad7 m) n hi k).1 = pad7 (cutTo m n hi k).1 ∧ (cutTo (pad7 m) n hi k).2.1 = pad7 (cutTo m n hi k).2.1 ∧ (cutTo (pad7 m) n hi k).2.2 = (cutTo m n hi k).2.2 := by
  intro k
  induction k with
  | zero =>
    intro _
    refine ⟨rfl, ?_, rfl⟩
    simp only [cutTo, pad7_len h7]
    simp only [pad7, List.length_replicate, List.replicate_append_replicate]
    congr 1
    omega
  | succ k ih =>
    intro hk
    obtain ⟨h1, h2, h3⟩ := ih (by omega)
    have hl := cutTo_len m n hi k
    have e : (pad7 (cutTo m n hi k).1)[hi - k]?.getD 0 = (cutTo m n hi k).1[hi - k]?.getD 0 := pad7_at (by rw [hl.1]; omega)
    simp only [cutTo]
    rw [h1, h2, h3, e]
    exact ⟨pad7_set (by rw [hl.1]; omega) _, pad7_set (by rw [hl.2]; omega) _, rfl⟩

theorem cutTo_low {c : List Int} {n : Int} {hi : Nat} : ∀ k, k ≤ hi + 1 → ∀ i, i + k ≤ hi → (cutTo c n hi k).1[i]? = c[i]? ∧ (cutTo c n hi k).2.1[i]? = (List.replicate c.length (0 : Int))[i]? := by
  intro k
  induction k with
  | zero => intro _ i _; exact ⟨rfl, rfl⟩
  | succ k ih =>
    intro hk i hik
    have := ih (by omega) i (by omega)
    simp only [cutTo]
    rw [List.getElem?_set_ne (by omega), List.getElem?_set_ne (by omega)]
    exact this

theorem drop_sum_succ {c : List Int} {i : Nat} (hi : i < c.length) : (c.drop i).sum = c[i]?.getD 0 + (c.drop (i + 1)).sum := by
  rw [List.drop_eq_getElem_cons hi, List.sum_cons]
  simp [hi]

theorem cutTo_rest {c : List Int} {n : Int} {M : Int} (hb : Bnd 0 M c) (hn : 0 ≤ n) : ∀ k, k ≤ c.length → (cutTo c n (c.length - 1) k).2.2 = max 0 (n - (c.drop (c.length - k)).sum) := by
  intro k
  induction k with
  | zero => intro _; simp [cutTo]; omega
  | succ k ih =>
    intro hk
    have h := ih (by omega)
    have hlow := (cutTo_low (c := c) (n := n) (hi := c.length - 1) k (by omega) (c.length - 1 - k) (by omega)).1
    have hx := hb (c.length - 1 - k) (by omega)
    have hs := drop_sum_succ (c := c) (i := c.length - 1 - k) (by omega)
    simp only [cutTo]
    rw [h, hlow, show c.length - (k + 1) = c.length - 1 - k by omega, hs, show c.length - 1 - k + 1 = c.length - k by omega]
    generalize c[c.length - 1 - k]?.getD 0 = x at hx ⊢
    generalize (c.drop (c.length - k)).sum = S
    omega

/-- No more are cut than are ripe: then nothing that isn't ripe is cut. -/
theorem cutTo_same {c : List Int} {n : Int} {M : Int} (hb : Bnd 0 M c) (_ : M ≤ 1000000) (hn : 0 ≤ n) (_ : n ≤ M) {r : Nat} (hr : r < c.length) (hle : n ≤ (c.drop r).sum) : ∀ j, j ≤ r →
    cutTo c n (c.length - 1) (c.length - r + j) = cutTo c n (c.length - 1) (c.length - r) := by
  intro j
  induction j with
  | zero => intro _; rfl
  | succ j ih =>
    intro hj
    have h := ih (by omega)
    have hrest := cutTo_rest hb hn (c.length - r) (by omega)
    rw [show c.length - (c.length - r) = r by omega] at hrest
    have h0 : (cutTo c n (c.length - 1) (c.length - r)).2.2 = 0 := by rw [hrest]; omega
    have hlow := cutTo_low (c := c) (n := n) (hi := c.length - 1) (c.length - r + j) (by omega) (c.length - 1 - (c.length - r + j)) (by omega)
    have hx := hb (c.length - 1 - (c.length - r + j)) (by omega)
    have hi : c.length - 1 - (c.length - r + j) < c.length := by omega
    rw [h] at hlow
    rw [show c.length - r + (j + 1) = (c.length - r + j) + 1 by omega]
    simp only [cutTo]
    rw [h, h0, hlow.1]
    generalize c.length - 1 - (c.length - r + j) = i at hlow hx hi ⊢
    rw [show min 0 (c[i]?.getD 0) = 0 by omega]
    have hl := cutTo_len c n (c.length - 1) (c.length - r)
    generalize cutTo c n (c.length - 1) (c.length - r) = q at hlow h0 hl ⊢
    obtain ⟨a, b, m⟩ := q
    simp only at hlow h0 hl ⊢
    subst h0
    have ea : a.set i (c[i]?.getD 0 - 0) = a := by
      apply List.ext_getElem?
      intro q
      by_cases hq : i = q
      · subst hq
        rw [List.getElem?_set_self (by rw [hl.1]; exact hi), hlow.1]
        simp [hi]
      · rw [List.getElem?_set_ne hq]
    have eb : b.set i 0 = b := by
      apply List.ext_getElem?
      intro q
      by_cases hq : i = q
      · subst hq
        rw [List.getElem?_set_self (by rw [hl.2]; exact hi), hlow.2]
        simp [hi]
      · rw [List.getElem?_set_ne hq]
    rw [ea, eb]
    rfl

/-- What is asked of a year. -/
structure YearFine (d r : Nat) (l : List Int) (p : Int × Int) : Prop where
  len : l.length = d + 1
  d6 : d ≤ 6
  r1 : 1 ≤ r
  rd : r ≤ d
  bnd : Bnd 0 30 l
  s : 0 ≤ p.1 ∧ p.1 ≤ 30
  n : 0 ≤ p.2 ∧ p.2 ≤ 30

theorem laterP_pad {d r : Nat} {l : List Int} {p : Int × Int} (h : YearFine d r l p) : laterP d (pad7 l) p.1 = pad7 (nowL l p.1) := by
  have e : nowL l p.1 = p.1 :: l.take d := by
    unfold nowL ageL
    rw [h.len]
    simp
  rw [e]
  have hl := h.len
  have hd := h.d6
  simp only [laterP, pad7, List.length_cons, List.length_take, List.cons_append]
  rw [List.take_append_of_le_length (by omega)]
  congr 3
  omega

theorem ripeP_pad {d r : Nat} {l : List Int} {p : Int × Int} (h : YearFine d r l p) : ripeP d r (pad7 l) p = ((nowL l p.1).drop r).sum := by
  unfold ripeP
  rw [laterP_pad h, pad7_drop (by rw [nowL_len, h.len]; have := h.rd; omega)]

theorem stepP_pad {d r : Nat} {l : List Int} {p : Int × Int} (h : YearFine d r l p) (hok : yearOk r l p.1 p.2 = true) :
    stepP d r (pad7 l) p = pad7 (yearL l p.1 p.2) ∧ goneP d r (pad7 l) p = pad7 (goneL l p.1 p.2) := by
  have hl := nowL_len l p.1
  have hb := nowL_bnd h.bnd h.s.1 h.s.2
  have h0 := h.len
  have hd := h.d6
  have hrd := h.rd
  have hr1 := h.r1
  simp only [yearOk, decide_eq_true_eq] at hok
  have hc := pad7_cut (m := nowL l p.1) (n := p.2) (hi := d) (by omega) (by omega) (d - r + 1) (by omega)
  have hs := cutTo_same hb (by omega) h.n.1 h.n.2 (r := r) (by omega) hok r (Nat.le_refl _)
  rw [hl, h0, show d + 1 - r + r = d + 1 by omega, show d + 1 - r = d - r + 1 by omega, show d + 1 - 1 = d by omega] at hs
  unfold stepP goneP yearL goneL
  rw [laterP_pad h, h0, show d + 1 - 1 = d by omega, hs]
  exact ⟨hc.1, hc.2.1⟩

end Go.Proofs.YtanjolmelbipoaaDoor

namespace Go.Proofs.YtanjolmelbipoaaDoor

def cutsAll (d r : Nat) : List Int → List (Int × Int) → Bool
  | _, [] => true
  | c, p :: ss => decide (p.2 ≤ ripeP d r c p) && cutsAll d r (stepP d r c p) ss

theorem cutsAll_iff {d r : Nat} : ∀ {ss : List (Int × Int)} {c : List Int}, cutsAll d r c ss = true ↔ ∀ k, k < ss.length → (ss[k]?.getD (0, 0)).2 ≤ ripeP d r (stateP d r c ss k) (ss[k]?.getD (0, 0)) := by
  intro ss
  induction ss with
  | nil => intro c; simp [cutsAll]
  | cons p ss ih =>
    intro c
    simp only [cutsAll, Bool.and_eq_true, decide_eq_true_eq, ih]
    constructor
    · rintro ⟨h0, h1⟩ k hk
      cases k with
      | zero => simpa [stateP] using h0
      | succ k => have := h1 k (by simpa using hk); simpa [stateP] using this
    · intro h
      refine ⟨by have := h 0 (by simp); simpa [stateP] using this, fun k hk => ?_⟩
      have := h (k + 1) (by simpa using hk)
      simpa [stateP] using this

theorem cutsP_eq (g : Gr) (d r : Nat) : cutsP g d r = cutsAll d r (start7 g) g.seas := by
  rw [Bool.eq_iff_iff, cutsAll_iff]
  unfold cutsP
  simp only [cutK, ripeK]
  exact decide_eq_true_iff

theorem seasOk_link {d r : Nat} (d6 : d ≤ 6) (r1 : 1 ≤ r) (rd : r ≤ d) : ∀ (ss : List (Int × Int)) (l : List Int), l.length = d + 1 → Bnd 0 30 l → seasOk r l ss = (seasR ss && cutsAll d r (pad7 l) ss) := by
  intro ss
  induction ss with
  | nil => intro l _ _; rfl
  | cons p ss ih =>
    intro l hl hb
    have eR : seasR (p :: ss) = (inR p.1 0 30 && inR p.2 0 30 && seasR ss) := by simp [seasR]
    rw [eR]
    simp only [seasOk, cutsAll]
    rcases Bool.eq_false_or_eq_true (inR p.1 0 30) with h1 | h1
    · rcases Bool.eq_false_or_eq_true (inR p.2 0 30) with h2 | h2
      · have hf : YearFine d r l p := ⟨hl, d6, r1, rd, hb, inR_iff.1 h1, inR_iff.1 h2⟩
        have er := ripeP_pad hf
        rw [h1, h2]
        rcases Bool.eq_false_or_eq_true (yearOk r l p.1 p.2) with hy | hy
        · have hst := stepP_pad hf hy
          rw [ih (yearL l p.1 p.2) (by rw [yearL_len, hl]) (yearL_bnd hb (by omega) hf.s.1 hf.s.2 hf.n.1 hf.n.2), hst.1, hy]
          have : decide (p.2 ≤ ripeP d r (pad7 l) p) = true := by rw [er]; exact hy
          rw [this]
          simp
        · have : decide (p.2 ≤ ripeP d r (pad7 l) p) = false := by rw [er]; exact hy
          rw [hy, this]
          simp
      · rw [h2]; simp
    · rw [h1]; simp

/-- A grove within its bounds. -/
theorem fine_of {g : Gr} (h : (okPre g && okStart g && seasR g.seas) = true) : ∃ d r, Fine g d r ∧ g.hab.ripe.toNat = r := by
  simp only [Bool.and_eq_true] at h
  obtain ⟨⟨h1, h2⟩, h3⟩ := h
  obtain ⟨d, r, P⟩ := okPre_pre h1
  exact ⟨d, r, ⟨P.hd, P.hr, P.r1, P.rd, P.d6, P.ls, okStart_at h2, h3, P.l60, P.f0, P.f1⟩, by rw [P.hr, Int.toNat_natCast]⟩

theorem start_bnd30 {l : List Int} (h : Bnd 0 9 l) : Bnd 0 30 l := fun k hk => by have := h k hk; omega

theorem okGrove_link {g : Gr} {d r : Nat} (hf : Fine g d r) (h : (okPre g && okStart g && seasR g.seas) = true) : okGrove g = cutsP g d r := by
  rw [cutsP_eq, start7_pad]
  have hl := seasOk_link hf.d6 hf.r1 hf.rd g.seas g.start hf.st (start_bnd30 hf.sb)
  simp only [Bool.and_eq_true] at h
  unfold okGrove
  rw [hf.hr, Int.toNat_natCast, hl, h.1.1, h.1.2, h.2]
  simp

theorem okGrove_not {g : Gr} (h : (okPre g && okStart g && seasR g.seas) = false) : okGrove g = false := by
  cases h1 : okPre g with
  | false => simp [okGrove, h1]
  | true =>
    cases h2 : okStart g with
    | false => simp [okGrove, h2]
    | true =>
      obtain ⟨d, r, P⟩ := okPre_pre h1
      have h3 : seasR g.seas = false := by rw [h1, h2] at h; simpa using h
      have hl := seasOk_link P.d6 P.r1 P.rd g.seas g.start P.ls (start_bnd30 (okStart_at h2))
      unfold okGrove
      rw [P.hr, Int.toNat_natCast, hl, h3]
      simp

theorem Runs.fine {g : Gr} {d r : Nat} (R : Runs g d r) : Fine g d r := by
  refine ⟨R.pre.hd, R.pre.hr, R.pre.r1, R.pre.rd, R.pre.d6, R.pre.ls, R.b9, seasR_all fun k hk => ?_, R.pre.l60, R.pre.f0, R.pre.f1⟩
  have := R.yr k hk
  simp [allIn, inR]
  omega

theorem state_link {g : Gr} {d r : Nat} (R : Runs g d r) : ∀ k, k ≤ g.seas.length → stateP d r (start7 g) g.seas k = pad7 (runL g.start (g.seas.take k)) ∧ goneK g d r k = pad7 (goneAt g k) := by
  have year : ∀ k, k < g.seas.length → YearFine d r (runL g.start (g.seas.take k)) (g.seas[k]?.getD (0, 0)) := fun k hk => by
    have := R.yr k hk
    exact ⟨by rw [runL_len, R.pre.ls], R.pre.d6, R.pre.r1, R.pre.rd, R.bnd k (by omega), this.1, this.2.1⟩
  have st : ∀ k, k ≤ g.seas.length → stateP d r (start7 g) g.seas k = pad7 (runL g.start (g.seas.take k)) := by
    intro k
    induction k with
    | zero => intro _; simp [stateP, runL, start7_pad]
    | succ k ih =>
      intro hk
      rw [stateP_succ (by omega), ih (by omega), runL_succ _ _ _ (by omega)]
      exact (stepP_pad (year k (by omega)) (R.yr k (by omega)).2.2).1
  intro k hk
  refine ⟨st k hk, ?_⟩
  cases k with
  | zero =>
    have h1 := R.pre.ls
    have h2 := R.pre.d6
    simp only [goneK, goneAt, pad7, List.length_replicate, List.replicate_append_replicate]
    rw [show g.start.length + (7 - g.start.length) = 7 by omega]
    rfl
  | succ k =>
    simp only [goneK, goneAt]
    rw [st k (by omega)]
    exact (stepP_pad (year k (by omega)) (R.yr k (by omega)).2.2).2

end Go.Proofs.YtanjolmelbipoaaDoor

namespace Go.Proofs.YtanjolmelbipoaaDoor
open Go.RowKit

set_option maxHeartbeats 1000000 in
theorem check_any (g : Gr) (A1 : Option Addr) (c1 : Nat) (A2 : Option Addr) (c2 : Nat) (B : Nat) (w : World) (hB : B ≤ w.heap.size) (hG : GrAt w B g A1 c1 A2 c2) :
    Calls Tryd.prog 14 #[grv g A1 c1 A2 c2] w fun e w' => e = .returned (.int .i64 (errG g)) ∧ Below w.heap.size w w' := by
  obtain ⟨W0, hW0⟩ : ∃ W0, w.alloc (.cells (gcs g A1 c1 A2 c2) 34) = W0 := ⟨_, rfl⟩
  have hb0 : Below w.heap.size w W0 := by rw [← hW0]; exact (Below.refl _ _).alloc (Nat.le_refl _) _
  have hs0 : W0.heap.size = w.heap.size + 1 := by rw [← hW0]; simp
  have hG0 := hG.below (hb0.mono hB)
  have h1 := validBounds_any g A1 c1 A2 c2 B W0 (by omega) hG0
  have hbox := box_cells (A := .cells (gcs g A1 c1 A2 c2) 34) (w := w) rfl (w' := W0) (by rw [hW0]; exact Below.refl _ _)
  have H1 := Lib.hid h1
  have HG := Lib.hid hG0
  have Hb := Lib.hid hb0
  clear h1 hG hG0 hb0
  rcases Bool.eq_false_or_eq_true (okPre g && okStart g && seasR g.seas) with hv | hv
  · obtain ⟨d, r, hf, -⟩ := fine_of hv
    have hl := okGrove_link hf hv
    rw [hv] at H1
    unfold errG
    rw [hl]
    have HF := Lib.hid hf
    clear hf hv hl
    rcases Bool.eq_false_or_eq_true (cutsP g d r) with hc | hc
    all_goals
      have hc' := Lib.hid hc
      rw [hc]
      clear hc
      unfold grv
      go_enter Tryd.func14, Tryd.ntmps14
      go_wp2_with (first
        | (go_at_call 25
           try rw [show w.alloc (.cells #[.int .i64 g.id, .int .i64 g.hab.lo, .int .i64 g.hab.hi, .int .i64 g.hab.bears, .int .i64 g.hab.ripe, .int .i64 g.hab.dies, .int .i64 g.hab.keep, .int .i64 g.first, .slice A1 g.start.length c1, .slice A2 g.seas.length c2] 34) = W0 from hW0]
           refine H1.out.mono ?_
           rintro e w1 ⟨rfl, hB1⟩
           have hbox1 : ∀ i, w1.cell? ⟨w.heap.size, i, none⟩ = _ := fun i => (hB1.cell (p := ⟨w.heap.size, i, none⟩) (by simp; omega)).trans (hbox i)
           have HB1 := Lib.hid hB1
           clear hB1)
        | (go_at_call 26
           refine (validCuts_any g A1 c1 A2 c2 d r HF.out B _ (by have := HB1.out.size; omega) (HG.out.below (HB1.out.mono (by omega)))).mono ?_
           rintro e w2 ⟨rfl, hB2⟩
           rw [hc'.out]
           have HB2 := Lib.hid hB2
           clear hB2))
      go_ret
      exact ⟨rfl, (Hb.out.trans (HB1.out.mono (by omega))).trans (HB2.out.mono (by have := HB1.out.size; omega))⟩
  · have hl := okGrove_not hv
    rw [hv] at H1
    unfold errG
    rw [hl]
    clear hl hv
    unfold grv
    go_enter Tryd.func14, Tryd.ntmps14
    go_wp2_with
      (go_at_call 25
       try rw [show w.alloc (.cells #[.int .i64 g.id, .int .i64 g.hab.lo, .int .i64 g.hab.hi, .int .i64 g.hab.bears, .int .i64 g.hab.ripe, .int .i64 g.hab.dies, .int .i64 g.hab.keep, .int .i64 g.first, .slice A1 g.start.length c1, .slice A2 g.seas.length c2] 34) = W0 from hW0]
       refine H1.out.mono ?_
       rintro e w1 ⟨rfl, hB1⟩
       have HB1 := Lib.hid hB1
       clear hB1)
    go_ret
    exact ⟨rfl, Hb.out.trans (HB1.out.mono (by omega))⟩

end Go.Proofs.YtanjolmelbipoaaDoor

namespace Go.Proofs.YtanjolmelbipoaaDoor
open Go.RowKit Go.Shelf

attribute [local go_sem] Oper.semAt_some

def recR (g : Gr) (y : Int) : Value := if okGrove g = true ∧ hasY g y = true then recK g g.hab.dies.toNat g.hab.ripe.toNat (y - g.first).toNat else recV (0, 0) 0 zero7 zero7

/-- The four blocks of a call of recordOf: the grove, the year, the record, the error. -/
structure Four (w : World) (c : Nat) (y : Int) (rc : Array Value) (er : Int) : Prop where
  y : w.heap[c + 1]? = some (.cells #[.int .i64 y] 3 (0, 0))
  r : w.heap[c + 1 + 1]? = some (.cells rc 60 (0, 0))
  e : w.heap[c + 1 + 1 + 1]? = some (.cells #[.int .i64 er] 23 (0, 0))
theorem Four.below {w w' : World} {c : Nat} {y : Int} {rc : Array Value} {er : Int} {B : Nat} (h : Four w c y rc er) (hb : Below B w w') (hB : c + 4 ≤ B) : Four w' c y rc er :=
  ⟨(hb.block _ (by omega)).trans h.y, (hb.block _ (by omega)).trans h.r, (hb.block _ (by omega)).trans h.e⟩

theorem four_new (w : World) (G : Obj) (y : Int) (rc : Array Value) : Four ((((w.alloc G).alloc (.cells #[.int .i64 y] 3)).alloc (.cells rc 60)).alloc (.cells #[.int .i64 0] 23)) w.heap.size y rc 0 :=
  ⟨(Below.heap_alloc _ _ _ (by simp <;> omega)).trans (alloc3_at1 w _ _ _), (Below.heap_alloc _ _ _ (by simp)).trans (alloc3_at2 w _ _ _), by have := alloc_at0 (((w.alloc G).alloc (.cells #[.int .i64 y] 3)).alloc (.cells rc 60)) (.cells #[.int .i64 0] 23); simpa using this⟩
theorem below4 (w : World) (G Y R E : Obj) : Below w.heap.size w ((((w.alloc G).alloc Y).alloc R).alloc E) :=
  ((((Below.refl _ _).alloc (Nat.le_refl _) _).alloc (by simp) _).alloc (by simp; omega) _).alloc (by simp; omega) _

abbrev zero17 : Array Value := #[.int .i64 0, .int .i64 0, .int .i64 0, .int .i64 0, .int .i64 0, .int .i64 0, .int .i64 0, .int .i64 0, .int .i64 0, .int .i64 0, .int .i64 0, .int .i64 0, .int .i64 0, .int .i64 0, .int .i64 0, .int .i64 0, .int .i64 0]

set_option maxHeartbeats 4000000 in
theorem recordOf_bad (g : Gr) (y : Int) (A1 : Option Addr) (c1 : Nat) (A2 : Option Addr) (c2 : Nat) (B : Nat) (w : World) (hB : B ≤ w.heap.size) (hG : GrAt w B g A1 c1 A2 c2) (hno : okGrove g = false) :
    Calls Tryd.prog 17 #[grv g A1 c1 A2 c2, .int .i64 y] w fun e w' => e = .returned (.tuple #[recR g y, .int .i64 (standErr g y)]) ∧ Below w.heap.size w w' := by
  have e1 : recR g y = .agg #[.int .i64 0, .int .i64 0, .int .i64 0, .int .i64 0, .int .i64 0, .int .i64 0, .int .i64 0, .int .i64 0, .int .i64 0, .int .i64 0, .int .i64 0, .int .i64 0, .int .i64 0, .int .i64 0, .int .i64 0, .int .i64 0, .int .i64 0] := by
    simp only [recR, hno]; rfl
  have e2 : standErr g y = 10 := by simp [standErr, hno]
  have e3 : errG g = 10 := by simp [errG, hno]
  rw [e1, e2]
  have HG := Lib.hid hG
  have E3 := Lib.hid e3
  clear hG e1 e2 e3 hno
  obtain ⟨W4, hW4⟩ : ∃ W4, ((((w.alloc (.cells (gcs g A1 c1 A2 c2) 34)).alloc (.cells #[.int .i64 y] 3)).alloc (.cells zero17 60)).alloc (.cells #[.int .i64 0] 23)) = W4 := ⟨_, rfl⟩
  have hF4 : Four W4 w.heap.size y zero17 0 := by rw [← hW4]; exact four_new w _ y _
  have hb4 : Below w.heap.size w W4 := by rw [← hW4]; exact below4 w _ _ _ _
  have hs4 : W4.heap.size = w.heap.size + 4 := by rw [← hW4]; simp
  have hcG : ∀ i, W4.cell? ⟨w.heap.size, i, none⟩ = _ := fun i => cell_of_row _ w.heap.size i _ _ _ (by rw [← hW4]; exact (Below.heap_alloc _ _ _ (by simp; omega)).trans (alloc3_at0 w _ _ _))
  have HF4 := Lib.hid hF4
  have Hb4 := Lib.hid hb4
  clear hF4 hb4
  unfold grv
  refine (callsIn_wide (n := 4)).1 ?_
  refine callsIn_of_wp_marks Tryd.func17 rfl trivial ?_ rfl
  simp only [Tryd.ntmps17, List.size_toArray, List.length_cons, List.length_nil, Nat.reduceAdd, Nat.reduceSub, Array.replicate_succ, Array.replicate_zero, List.push_toArray, List.append_toArray, List.nil_append, List.cons_append]
  gi_wp2_with (first
    | (refine ⟨trivial, ?_⟩
       gi_at_call 14
       refine (callsIn_wide.2 (check_any g A1 c1 A2 c2 B W4 (by omega) (HG.out.below (Hb4.out.mono hB)))).mono ?_
       rintro e w1 ⟨rfl, hB1⟩
       rw [E3.out]
       have F1 := Lib.hid (HF4.out.below hB1 (by omega))
       have B1 := Lib.hid (Hb4.out.trans (hB1.mono (by omega)))
       clear hB1)
    | (show wpListIn _ _ _ _ _ (Oper.mk none (Op.store _ (Operand.tmp 4) (Operand.tmp 13)) _ _ _ _ :: _) _ _
       refine wpListIn_store_blk 60 (.tmp 4) (.tmp 13) rfl rfl rfl rfl F1.out.r rfl ?h1 rowRecord ?_
       case h1 => simp [Value.oneCell']
       intro w2 hP2 hM2
       have hE2 := (hP2.other (w.heap.size + 1 + 1 + 1) (by omega)).trans F1.out.e
       have hce := cell_of_row _ (w.heap.size + 1 + 1 + 1) 0 _ _ _ hE2
       have hfe := frozen_of_row _ (w.heap.size + 1 + 1 + 1) 0 _ _ hE2
       have H2 := Lib.hid (And.intro hE2 (And.intro hM2 (B1.out.trans (hP2.below (by omega)))))
       clear hE2 hP2 hM2))
  have hset := heap_setCell_same w2 (w.heap.size + 1 + 1 + 1) 0 _ _ (.int .i64 10) H2.out.1
  have hset' : (w2.setCell ⟨w.heap.size + 1 + 1 + 1, 0, none⟩ (.int .i64 10)).heap[w.heap.size + 1 + 1 + 1]? = some (.cells #[.int .i64 10] 23 (0, 0)) := hset
  have hce3 := fun i => cell_of_row _ (w.heap.size + 1 + 1 + 1) i _ _ _ hset'
  have hcr := fun i => cell_of_row _ (w.heap.size + 1 + 1) i _ _ _ ((heap_setCell_other w2 ⟨w.heap.size + 1 + 1 + 1, 0, none⟩ (w.heap.size + 1 + 1) (.int .i64 10) (by simp)).trans H2.out.2.1)
  refine ⟨.tuple #[.agg zero17, .int .i64 10], by simp [results, Tryd.results17, go_sem, hce3, hcr], rfl, ?_⟩
  exact H2.out.2.2.setCell (by simp; omega) _

end Go.Proofs.YtanjolmelbipoaaDoor

