/-
  The law ClumpLooks; its arguments opened.
-/
import Derived.Test.YtanjolmelbipoaaZE
import Derived.Test.YtanjolmelbipoaaYL
namespace Go.Proofs.Ytanjolmelbipoaa
open Go.RowKit

set_option maxHeartbeats 4000000 in
theorem refLook_any (g : Gr) (A1 : Option Addr) (c1 : Nat) (A2 : Option Addr) (c2 : Nat) (P1 : Option Addr) (k1 : Nat) (ps : List (Int × Int)) (P2 : Option Addr) (k2 : Nat) (zs : List Int) (B : Nat) (w : World) (hB : B ≤ w.heap.size) (hG : GrAt w B g A1 c1 A2 c2)
    (hV1 : Vals w B P1 (pairs ps)) (hV2 : Ints w B P2 zs) (l1 : ps.length ≤ 9223372036854775807) (l2 : zs.length ≤ 9223372036854775807) :
    Calls Try.prog 24 #[grv g A1 c1 A2 c2, .slice P1 ps.length k1, .slice P2 zs.length k2] w (LookPost w (lookVal g ps zs) (lookErr g ps zs)) := by
  by_cases hall : okGrove g = true ∧ rainsOk ps = true ∧ planOk zs ps.length = true
  · obtain ⟨hok, hr, hp⟩ := hall
    obtain ⟨d, r, R⟩ := okGrove_runs hok
    have e1 : lookErr g ps zs = 0 := by simp [lookErr, hok, hr, hp]
    have e2 : lookVal g ps zs = aheadL g.hab r g.hab.bears.toNat (lastL g) (lastL g) (ps.zip zs) := by
      have : g.hab.ripe.toNat = r := by rw [R.pre.hr, Int.toNat_natCast]
      simp [lookVal, hok, hr, hp, this]
    rw [e1, e2]
    exact refLook_ok g A1 c1 A2 c2 P1 k1 ps P2 k2 zs B w hB hG hV1 hV2 hok hr hp R
  · have e2 : lookVal g ps zs = [] := by rw [lookVal, if_neg hall]
    have HG := Lib.hid hG
    have HV := Lib.hid (And.intro hV1 hV2)
    have hb0 : Below w.heap.size w (w.alloc (.cells (gcs g A1 c1 A2 c2) 29)) := (Below.refl _ _).alloc (Nat.le_refl _) _
    have HB0 := Lib.hid hb0
    have stop : ∀ er W, Below w.heap.size w W → LookPost w [] er (.returned (.tuple #[.slice none 0 0, .int .i64 0, .int .i64 er])) W := fun er W h => LookPost.nil h
    have STOP := Lib.hid stop
    rw [e2]
    clear hG hV1 hV2 hb0 stop e2
    rcases Bool.eq_false_or_eq_true (okGrove g) with hok | hok
    · rcases Bool.eq_false_or_eq_true (rainsOk ps) with hr | hr
      · rcases Bool.eq_false_or_eq_true (planOk zs ps.length) with hp | hp
        · exact absurd ⟨hok, hr, hp⟩ hall
        · have e1 : lookErr g ps zs = 12 := by simp [lookErr, hok, hr, hp]
          rw [e1]
          have HR := Lib.hid (And.intro hok (And.intro hr hp))
          clear e1 hall hok hr hp
          unfold grv
          go_enter Try.func24, Try.ntmps24
          go_wp2_with (first
            | (go_at_call 39; refine (refGrove_any g A1 c1 A2 c2 B _ (by simp; omega) (HG.out.below (HB0.out.mono hB))).mono ?_; rintro e w1 ⟨rfl, hB1⟩; rw [HR.out.1]
               have H1 := Lib.hid (HB0.out.trans (hB1.mono (by simp))); clear hB1)
            | (go_at_call 49; refine (refRains_any P1 k1 ps B w1 (Nat.le_trans hB H1.out.size) (HV.out.1.below (H1.out.mono hB)) l1).mono ?_; rintro e w2 ⟨rfl, hB2⟩; rw [HR.out.2.1]
               have H2 := Lib.hid (H1.out.trans (hB2.mono H1.out.size)); clear hB2)
            | (go_at_call 30; refine (refPlan_any P1 k1 ps P2 k2 zs B w2 (HV.out.2.below (H2.out.mono hB)) l2 l1).mono ?_; rintro e w3 ⟨rfl, rfl⟩; rw [HR.out.2.2]))
          go_ret3
          exact STOP.out 12 _ H2.out
      · have e1 : lookErr g ps zs = 11 := by simp [lookErr, hok, hr]
        rw [e1]
        have HR := Lib.hid (And.intro hok hr)
        clear e1 hall hok hr
        unfold grv
        go_enter Try.func24, Try.ntmps24
        go_wp2_with (first
          | (go_at_call 39; refine (refGrove_any g A1 c1 A2 c2 B _ (by simp; omega) (HG.out.below (HB0.out.mono hB))).mono ?_; rintro e w1 ⟨rfl, hB1⟩; rw [HR.out.1]
             have H1 := Lib.hid (HB0.out.trans (hB1.mono (by simp))); clear hB1)
          | (go_at_call 49; refine (refRains_any P1 k1 ps B w1 (Nat.le_trans hB H1.out.size) (HV.out.1.below (H1.out.mono hB)) l1).mono ?_; rintro e w2 ⟨rfl, hB2⟩; rw [HR.out.2]
             have H2 := Lib.hid (H1.out.trans (hB2.mono H1.out.size)); clear hB2))
        go_ret3
        exact STOP.out 11 _ H2.out
    · have e1 : lookErr g ps zs = 10 := by simp [lookErr, hok]
      rw [e1]
      have HR := Lib.hid hok
      clear e1 hall hok
      unfold grv
      go_enter Try.func24, Try.ntmps24
      go_wp2_with
        (go_at_call 39; refine (refGrove_any g A1 c1 A2 c2 B _ (by simp; omega) (HG.out.below (HB0.out.mono hB))).mono ?_; rintro e w1 ⟨rfl, hB1⟩; rw [HR.out]
         have H1 := Lib.hid (HB0.out.trans (hB1.mono (by simp))); clear hB1)
      go_ret3
      exact STOP.out 10 _ H1.out

end Go.Proofs.Ytanjolmelbipoaa

namespace Go.Proofs.Ytanjolmelbipoaa
open Go.RowKit Go.Shelf

attribute [local go_sem] gives

/-- A slice of spans. -/
def PrF (ps : List (Int × Int)) : Fact := fun v W => ∃ A c, v = .slice A ps.length c ∧ Vals W W.heap.size A (pairs ps)
theorem PrF.keep {ps : List (Int × Int)} {v : Value} {W W' : World} (h : PrF ps v W) (hg : Grows W W') : PrF ps v W' := by
  obtain ⟨A, c, hv, hi⟩ := h
  exact ⟨A, c, hv, (hi.below hg).mono hg.size⟩
/-- What Look hands back, and its first part. -/
def LkF (l : List (Int × Int × Int × Int)) (er : Int) : Fact := fun v W => ∃ A c, v = .tuple #[.slice A l.length c, .int .i64 l.length, .int .i64 er] ∧ Vals W W.heap.size A (quads l)
theorem LkF.keep {l : List (Int × Int × Int × Int)} {er : Int} {v : Value} {W W' : World} (h : LkF l er v W) (hg : Grows W W') : LkF l er v W' := by
  obtain ⟨A, c, hv, hi⟩ := h
  exact ⟨A, c, hv, (hi.below hg).mono hg.size⟩
def QdF (l : List (Int × Int × Int × Int)) : Fact := fun v W => ∃ A c, v = .slice A l.length c ∧ Vals W W.heap.size A (quads l)
theorem QdF.keep {l : List (Int × Int × Int × Int)} {v : Value} {W W' : World} (h : QdF l v W) (hg : Grows W W') : QdF l v W' := by
  obtain ⟨A, c, hv, hi⟩ := h
  exact ⟨A, c, hv, (hi.below hg).mono hg.size⟩

/-- A step of a region in which the operation that writes slot x may turn new blocks. -/
def SNew (x N : Nat) (o : Oper) (W W' : World) : Prop := (o.dst ≠ some x → Grows W W') ∧ Below N W W'
theorem SNew.of {x N : Nat} {o : Oper} {W W' : World} (h : Grows W W') (hN : N ≤ W.heap.size) : SNew x N o W W' := ⟨fun _ => h, h.mono hN⟩

theorem aheadL_len (h : Hab) (r b : Nat) : ∀ (l : List ((Int × Int) × Int)) (lo hi : List Int), (aheadL h r b lo hi l).length ≤ l.length
  | [], _, _ => Nat.le_refl _
  | ((x1, x2), n) :: l, lo, hi => by
    simp only [aheadL]
    split
    · simp only [List.length_cons]; have := aheadL_len h r b l (yearL lo (shotsL b lo h.lo x1) n) (yearL hi (shotsL b hi h.hi x2) n); omega
    · simp
theorem lookVal_len (g : Gr) (ps : List (Int × Int)) (zs : List Int) : (lookVal g ps zs).length ≤ zs.length := by
  unfold lookVal
  split
  · refine Nat.le_trans (aheadL_len _ _ _ _ _ _) ?_
    simp; omega
  · simp

set_option maxHeartbeats 4000000 in
theorem clumpLooks_idle (g : Gr) (ps : List (Int × Int)) (zs : List Int) (A1 : Option Addr) (c1 : Nat) (A2 : Option Addr) (c2 : Nat) (P1 : Option Addr) (k1 : Nat) (P2 : Option Addr) (k2 : Nat) (w : World) (l1 : ps.length ≤ 9223372036854775807) (l2 : zs.length ≤ 9223372036854775807)
    (h : great g = true ∨ 10 < ps.length ∨ 10 < zs.length) :
    Calls Try.prog 4 #[grv g A1 c1 A2 c2, .slice P1 ps.length k1, .slice P2 zs.length k2] w fun e w' => e = .returned (.bool true) ∧ Below w.heap.size w w' := by
  have hb0 : Below w.heap.size w (w.alloc (.cells (gcs g A1 c1 A2 c2) 29)) := (Below.refl _ _).alloc (Nat.le_refl _) _
  have HB0 := Lib.hid hb0
  clear hb0
  unfold grv
  rcases Bool.eq_false_or_eq_true (great g) with hg | hg
  · have Hg := Lib.hid hg
    clear h hg
    go_enter Try.func4, Try.ntmps4
    go_wp2_with (go_at_call 12; refine (refGreat_any g A1 c1 A2 c2 _).mono ?_; rintro e w1 ⟨rfl, hB1⟩; rw [Hg.out]; have B1 := Lib.hid hB1; clear hB1)
    go_ret
    exact ⟨rfl, HB0.out.trans (B1.out.mono (by simp))⟩
  · have Hg := Lib.hid hg
    by_cases hp : 10 < ps.length
    · clear h hg
      go_enter Try.func4, Try.ntmps4
      go_wp2_with (go_at_call 12; refine (refGreat_any g A1 c1 A2 c2 _).mono ?_; rintro e w1 ⟨rfl, hB1⟩; rw [Hg.out]; have B1 := Lib.hid hB1; clear hB1)
      go_ret
      exact ⟨rfl, HB0.out.trans (B1.out.mono (by simp))⟩
    · have hz : 10 < zs.length := by
        rcases h with h | h | h
        · rw [hg] at h; cases h
        · exact absurd h hp
        · exact h
      clear h hg
      go_enter Try.func4, Try.ntmps4
      go_wp2_with (go_at_call 12; refine (refGreat_any g A1 c1 A2 c2 _).mono ?_; rintro e w1 ⟨rfl, hB1⟩; rw [Hg.out]; have B1 := Lib.hid hB1; clear hB1)
      go_ret
      exact ⟨rfl, HB0.out.trans (B1.out.mono (by simp))⟩

/-- A step after which each block that is not empty is as it was. -/
structure SE (N : Nat) (W W' : World) : Prop where
  size : W.heap.size ≤ W'.heap.size
  same : ∀ k, k < W.heap.size → W'.heap[k]? = W.heap[k]? ∨ (N ≤ k ∧ ∃ t, W.heap[k]? = some (.cells #[] t (0, 0)))
theorem Vals.se {N : Nat} {W W' : World} {A : Option Addr} {vs : List Value} (h : Vals W W.heap.size A vs) (hs : SE N W W') : Vals W' W'.heap.size A vs := fun h0 => by
  obtain ⟨b, off, rfl, hlt, hc⟩ := h h0
  refine ⟨b, off, rfl, Nat.lt_of_lt_of_le hlt hs.size, fun j u hj => ?_⟩
  rcases hs.same b hlt with e | ⟨_, t, e⟩
  · rw [World.cell?_of_block (w := W) e]; exact hc j u hj
  · have := hc 0 vs[0] (by simp [h0])
    rw [cell_of_row W b _ _ _ _ e] at this
    simp at this
theorem LkF.se {N : Nat} {l : List (Int × Int × Int × Int)} {er : Int} {v : Value} {W W' : World} (h : LkF l er v W) (hs : SE N W W') : LkF l er v W' := by
  obtain ⟨A, c, hv, hi⟩ := h
  exact ⟨A, c, hv, hi.se hs⟩
theorem QdF.se {N : Nat} {l : List (Int × Int × Int × Int)} {v : Value} {W W' : World} (h : QdF l v W) (hs : SE N W W') : QdF l v W' := by
  obtain ⟨A, c, hv, hi⟩ := h
  exact ⟨A, c, hv, hi.se hs⟩
def S36 (N : Nat) (o : Oper) (W W' : World) : Prop := (o.dst ≠ some 36 → Grows W W') ∧ SE N W W'
theorem SE.of {N : Nat} {W W' : World} (h : Grows W W') : SE N W W' := ⟨h.size, fun k hk => .inl (h.block k hk)⟩
theorem S36.of {N : Nat} {o : Oper} {W W' : World} (h : Grows W W') : S36 N o W W' := ⟨fun _ => h, SE.of h⟩
theorem S36.refl (N : Nat) (o : Oper) (W : World) : S36 N o W W := .of (Grows.refl W)
def NewE (N : Nat) (e : TypeId) : Fact := fun v W => ∃ g, v = .slice (some ⟨g, 0, none⟩) 0 0 ∧ N ≤ g ∧ W.heap[g]? = some (.cells #[] e (0, 0))

theorem gives_clone {P : Program} {a : Act} {w : World} {o : Oper} {R : Value → World → Prop} (s x : Operand) (t : TypeId)
    (ho : o.op = .call { callee := .builtin .append, args := #[s, x], argTypes := #[t, t] })
    (base : Nat) (e : TypeId) (i : TypeInfo) (z : Value) (size bytes : Nat) (ht : P.underlying t = some (.slice e)) (hi : P.info? e = some i) (hz : i.zero = some z)
    (hsize : i.size = size) (hby : i.bytes = bytes) (hzs : z.cells.size = size) (hsz : 0 < size)
    {g0 : Nat} (hs : a.eval s = .slice (some ⟨g0, 0, none⟩) 0 0) (h0 : w.heap[g0]? = some (.cells #[] e (0, 0))) (hb0 : base ≤ g0)
    {B : Nat} {A : Option Addr} {m c : Nat} {vs : List Value} (hx : a.eval x = .slice A m c) (hr : Vals w B A vs) (hl : vs.length = m * size) (h1 : ∀ u ∈ vs, u.oneCell' = true)
    (h63 : m ≤ maxLen) (hbytes : m * bytes ≤ 140737488355328)
    (h : ∀ g1 c1 w', w'.ownsRow base e size (.slice (some ⟨g1, 0, none⟩) m c1) m vs → w.grownBy w' (some g0) → R (.slice (some ⟨g1, 0, none⟩) m c1) w') : gives P o a w R := by
  obtain ⟨g1, c1, w', hrun, h2, h3, _⟩ := run_clone (P := P) w base t o.type e i z size bytes ht hi hz hsize hby hzs hsz g0 h0 hb0 B A m c vs hr hl h1 h63 hbytes
  unfold gives execOp
  simp only [ho, resolve, invoke, builtin, Sem.run_bind, Sem.run_pure, Result.andThen_ok, List.map_toArray, List.map_cons, List.map_nil, hs, hx, hrun]
  exact h g1 c1 w' h2 h3

theorem Try.info23 : (Try.prog.info? 23).map (fun i => (i.zero, i.size, i.bytes)) = some (some (.agg #[.int .i64 0, .int .i64 0]), 2, 16) := by kernel_rfl
theorem prF_vals {ps : List (Int × Int)} {v : Value} {W : World} (h : PrF ps v W) : ∃ A c, v = .slice A ps.length c ∧ Vals W W.heap.size A (pairs ps) := h
theorem PrF.se {N : Nat} {ps : List (Int × Int)} {v : Value} {W W' : World} (h : PrF ps v W) (hs : SE N W W') : PrF ps v W' := by
  obtain ⟨A, c, hv, hi⟩ := h
  exact ⟨A, c, hv, hi.se hs⟩

set_option maxRecDepth 100000 in
set_option maxHeartbeats 8000000 in
theorem clumpLooks_main (g : Gr) (ps : List (Int × Int)) (zs : List Int) (A1 : Option Addr) (c1 : Nat) (A2 : Option Addr) (c2 : Nat) (P1 : Option Addr) (k1 : Nat) (P2 : Option Addr) (k2 : Nat) (w : World) (hG : GrAt w w.heap.size g A1 c1 A2 c2)
    (hV1 : Vals w w.heap.size P1 (pairs ps)) (hV2 : Ints w w.heap.size P2 zs) (hgr : great g = false) (lp : ps.length ≤ 10) (lz : zs.length ≤ 10) :
    Calls Try.prog 4 #[grv g A1 c1 A2 c2, .slice P1 ps.length k1, .slice P2 zs.length k2] w fun e w' => e = .returned (.bool true) ∧ Below w.heap.size w w' := by
  obtain ⟨i0, hi0, hz0, hz1, hz2⟩ := info_parts Try.info3
  obtain ⟨j0, hj0, hy0, hy1, hy2⟩ := info_parts Try.info23
  have HI := Lib.hid (And.intro hi0 (And.intro hz0 (And.intro hz1 hz2)))
  have HJ := Lib.hid (And.intro hj0 (And.intro hy0 (And.intro hy1 hy2)))
  have HG := Lib.hid hG
  have HV := Lib.hid (And.intro hV1 hV2)
  have hlen : g.start.length ≤ 20 ∧ g.seas.length ≤ 80 := by simp [great] at hgr; omega
  have Hgr := Lib.hid hgr
  have hb0 : Below w.heap.size w (w.alloc (.cells (gcs g A1 c1 A2 c2) 29)) := (Below.refl _ _).alloc (Nat.le_refl _) _
  have HB0 := Lib.hid hb0
  clear hi0 hz0 hz1 hz2 hj0 hy0 hy1 hy2 hG hV1 hV2 hgr hb0
  unfold grv
  go_enter Try.func4, Try.ntmps4
  go_upto_region 4 with (first
    | (go_at_call 12
       refine (refGreat_any g A1 c1 A2 c2 _).mono ?_
       rintro e w1 ⟨rfl, hB1⟩
       rw [Hgr.out]
       have hs1 := hB1.size
       simp only [World.size_alloc] at hs1
       have hm1 := (hB1.block w.heap.size (by simp)).trans (alloc_at0 w _)
       have hc1 := fun i => cell_of_row w1 w.heap.size i _ _ _ hm1
       have B1 := Lib.hid (And.intro (HB0.out.trans (hB1.mono (by simp))) hm1)
       clear hB1 hm1)
    | (go_at_call 13
       refine (refTwin_any g A1 c1 A2 c2 w.heap.size _ (by omega) (HG.out.below B1.out.1) Hgr.out).mono ?_
       rintro e w2 ⟨g1, x1, g2, x2, rfl, hg1, hg2, -, ho1, ho2, hB2⟩
       unfold grv
       have hs2 := hB2.size
       have T2 := Lib.hid (And.intro (B1.out.1.trans (hB2.mono (by omega))) (And.intro ((hB2.block _ (by omega)).trans B1.out.2) (And.intro ho1 ho2)))
       clear ho1 ho2 hB2)
    | (at_builtin
       refine wpl_clone (by rfl) (.tmp 29) (.tmp 30) _ (by rfl) w2.heap.size 3 i0 _ 1 8 Try.underlying26 HI.out.1 HI.out.2.1 HI.out.2.2.1 HI.out.2.2.2 rfl (by omega) _ (by rfl) (alloc_at0 _ _) (Nat.le_refl _)
         w.heap.size P2 zs.length k2 (ints zs) (by rfl) (HV.out.2.vals.below (T2.out.1.alloc (by omega) _)) (by simp [ints]) (oneCells_ints _) (by simp only [maxLen]; omega) (by omega) ?_
       intro y1 z1 w3 hown hgrow hat hy1 hy1s
       have hB3 := Below.ofGrown ((Below.refl w2.heap.size w2).alloc (Nat.le_refl _) _) hgrow (by simp) (Nat.le_refl _)
       have hs3 := hB3.size
       have T3 := Lib.hid (And.intro hown (And.intro hB3 hy1))
       clear hown hgrow hat hB3))
  obtain ⟨w4, hw4⟩ : ∃ w4, w3.alloc (.cells (gcs g (some ⟨g1, 0, none⟩) x1 (some ⟨g2, 0, none⟩) x2) 29) = w4 := ⟨_, rfl⟩
  have hs4 : w4.heap.size = w3.heap.size + 1 := by rw [← hw4]; simp
  have hb24 : Below w2.heap.size w2 w4 := by rw [← hw4]; exact T3.out.2.1.alloc hs3 _
  have hL4 : LawAt w g A1 c1 A2 c2 w3.heap.size (some ⟨g1, 0, none⟩) x1 (some ⟨g2, 0, none⟩) x2 w4 := by
    have hbel := T2.out.1.trans (hb24.mono (by omega))
    refine ⟨(hb24.block _ (by omega)).trans T2.out.2.1, by rw [← hw4]; exact alloc_at0 _ _, HG.out.below hbel, ?_, hbel, by omega, by omega⟩
    exact (GrAt.below ⟨(Vals.own T2.out.2.2.1).ints, Vals.own T2.out.2.2.2, own_cap T2.out.2.2.1, own_cap T2.out.2.2.2, by omega, by omega⟩ hb24).mono hs3
  have hmine : Ints w4 w4.heap.size (some ⟨y1, 0, none⟩) zs := by
    have := (Vals.own T3.out.1).ints
    rw [← hw4]
    exact (this.below ((Below.refl w3.heap.size w3).alloc (Nat.le_refl _) _)).mono (by simp)
  have L4 := Lib.hid (And.intro hL4 hmine)
  have HS4 := Lib.hid hs4
  clear hL4 hmine hs4 hb24
  simp only [gcs] at hw4
  rw [hw4]
  clear hw4 hc1
  have hlv := lookVal_len g ps zs
  generalize hl0 : lookVal g ps zs = l at hlv
  generalize he0 : lookErr g ps zs = er
  have hrf := fun W (hW : Below w.heap.size w W) (hs : w.heap.size ≤ W.heap.size) => refLook_any g A1 c1 A2 c2 P1 k1 ps P2 k2 zs w.heap.size W hs (HG.out.below hW) (HV.out.1.below hW) (HV.out.2.below hW) (by omega) (by omega)
  have hlp := fun W (X : Option Addr) (x : Nat) (hW : Below w4.heap.size w4 W) (hv : Vals W W.heap.size X (pairs ps)) => lookP_any g (some ⟨g1, 0, none⟩) x1 (some ⟨g2, 0, none⟩) x2 X x ps (some ⟨y1, 0, none⟩) z1 zs W.heap.size W (Nat.le_refl _) ((L4.out.1.tw.below (hW.mono (Nat.le_of_lt L4.out.1.lt))).mono (Nat.le_trans (Nat.le_of_lt L4.out.1.lt) hW.size)) hv ((L4.out.2.below hW).mono hW.size) (by omega) (by omega)
  rw [hl0, he0] at hrf hlp
  have HRF := Lib.hid hrf
  have HLP := Lib.hid hlp
  clear hrf hlp hl0 he0
  refine R2.wp_walk (C := fun W => Below w4.heap.size w4 W) (S := S36 w4.heap.size) 73 (by kernel_rfl) (by kernel_rfl) rfl (S36.refl _) (Below.refl _ _).drew ?_
  simp only []
  refine' R2.WalkR.det (fun _ => rfl) rfl (fun ρ W hW hH hU => ?_) ?_
  rotate_left
  · clear hH hU
    have hc := fun i => cell_of_row W w3.heap.size i _ _ _ ((hW.block _ (lt_of_heap L4.out.1.hT)).trans L4.out.1.hT)
    have HW := Lib.hid hW
    clear hW
    go_simp
    exact ⟨rfl, S36.refl _ _ _, HW.out⟩
  simp only [Act.put, List.setIfInBounds_toArray, List.set_cons_succ, List.set_cons_zero]
  refine' R2.WalkR.tp 36 (NewE w4.heap.size 23) (fun _ => rfl) rfl rfl (fun o' v W W' _ hx hv hs _ => ?_) (fun ρ W hW hH hU => ?_) ?_
  · obtain ⟨g0, hv, hn, hm⟩ := hv
    exact ⟨g0, hv, hn, ((hs.1 hx).block _ (lt_of_heap hm)).trans hm⟩
  · clear hH hU
    have HW := Lib.hid hW
    have hws := hW.size
    clear hW
    go_simp
    exact ⟨⟨_, rfl, hws, alloc_at0 _ _⟩, .of ((Below.refl _ _).alloc (Nat.le_refl _) _), HW.out.alloc hws _⟩
  simp only [Act.put, List.setIfInBounds_toArray, List.set_cons_succ, List.set_cons_zero]
  refine' R2.WalkR.det (fun _ => rfl) rfl (fun ρ W hW hH hU => ?_) ?_
  rotate_left
  · clear hH hU
    have hc := fun i => cell_of_row W w3.heap.size i _ _ _ ((hW.block _ (lt_of_heap L4.out.1.hT)).trans L4.out.1.hT)
    have HW := Lib.hid hW
    clear hW
    go_simp
    exact ⟨rfl, S36.refl _ _ _, HW.out⟩
  simp only [Act.put, List.setIfInBounds_toArray, List.set_cons_succ, List.set_cons_zero]
  refine' R2.WalkR.nd (PrF ps) (fun _ => rfl) rfl rfl (fun _ v W W' _ _ hv hs _ => hv.se hs.2) (fun ρ W hW hH hU => ?_) ?_
  · obtain ⟨g0, hv, hn, hm⟩ := hU.1 _ (.head _) (by first | decide +kernel | (dsimp only; decide +kernel)) rfl
    have hbw := L4.out.1.bel.trans (hW.mono (by have := L4.out.1.lt; have := L4.out.1.wt; omega))
    refine gives_clone (.tmp 34) (.tmp 35) 48 rfl w4.heap.size 23 j0 _ 2 16 Try.underlying48 HJ.out.1 HJ.out.2.1 HJ.out.2.2.1 HJ.out.2.2.2 rfl (by omega) hv hm hn rfl
      (HV.out.1.below hbw) (by rw [pairs_len]) (oneCells_pairs ps) (by simp only [maxLen]; omega) (by omega) (fun g9 q9 w9 hown hgr => ?_)
    refine ⟨⟨_, q9, rfl, Vals.own hown⟩, ⟨fun hx => absurd rfl hx, hgr.size, fun k hk => ?_⟩, hW.grown hgr hW.size (fun k e => by cases e; exact hn)⟩
    by_cases e : k = g0
    · subst e; exact .inr ⟨hn, _, hm⟩
    · exact .inl (hgr.block k hk (fun e2 => e (by injection e2)))
  simp only [Act.put, List.setIfInBounds_toArray, List.set_cons_succ, List.set_cons_zero]
  refine' R2.WalkR.det (fun _ => rfl) rfl (fun ρ W hW hH hU => ?_) ?_
  rotate_left
  · clear hH hU
    have hc := fun i => cell_of_row W w3.heap.size i _ _ _ ((hW.block _ (lt_of_heap L4.out.1.hT)).trans L4.out.1.hT)
    have HW := Lib.hid hW
    clear hW
    go_simp
    exact ⟨rfl, S36.refl _ _ _, HW.out⟩
  simp only [Act.put, List.setIfInBounds_toArray, List.set_cons_succ, List.set_cons_zero]
  refine' R2.WalkR.nd (LkF l er) (fun _ => rfl) rfl rfl (fun _ v W W' _ _ hv hs _ => hv.se hs.2) (fun ρ W hW hH hU => ?_) ?_
  · obtain ⟨X, x, hv, hi⟩ := hH _ (.head _) (by first | decide +kernel | (dsimp only; decide +kernel))
    have hv' : ρ 36 = .slice X ps.length x := hv
    clear hH hU hv
    have HW := Lib.hid (And.intro hi hW)
    clear hi hW
    go_simp
    refine (HLP.out W X x HW.out.2 HW.out.1).mono ?_
    rintro e W1 ⟨Y, y, rfl, -, hY, hB1⟩
    exact ⟨_, rfl, ⟨Y, y, rfl, hY⟩, .of hB1, HW.out.2.trans (hB1.mono HW.out.2.size)⟩
  simp only [Act.put, List.setIfInBounds_toArray, List.set_cons_succ, List.set_cons_zero]
  refine' R2.WalkR.nd (LkF l er) (fun _ => rfl) rfl rfl (fun _ v W W' _ _ hv hs _ => hv.se hs.2) (fun ρ W hW hH hU => ?_) ?_
  · have hv := hH _ (.head _) (by first | decide +kernel | (dsimp only; decide +kernel))
    clear hH hU
    have HW := Lib.hid (And.intro hv hW)
    clear hv hW
    go_simp
    exact ⟨HW.out.1, S36.refl _ _ _, HW.out.2⟩
  simp only [Act.put, List.setIfInBounds_toArray, List.set_cons_succ, List.set_cons_zero]
  refine' R2.WalkR.nd (QdF l) (fun _ => rfl) rfl rfl (fun _ v W W' _ _ hv hs _ => hv.se hs.2) (fun ρ W hW hH hU => ?_) ?_
  · obtain ⟨X, x, hv, hi⟩ := hH _ (.head _) (by first | decide +kernel | (dsimp only; decide +kernel))
    have hv' : ρ 32 = .tuple #[.slice X l.length x, .int .i64 l.length, .int .i64 er] := hv
    clear hH hU hv
    have HW := Lib.hid (And.intro hi hW)
    clear hi hW
    go_simp
    exact ⟨⟨X, x, rfl, HW.out.1⟩, S36.refl _ _ _, HW.out.2⟩
  simp only [Act.put, List.setIfInBounds_toArray, List.set_cons_succ, List.set_cons_zero]
  refine' R2.WalkR.det (fun _ => rfl) rfl (fun ρ W hW hH hU => ?_) ?_
  rotate_left
  · obtain ⟨X, x, hv, -⟩ := hH _ (.tail _ (.head _)) (by first | decide +kernel | (dsimp only; decide +kernel))
    have hv' : ρ 32 = .tuple #[.slice X l.length x, .int .i64 l.length, .int .i64 er] := hv
    clear hH hU hv
    have HW := Lib.hid hW
    clear hW
    go_simp
    exact ⟨rfl, S36.refl _ _ _, HW.out⟩
  simp only [Act.put, List.setIfInBounds_toArray, List.set_cons_succ, List.set_cons_zero]
  refine' R2.WalkR.det (fun _ => rfl) rfl (fun ρ W hW hH hU => ?_) ?_
  rotate_left
  · obtain ⟨X, x, hv, -⟩ := hH _ (.tail _ (.head _)) (by first | decide +kernel | (dsimp only; decide +kernel))
    have hv' : ρ 32 = .tuple #[.slice X l.length x, .int .i64 l.length, .int .i64 er] := hv
    clear hH hU hv
    have HW := Lib.hid hW
    clear hW
    go_simp
    exact ⟨rfl, S36.refl _ _ _, HW.out⟩
  simp only [Act.put, List.setIfInBounds_toArray, List.set_cons_succ, List.set_cons_zero]
  refine' R2.WalkR.nd (QdF l) (fun _ => rfl) rfl rfl (fun _ v W W' _ _ hv hs _ => hv.se hs.2) (fun ρ W hW hH hU => ?_) ?_
  · have hv := hH _ (.head _) (by first | decide +kernel | (dsimp only; decide +kernel))
    clear hH hU
    have HW := Lib.hid (And.intro hv hW)
    clear hv hW
    go_simp
    exact ⟨HW.out.1, S36.refl _ _ _, HW.out.2⟩
  simp only [Act.put, List.setIfInBounds_toArray, List.set_cons_succ, List.set_cons_zero]
  refine' R2.WalkR.det (fun _ => rfl) rfl (fun ρ W hW hH hU => ?_) ?_
  rotate_left
  · clear hH hU
    have hc := fun i => cell_of_row W w3.heap.size i _ _ _ ((hW.block _ (lt_of_heap L4.out.1.hT)).trans L4.out.1.hT)
    have HW := Lib.hid hW
    clear hW
    go_simp
    exact ⟨rfl, S36.refl _ _ _, HW.out⟩
  simp only [Act.put, List.setIfInBounds_toArray, List.set_cons_succ, List.set_cons_zero]
  refine' R2.WalkR.det (fun _ => rfl) rfl (fun ρ W hW hH hU => ?_) ?_
  rotate_left
  · clear hH hU
    have hc := fun i => cell_of_row W w3.heap.size i _ _ _ ((hW.block _ (lt_of_heap L4.out.1.hT)).trans L4.out.1.hT)
    have HW := Lib.hid hW
    clear hW
    go_simp
    exact ⟨rfl, S36.refl _ _ _, HW.out⟩
  simp only [Act.put, List.setIfInBounds_toArray, List.set_cons_succ, List.set_cons_zero]
  refine R2.WalkR.nil (fun ρ W hW hH hF => ?_)
  obtain ⟨X, x, hv, hX⟩ := hH _ (.head _)
  have hv' : ρ 9 = .slice X l.length x := hv
  rw [hv']
  have hLW := L4.out.1.next hW
  have LW := Lib.hid (And.intro hLW (And.intro ((L4.out.2.below hW).mono hW.size) hX))
  have hcG := fun i => cell_of_row W w.heap.size i _ _ _ hLW.hG
  have hlW := hLW.lt
  have hwW := hLW.wt
  clear hH hF hv hv' hX hW hLW HLP
  go_wp2_with (first
    | (go_at_call 24
       refine (HRF.out W LW.out.1.bel (by omega)).mono ?_
       rintro e w5 ⟨Y, y, rfl, -, hY, hB5⟩
       have l5 := LW.out.1.next hB5
       have hs5 := hB5.size
       have hc5G := fun i => cell_of_row w5 w.heap.size i _ _ _ l5.hG
       have hc5T := fun i => cell_of_row w5 w3.heap.size i _ _ _ l5.hT
       have L5 := Lib.hid (And.intro l5 (And.intro ((LW.out.2.1.below hB5).mono hs5) (And.intro ((LW.out.2.2.below hB5).mono hs5) hY)))
       clear hB5 l5 hY hcG)
    | (go_at_call 25
       refine (sameAhead_any X Y x y l w5.heap.size w5 L5.out.2.2.1 L5.out.2.2.2 (by omega)).mono ?_
       rintro e w6 ⟨rfl, hB6⟩
       have l6 := L5.out.1.next hB6
       have hs6 := hB6.size
       have hc6G := fun i => cell_of_row w6 w.heap.size i _ _ _ l6.hG
       have hc6T := fun i => cell_of_row w6 w3.heap.size i _ _ _ l6.hT
       have L6 := Lib.hid (And.intro l6 ((L5.out.2.1.below hB6).mono hs6))
       clear hB6 l6 hc5G hc5T)
    | (go_at_call 22
       refine (same_any g _ _ _ _ _ _ _ _ w3.heap.size w6 (by omega) L6.out.1.tw (L6.out.1.gr.mono (by omega)) Hgr.out).mono ?_
       rintro e w7 ⟨rfl, hB7⟩
       have hs7 := hB7.size
       have L7 := Lib.hid (And.intro (L6.out.1.next hB7) ((L6.out.2.below hB7).mono hs7))
       clear hB7 hc6G hc6T)
    | (go_at_call 20
       refine (sameInts_any (some ⟨y1, 0, none⟩) P2 z1 k2 zs zs w7.heap.size w7 L7.out.2 ((HV.out.2.below L7.out.1.bel).mono (by omega)) (by omega) (by omega)).mono ?_
       rintro e w8 ⟨rfl, hB8⟩
       rw [decide_eq_true rfl]
       have L8 := Lib.hid (L7.out.1.bel.trans (hB8.mono (by omega)))
       clear hB8))
  go_ret
  exact ⟨rfl, L8.out⟩

theorem clumpLooks_law (g : Gr) (ps : List (Int × Int)) (zs : List Int) (A1 : Option Addr) (c1 : Nat) (A2 : Option Addr) (c2 : Nat) (P1 : Option Addr) (k1 : Nat) (P2 : Option Addr) (k2 : Nat) (w : World) (hG : GrAt w w.heap.size g A1 c1 A2 c2)
    (hV1 : Vals w w.heap.size P1 (pairs ps)) (hV2 : Ints w w.heap.size P2 zs) (l1 : ps.length ≤ 9223372036854775807) (l2 : zs.length ≤ 9223372036854775807) :
    Calls Try.prog 4 #[grv g A1 c1 A2 c2, .slice P1 ps.length k1, .slice P2 zs.length k2] w fun e w' => e = .returned (.bool true) ∧ Below w.heap.size w w' := by
  by_cases h : great g = true ∨ 10 < ps.length ∨ 10 < zs.length
  · exact clumpLooks_idle g ps zs A1 c1 A2 c2 P1 k1 P2 k2 w l1 l2 h
  · have hg : great g = false := by
      cases hc : great g with
      | false => rfl
      | true => exact absurd (.inl hc) h
    exact clumpLooks_main g ps zs A1 c1 A2 c2 P1 k1 P2 k2 w hG hV1 hV2 hg (by omega) (by omega)

end Go.Proofs.Ytanjolmelbipoaa

namespace Go.Proofs.Ytanjolmelbipoaa
open Go.ChangeShapes Go.WideShapes Go.ChangeAt Go.RowKit Go.Deep

section
variable {H : Type} {enc : TypeId × Value → H} {w : World} {base : Nat} {spare : Nat → Bool} {held : Bool}

theorem open_spans_raw {fuel : Nat} {c : Value} {x : DataW H × List MemPlace} (h : DataW.trod enc Try.prog w base spare held fuel 48 [c] = some x) :
    ∃ (A : Option Addr) (ss : List (Int × Int)) (cap : Nat), c = .slice A ss.length cap ∧ ss.length ≤ maxLen ∧ Vals w w.heap.size A (pairs ss) := by
  rcases open_slice_pairs Try.underlying48 Try.underlying23 (by kernel_rfl) rfl rfl (by kernel_rfl) (by kernel_rfl) h with ⟨hc, _⟩ | ⟨a, len, cap, m, n, V0, V1, D0, D1, P0, P1, hc, _, hl, hm, hmm, _, hi⟩
  · simp only [List.cons.injEq, and_true] at hc
    exact ⟨none, [], 0, hc, by simp, fun h => by simp [pairs] at h⟩
  · simp only [List.cons.injEq, and_true] at hc
    have hle : len ≤ m := by rw [hmm]; split <;> omega
    have hv : ∀ i, i < len → ∃ p : Int × Int, w.cell? (a.add (i * 2)) = some (.int .i64 p.1) ∧ w.cell? (a.add (i * 2 + 1)) = some (.int .i64 p.2) := fun i h => by
      obtain ⟨h1, h2, h3, h4⟩ := hi i (by omega)
      obtain ⟨x, hx⟩ := open_int_raw h3
      obtain ⟨y, hy⟩ := open_int_raw h4
      exact ⟨(x, y), by rw [h1, hx], by rw [h2, hy]⟩
    obtain ⟨f, hf⟩ : ∃ f : Nat → Int × Int, ∀ i, i < len → w.cell? (a.add (i * 2)) = some (.int .i64 (f i).1) ∧ w.cell? (a.add (i * 2 + 1)) = some (.int .i64 (f i).2) :=
      ⟨fun i => if h : i < len then (hv i h).choose else (0, 0), fun i h => by simp only [h, dif_pos]; exact (hv i h).choose_spec⟩
    have hl2 : ((List.range len).map f).length = len := by simp
    refine ⟨some a, (List.range len).map f, cap, by rw [hl2]; exact hc, by rw [hl2]; omega, fun h0 => ?_⟩
    rw [pairs_len, hl2] at h0
    have h1 := (hf 0 (by omega)).1
    obtain ⟨b, off, spot⟩ := a
    have hs1 : spot = none := by
      have e0 : (⟨b, off, spot⟩ : Addr).add (0 * 2) = ⟨b, off, spot⟩ := by simp [Addr.add]
      rw [e0] at h1
      exact World.cell?_spot h1
    subst hs1
    rw [Addr.add_mid] at h1
    refine ⟨b, off, rfl, lt_of_cell h1, fun j u hj => ?_⟩
    have hjl : j < (pairs ((List.range len).map f)).length := (List.getElem?_eq_some_iff.1 hj).1
    rw [pairs_len, hl2] at hjl
    have hk : j / 2 < len := by omega
    have hp := pairs_at ((List.range len).map f) (j / 2) (by rw [hl2]; exact hk)
    have hq := hf (j / 2) hk
    rw [Addr.add_mid, Addr.add_mid] at hq
    have hg : ((List.range len).map f)[j / 2]?.getD (0, 0) = f (j / 2) := by simp [hk]
    rw [hg] at hp
    rcases Nat.mod_two_eq_zero_or_one j with hm2 | hm2
    · rw [show j = j / 2 * 2 by omega] at hj ⊢
      rw [hp.1] at hj
      rw [← hj]; exact hq.1
    · rw [show j = j / 2 * 2 + 1 by omega] at hj ⊢
      rw [hp.2] at hj
      rw [← hj]; exact hq.2

set_option maxRecDepth 100000 in
theorem open_spans_arg {r : Reach} {b0 : Nat} {v : Value} {d : DataW H} {p : List MemPlace} (hv : Value.okWide Try.prog w r b0 48 v) (h : DataW.Trod enc Try.prog w base spare held 48 v d p) :
    ∃ (A : Option Addr) (ss : List (Int × Int)) (cap : Nat), v = .slice A ss.length cap ∧ ss.length ≤ maxLen ∧ Vals w w.heap.size A (pairs ss) := by
  obtain ⟨a, len, cap, rfl⟩ := okWide_slice Try.underlying48 hv
  obtain ⟨fuel, hf⟩ := h
  exact open_spans_raw hf
set_option maxRecDepth 100000 in
theorem open_ints_arg {r : Reach} {b0 : Nat} {v : Value} {d : DataW H} {p : List MemPlace} (hv : Value.okWide Try.prog w r b0 26 v) (h : DataW.Trod enc Try.prog w base spare held 26 v d p) :
    ∃ (A : Option Addr) (zs : List Int) (cap : Nat), v = .slice A zs.length cap ∧ zs.length ≤ maxLen ∧ Ints w w.heap.size A zs := by
  obtain ⟨a, len, cap, rfl⟩ := okWide_slice Try.underlying26 hv
  obtain ⟨fuel, hf⟩ := h
  obtain ⟨A, zs, q, h1, _, h2, h3⟩ := open_ints_raw hf
  exact ⟨A, zs, q, h1, h2, h3⟩
end

end Go.Proofs.Ytanjolmelbipoaa

