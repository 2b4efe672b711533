/-
  The fingerings that are a note.
-/
import Derived.Test.YthjpgpelbagceaaFuK
import Derived.Test.YthjpgpelbagceaaCeU8
set_option linter.all false
namespace Go.Proofs.Ythjpgpelbagceaa
open Go.RowKit Go.Shelf Go.Maps
open R6 (done done_ne done_me upd_ne upd_me)

attribute [local go_sem] Oper.semAt_some

def fingZ (f : Fu) (o : Int × Int) (l : List Nat) : List Int := (l.filter fun n => insB o (tonF f n)).map fun n : Nat => (n : Int)
theorem fingZ_snoc (f : Fu) (o : Int × Int) (l : List Nat) (p : Nat) : fingZ f o (l ++ [p]) = fingZ f o l ++ (if insB o (tonF f p) = true then [(p : Int)] else []) := by
  unfold fingZ
  rw [List.filter_append, List.map_append]
  by_cases h : insB o (tonF f p) = true <;> simp [h]
theorem fingZ_len (f : Fu) (o : Int × Int) (l : List Nat) : (fingZ f o l).length ≤ l.length := by
  unfold fingZ
  rw [List.length_map]
  exact List.length_filter_le _ _

theorem wpListIn_lookU {F : Fence} {n : Nat} {op : Oper} {ops : Array Oper} {rest : List Oper} {a : Act} {w : World} {Q : Exit → Act → World → Prop} {M c : Nat} {G : Nat → Option (Int × Int)} (hg : op.guard = none) (mp x : Operand) (hop : op.op = Op.lookup 83 mp x false) (hm : a.eval mp = .map (some M)) (hO : OwnT w M c G) {k : Nat} (hk : k < 256) (hx : a.eval x = .int .u8 (k : Int))
    (h : wpListIn F n Try.prog ops Q rest (a.put op.dst (spV ((G k).getD (0, 0)))) w) : wpListIn F n Try.prog ops Q (op :: rest) a w := by
  obtain ⟨D, h1, h2⟩ := hO
  obtain ⟨u, ps, hrun, hv⟩ := h1.lookup keyU8 Try.underlying83 (zeroSp w) (zd := .held (spV (0, 0))) (zp := []) rfl (keyU8_of k hk)
  simp only [rdU, Option.some.injEq, Prod.mk.injEq, (h2 k hk).2, DataW.held.injEq] at hv
  rw [hv.1] at hrun
  refine wpListIn_plain hg fun K hK => ?_
  unfold Oper.wpIn
  refine ⟨by simp [Oper.about, hop], ?_⟩
  rw [Oper.semAt_plain F _ _ (by rw [hop]; intro c hc'; cases hc')]
  simp [execOp, hop, hm, hx, hrun, Result.andThen]
  exact hK _ _ h

theorem ownT_from {β : Type} {B mb c : Nat} {G : Nat → Option (Int × Int)} (hm : mb < B) : OwnFrom (β := β) B (fun _ A => OwnT A mb c G) := fun _ _ _ _ h hg hr => h.block (hg.block _ h.lt (fun e => by have := (hr mb e.symm).1; omega))
theorem blkF_own {β : Type} (j : Nat) (cs : Array Value) (ty : TypeId) : Own (β := β) (fun _ A => A.heap[j]? = some (.cells cs ty (0, 0))) := fun _ _ _ _ hs hg hr => (grownBy_keeps_cells hg hr hs rfl).trans hs
theorem own_btF {W : World} {base : Nat} {e : TypeId} {size n : Nat} {v : Value} {xs : List Value} (h : W.ownsRow base e size v n xs) {b : Nat} (hb : v.ownBlock = some b) : ∃ cur, W.heap[b]? = some (.cells cur e (0, 0)) := by
  rcases h.2 with ⟨rfl, _⟩ | ⟨g, cap, cur, rfl, h2, h3, _⟩
  · cases hb
  · simp only [Value.ownBlock, Option.some.injEq] at hb
    subst hb
    exact ⟨cur, h3⟩
/-- An append and a store of what it gives leave a block of another kind. -/
theorem app_keepsF {W w4 : World} {tmp : Obj} {n₀ k : Nat} {e : TypeId} {size : Nat} {v u : Value} {xs : List Value} (hrow : W.ownsRow n₀ e size v k xs) (hg : (W.alloc tmp).grownBy w4 v.ownBlock) {j B : Nat} {o : Obj}
    (hj : W.heap[j]? = some o) (ht : ∀ cur, o ≠ .cells cur e (0, 0)) (hB : j ≠ B) : (w4.setCell ⟨B, 0, none⟩ u).heap[j]? = some o := by
  have hlt := lt_of_heap hj
  refine (Below.heap_setCell _ _ _ _ (by simpa using hB)).trans ((hg.block j (by simp; omega) (fun e' => ?_)).trans ((Below.heap_alloc _ _ _ (by omega)).trans hj))
  obtain ⟨cur, hc⟩ := own_btF hrow e'.symm
  rw [hj] at hc
  exact ht _ (Option.some.inj hc)
theorem app_keepsT {W w4 : World} {tmp : Obj} {n₀ k : Nat} {e : TypeId} {size : Nat} {v u : Value} {xs : List Value} (hrow : W.ownsRow n₀ e size v k xs) (hg : (W.alloc tmp).grownBy w4 v.ownBlock) {mb c B : Nat} {G : Nat → Option (Int × Int)}
    (hO : OwnT W mb c G) (hB : mb ≠ B) : OwnT (w4.setCell ⟨B, 0, none⟩ u) mb c G := by
  obtain ⟨D, h1, h2⟩ := hO
  obtain ⟨es, clock, hb, h3⟩ := h1
  exact ⟨D, ⟨es, clock, app_keepsF hrow hg hb (fun cur h => by cases h) hB, h3⟩, h2⟩

theorem cell_one_newF (w : World) (x : Value) (t : TypeId) : ∀ j u, [x][j]? = some u → (w.alloc (.cells #[x] t)).cell? ((⟨w.heap.size, 0, none⟩ : Addr).add j) = some u := fun j u hj => by
  rw [Addr.add_mid, Nat.zero_add, cell_of_row _ w.heap.size j _ _ _ (alloc_at0 w _)]
  simpa using hj

def PlayPost (w : World) (f : Fu) (o : Int × Int) (e : Ending) (w' : World) : Prop := ∃ v, e = .returned v ∧ OwnU w' w.heap.size v (fingZ f o (List.range (2 ^ f.hs.length))) ∧ Below w.heap.size w w'

set_option maxRecDepth 100000 in
set_option maxHeartbeats 8000000 in
theorem playing_any (f : Fu) (hok : okFu f = true) (o : Int × Int) (B : Nat) (w : World) (hB : B ≤ w.heap.size) (hz : FuAt w B f) :
    Calls Try.prog 52 #[.agg (fuc f).toArray, .agg #[.int .i64 o.1, .int .i64 o.2]] w (PlayPost w f o) := by
  have hl := (okFu_bnd hok).2.2.2.2.1
  obtain ⟨o0, o1⟩ := o
  dsimp only
  obtain ⟨w4, hw4⟩ : ∃ w4, ((w.alloc (.cells (fuc f).toArray 28)).alloc (.cells #[.int .i64 o0, .int .i64 o1] 25)).alloc (.cells #[.slice none 0 0] 52) = w4 := ⟨_, rfl⟩
  have hb4 : Below w.heap.size w w4 := by rw [← hw4]; exact (((Below.refl _ _).alloc (Nat.le_refl _) _).alloc (by simp) _).alloc (by simp; omega) _
  have m0 : w4.heap[w.heap.size]? = some (.cells (fuc f).toArray 28 (0, 0)) := by rw [← hw4]; exact alloc3_at0 _ _ _ _
  have m1 : w4.heap[w.heap.size + 1]? = some (.cells #[.int .i64 o0, .int .i64 o1] 25 (0, 0)) := by rw [← hw4]; exact alloc3_at1 _ _ _ _
  have m2 : w4.heap[w.heap.size + 1 + 1]? = some (.cells #[.slice none 0 0] 52 (0, 0)) := by rw [← hw4]; exact alloc3_at2 _ _ _ _
  have hs4 : w4.heap.size = w.heap.size + 3 := by rw [← hw4]; simp
  have HAT := Lib.hid (allTones_any f hok B w4 (Nat.le_trans hB hb4.size) (hz.below (hb4.mono hB)))
  have HFI := Lib.hid (fun W => fingerings_any (fuc f) W)
  have H4 := Lib.hid (And.intro hb4 (And.intro m0 (And.intro m1 (And.intro m2 hs4))))
  have hcf := fun (W : World) (hW : Below w4.heap.size w4 W) i => cell_of_row W w.heap.size i _ _ _ ((hW.block _ (lt_of_heap m0)).trans m0)
  clear hb4 m0 m1 m2 hs4 hz hok
  unfold fuc at hw4 HAT HFI hcf ⊢
  have HCF := Lib.hid hcf
  have hc := HCF.out w4 (Below.refl _ _)
  clear hcf
  refine (callsIn_wide (n := 4)).1 ?_
  refine callsIn_of_wp_marks Try.func52 rfl trivial ?_ rfl
  simp only [Try.ntmps52, List.size_toArray, List.length_cons, List.length_nil, Nat.reduceAdd, Nat.reduceSub, Array.replicate_succ, Array.replicate_zero, List.push_toArray, List.append_toArray, List.nil_append, List.cons_append]
  gi_wp2_with (first
    | (refine ⟨trivial, ?_⟩
       gi_at_call 45
       refine (callsIn_wide.2 HAT.out).mono ?_
       rintro e w5 ⟨mb, rfl, hO5, hmb5, hB5⟩
       have hc6 := HCF.out (w5.alloc (.cells #[.map (some mb)] 83)) (hB5.alloc hB5.size _)
       have H5 := Lib.hid (And.intro hO5 (And.intro hmb5 hB5))
       clear hO5 hmb5 hB5 hc)
    | (refine ⟨trivial, ?_⟩
       gi_at_call 72
       refine (callsIn_wide.2 (HFI.out _)).mono ?_
       rintro e w7 ⟨rfl, hw7⟩
       have H7 := Lib.hid hw7
       clear hw7 hc6))
  have hs4 := H4.out.2.2.2.2
  have hs5 := H5.out.2.2.size
  have hsw : w7.heap.size = w5.heap.size + 2 := by rw [H7.out]; simp
  have hg5 : Below w5.heap.size w5 w7 := by rw [H7.out]; exact ((Below.refl _ _).alloc (Nat.le_refl _) _).alloc (by simp) _
  have hbb : w7.heap[w5.heap.size + 1]? = some (.cells (fuc f).toArray 28 (0, 0)) := by rw [H7.out]; exact alloc2_at1 _ _ _
  have hb6 : w7.heap[w5.heap.size]? = some (.cells #[.map (some mb)] 83 (0, 0)) := by rw [H7.out]; exact alloc2_at0 _ _ _
  have hg7 : Below w4.heap.size w4 w7 := H5.out.2.2.trans (hg5.mono H5.out.2.2.size)
  have hO7 := H5.out.1.block (hg5.block _ H5.out.1.lt)
  have hmb := H5.out.1.lt
  have hbox : Boxed w7 (w.heap.size + 1 + 1) 52 (.slice none 0 0) := (hg7.block _ (by omega)).trans H4.out.2.2.2.1
  have hno := (hg7.block (w.heap.size + 1) (by omega)).trans H4.out.2.2.1
  have hseq := fingerings_stops f hl (4 - 1) 0 (w5.heap.size + 1) (by omega) w7 (by omega) hbb
  have hN8 : 2 ^ f.hs.length ≤ 256 := Nat.pow_le_pow_right (n := 2) (by omega) hl
  refine wpIn_rangeFunc_ownF rfl (by omega) (gf := 90) (lb := #[.pointer (some ⟨w5.heap.size + 1, 0, none⟩)]) rfl trivial (enters_of Try.func90 (by kernel_rfl) rfl) hseq
    (fun h k => h.trans k)
    (fun W l o o' hl' _ _ _ => ⟨fun j hj => absurd hj (Nat.not_lt_zero _), World.putObj_heap_other (by omega)⟩) (Below.refl _ _) (fun _ => rfl)
    (fun (pre : List (Fi f.hs.length)) A => (∃ v, Boxed A (w.heap.size + 1 + 1) 52 v ∧ A.ownsRow w.heap.size 5 1 v (fingZ f (o0, o1) (pre.map (·.1))).length (u8s (fingZ f (o0, o1) (pre.map (·.1)))) ∧ True) ∧
      (OwnT A mb (2 ^ f.hs.length) (tabF f (List.range (2 ^ f.hs.length))) ∧ (A.heap[w5.heap.size]? = some (.cells #[.map (some mb)] 83 (0, 0))) ∧ (A.heap[w.heap.size + 1]? = some (.cells #[.int .i64 o0, .int .i64 o1] 25 (0, 0))) ∧
        (A.heap[w5.heap.size + 1]? = some (.cells (fuc f).toArray 28 (0, 0))) ∧ Below w.heap.size w7 A))
    (fun _ _ _ => False)
    (OwnFrom.and (Own.from (holdsRow_own w.heap.size (w.heap.size + 1 + 1) 52 5 1 _ _ (fun _ _ => True)) _) (OwnFrom.and (ownT_from (by omega)) (OwnFrom.and (Own.from (blkF_own _ _ _) _) (OwnFrom.and (Own.from (blkF_own _ _ _) _) (OwnFrom.and (Own.from (blkF_own _ _ _) _) (ownFrom_below (by omega) (by omega)))))))
    (fun _ _ _ _ _ hs _ _ => hs)
    ⟨⟨_, hbox, World.ownsRow_nil _ _ _ _, trivial⟩, hO7, hb6, hno, hbb, Below.refl _ _⟩
    (fun p => { tmps := #[.agg #[.int .i64 f.len, .int .i64 f.e0, .int .i64 f.e1, .int .i64 f.c0, .int .i64 f.c1, .int .i64 f.s0, .int .i64 f.s1, .slice f.A f.hs.length f.cap], .agg #[.int .i64 o0, .int .i64 o1], .pointer (some ⟨w.heap.size, 0, none⟩), .pointer (some ⟨w.heap.size + 1, 0, none⟩), .slice none 0 0, .pointer (some ⟨w.heap.size + 1 + 1, 0, none⟩), .pointer (some ⟨w5.heap.size, 0, none⟩), .int .u8 (p.1 : Int),
      .agg #[.int .i64 f.len, .int .i64 f.e0, .int .i64 f.e1, .int .i64 f.c0, .int .i64 f.c1, .int .i64 f.s0, .int .i64 f.s1, .slice f.A f.hs.length f.cap], .map (some mb), .agg #[.int .i64 f.len, .int .i64 f.e0, .int .i64 f.e1, .int .i64 f.c0, .int .i64 f.c1, .int .i64 f.s0, .int .i64 f.s1, .slice f.A f.hs.length f.cap], .func (.func 90) #[] #[.pointer (some ⟨w5.heap.size + 1, 0, none⟩)], .int .u8 (p.1 : Int), undef, undef, undef, undef, undef, undef, undef, undef, undef, undef], defers := [] }) ?assign ?body ?done ?stop
  case assign =>
    intro l' p W K hK
    have hKK := Lib.hid hK
    clear hK
    simp only [encF]
    clear hs4 hs5 hsw hg5 hbb hb6 hg7 hO7 hmb hbox hno hseq hN8 hw4
    gi_wp2_with fail
    exact hKK.out
  case body =>
    rintro l' pre p W ⟨⟨v, hv, hrow, -⟩, hO, hi6, hi3, hib, hbe⟩ hlt'
    have hp8 : p.1 < 256 := Nat.lt_of_lt_of_le p.2 (Nat.pow_le_pow_right (n := 2) (by omega) hl)
    have hsn := fingZ_snoc f (o0, o1) (pre.map (·.1)) p.1
    have hln := fingZ_len f (o0, o1) (pre.map (·.1))
    rw [List.length_map] at hln
    have htab : (tabF f (List.range (2 ^ f.hs.length)) p.1).getD (0, 0) = tonF f p.1 := by simp [tabF, List.mem_range.2 p.2]
    have hpm : (pre ++ [p]).map (·.1) = pre.map (·.1) ++ [p.1] := by simp
    generalize fingZ f (o0, o1) (pre.map (·.1)) = M at hrow hsn hln
    have hM8 : M.length ≤ 256 := by omega
    have HIN := Lib.hid (fun W => inside_any o0 o1 (tonF f p.1).1 (tonF f p.1).2 W)
    have HT := Lib.hid htab
    have HPM := Lib.hid hpm
    have hvc := hv.cell
    have hc6 := cell_of_row W w5.heap.size 0 _ _ _ hi6
    have hc3 := fun i => cell_of_row W (w.heap.size + 1) i _ _ _ hi3
    have hsW := hbe.size
    have hneq : w.heap.size + 1 + 1 ≠ mb ∧ w.heap.size + 3 ≤ w5.heap.size ∧ w.heap.size + 1 + 1 < W.heap.size ∧ w5.heap.size + 1 < W.heap.size ∧ w.heap.size + 3 ≤ mb := by have := H5.out.2.1; omega
    have HI := Lib.hid (And.intro hv (And.intro hrow (And.intro hO (And.intro hi6 (And.intro hi3 (And.intro hib (And.intro hbe hneq)))))))
    have HP8 := Lib.hid hp8
    have HSN := Lib.hid hsn
    clear hv hrow hO hi6 hi3 hib hbe hneq hs4 hs5 hsw hg5 hbb hb6 hg7 hO7 hmb hbox hno hseq hN8 hw4 hp8 hsn hln htab hpm hsW hlt'
    cases hin : insB (o0, o1) (tonF f p.1)
    · have HN := Lib.hid hin
      clear hin
      gi_wp2_with (first
        | (show wpListIn _ _ _ _ _ (Oper.mk (some 16) _ _ _ _ _ :: _) _ _
           refine wpListIn_lookU rfl (.tmp 14) (.tmp 15) rfl rfl HI.out.2.2.1 HP8.out rfl ?_
           rw [HT.out]
           unfold spV)
        | (refine ⟨trivial, ?_⟩
           gi_at_call 78
           refine ((callsIn_wide.2 (HIN.out W)).inRound l').mono ?_
           rintro e w8 ⟨rfl, hB8⟩
           rw [HN.out]
           have H8 := Lib.hid hB8
           clear hB8))
      have hb8 := H8.out
      rw [HN.out, if_neg (by simp), List.append_nil] at HSN
      have hk8 := fun k (hk : k < W.heap.size) => hb8.block k hk
      refine ⟨⟨hb8.size, fun k o hk _ => (hb8.block k (lt_of_heap hk)).trans hk⟩, ⟨fun j hj => absurd hj (Nat.not_lt_zero _), hk8 _ (lt_of_heap HI.out.2.2.2.2.2.1)⟩, ⟨v, (hk8 _ (lt_of_heap HI.out.1)).trans HI.out.1, ?_, trivial⟩,
        HI.out.2.2.1.block (hk8 _ HI.out.2.2.1.lt), (hk8 _ (lt_of_heap HI.out.2.2.2.1)).trans HI.out.2.2.2.1, (hk8 _ (lt_of_heap HI.out.2.2.2.2.1)).trans HI.out.2.2.2.2.1, (hk8 _ (lt_of_heap HI.out.2.2.2.2.2.1)).trans HI.out.2.2.2.2.2.1, HI.out.2.2.2.2.2.2.1.trans (hb8.mono (by have := HI.out.2.2.2.2.2.2.2.2.2.1; omega))⟩
      rw [HPM.out, HSN.out]
      exact own_grows HI.out.2.1 hb8
    · have HN := Lib.hid hin
      clear hin
      obtain ⟨i0, hi, hz0, hz1, hz2⟩ := info_parts infoU8
      have HF := Lib.hid (And.intro hi (And.intro hz0 (And.intro hz1 hz2)))
      clear hi hz0 hz1 hz2
      gi_wp2_with (first
        | (show wpListIn _ _ _ _ _ (Oper.mk (some 16) _ _ _ _ _ :: _) _ _
           refine wpListIn_lookU rfl (.tmp 14) (.tmp 15) rfl rfl HI.out.2.2.1 HP8.out rfl ?_
           rw [HT.out]
           unfold spV)
        | (refine ⟨trivial, ?_⟩
           gi_at_call 78
           refine ((callsIn_wide.2 (HIN.out W)).inRound l').mono ?_
           rintro e w8 ⟨rfl, hB8⟩
           rw [HN.out]
           have hv8 : Boxed w8 (w.heap.size + 1 + 1) 52 v := (hB8.block _ (lt_of_heap HI.out.1)).trans HI.out.1
           have hvc8 := hv8.cell
           have hs8 := hB8.size
           have hww : w.heap.size ≤ w8.heap.size := by have := HI.out.2.2.2.2.2.2.2.2.2.1; omega
           have H8 := Lib.hid (And.intro hB8 (And.intro hv8 (own_grows HI.out.2.1 hB8)))
           clear hB8 hv8 hvc)
        | (gi_at_builtin
           refine wpListIn_append_own _ rfl (.tmp 18) (.tmp 20) 52 rfl w.heap.size 5 i0 _ 1 1 Try.underlying52 HF.out.1 HF.out.2.1 HF.out.2.2.1 HF.out.2.2.2 rfl (by decide) v M.length (u8s M) rfl (H8.out.2.2.alloc _)
             ⟨w8.heap.size, 0, none⟩ 1 1 [.int .u8 (p.1 : Int)] rfl rfl (cell_one_newF _ _ _) (by simp [Value.oneCell']) (by simp only [maxLen]; omega) (by omega) (by simp; omega) ?_
           intro v2 w9 hown' hgrow _
           obtain ⟨g', cap', rfl⟩ := ownsRow_succ hown'
           obtain ⟨hv1, hv2, hr2, hk2, hb2⟩ := H8.out.2.1.appended (n₀ := w.heap.size) (by decide) H8.out.2.2 hww (by omega) hown' hgrow
           have hc1 := hv1.cell
           have hf1 := hv1.frozen
           have H9 := Lib.hid (And.intro hv2 (And.intro hr2 (And.intro hk2 (And.intro hb2 hgrow))))
           clear hv1 hv2 hr2 hk2 hb2 hown' hgrow))
      have hb8 := H8.out.1
      rw [HN.out, if_pos rfl] at HSN
      have hk8 := fun k (hk : k < W.heap.size) => hb8.block k hk
      obtain ⟨n1, n2, n3, n4, n5⟩ := HI.out.2.2.2.2.2.2.2
      have k6 := app_keepsF H8.out.2.2 H9.out.2.2.2.2 ((hk8 _ (lt_of_heap HI.out.2.2.2.1)).trans HI.out.2.2.2.1) (fun cur h => by simp at h) (B := w.heap.size + 1 + 1) (u := .slice (some ⟨g', 0, none⟩) (M.length + 1) cap') (by omega)
      have k3 := app_keepsF H8.out.2.2 H9.out.2.2.2.2 ((hk8 _ (lt_of_heap HI.out.2.2.2.2.1)).trans HI.out.2.2.2.2.1) (fun cur h => by simp at h) (B := w.heap.size + 1 + 1) (u := .slice (some ⟨g', 0, none⟩) (M.length + 1) cap') (by omega)
      have kb := app_keepsF H8.out.2.2 H9.out.2.2.2.2 ((hk8 _ (lt_of_heap HI.out.2.2.2.2.2.1)).trans HI.out.2.2.2.2.2.1) (fun cur h => by simp [fuc] at h) (B := w.heap.size + 1 + 1) (u := .slice (some ⟨g', 0, none⟩) (M.length + 1) cap') (by omega)
      have kO := app_keepsT H8.out.2.2 H9.out.2.2.2.2 (HI.out.2.2.1.block (hk8 _ HI.out.2.2.1.lt)) (B := w.heap.size + 1 + 1) (u := .slice (some ⟨g', 0, none⟩) (M.length + 1) cap') (by omega)
      refine ⟨KeepsOthers.trans ⟨hb8.size, fun k o hk _ => (hb8.block k (lt_of_heap hk)).trans hk⟩ H9.out.2.2.1, ⟨fun j hj => absurd hj (Nat.not_lt_zero _), kb.trans HI.out.2.2.2.2.2.1.symm⟩, ⟨_, H9.out.1, ?_, trivial⟩,
        kO, k6, k3, kb, HI.out.2.2.2.2.2.2.1.trans ((hb8.mono (by omega)).trans H9.out.2.2.2.1)⟩
      rw [HPM.out, HSN.out, List.length_append]
      have e2 : u8s (M ++ [(p.1 : Int)]) = u8s M ++ [.int .u8 (p.1 : Int)] := by simp [u8s]
      rw [e2]
      exact H9.out.2.1
  case done =>
    rintro D xs W hD hxs ⟨⟨v, hv, hrow, -⟩, hO, hi6, hi3, hib, hbe⟩ hDd
    have hvc := hv.cell
    rw [hxs] at hrow
    have hvD : W.heap[D]? = some (.deferred (some [])) := hDd
    have HH := Lib.hid (And.intro hrow (And.intro (H4.out.1.trans ((hg7.mono (by omega)).trans hbe)) (And.intro hDd (show w.heap.size ≤ D by omega))))
    clear hs4 hs5 hsw hg5 hbb hb6 hg7 hO7 hmb hbox hno hseq hN8 hw4 hrow hO hi6 hi3 hib hbe hDd hvD hxs
    gi_wp2_with fail
    refine ⟨by simp, .inl ⟨_, _, rfl, run_takeDeferred HH.out.2.2.1, ?_⟩⟩
    refine ⟨v, by simp [results, Try.results52, go_sem], v, rfl, ownsRow_putObj HH.out.1 (.deferred none) HH.out.2.2.1 rfl, below_putObj HH.out.2.1 (r := D) HH.out.2.2.2 (.deferred none)⟩
  case stop =>
    rintro D c' pre W _ _ h _
    exact h.elim

end Go.Proofs.Ythjpgpelbagceaa
