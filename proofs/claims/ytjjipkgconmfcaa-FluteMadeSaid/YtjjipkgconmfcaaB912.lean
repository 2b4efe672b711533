/-
  Texts laid together: FuK, FuU, FuV.
-/
import Derived.RangeFuncWrites
import Derived.RangeFuncFrom
import Derived.RangeFuncBox
import Derived.Test.YtjjipkgconmfcaaB911
import Derived.Test.YtjjipkgconmfcaaB92
import Derived.Test.YtjjipkgconmfcaaB98
set_option linter.all false
namespace Go.Proofs.Ytjjipkgconmfcaa
open Go.RowKit Go.Shelf Go.Maps
open R6 (done done_ne done_me upd_ne upd_me)

attribute [local go_sem] gives Oper.semAt_some

def tabF (f : Fu) (l : List Nat) : Nat → Option (Int × Int) := fun n => if n ∈ l then some (tonF f n) else none
theorem tabF_snoc (f : Fu) (l : List Nat) (p : Nat) : updU (tabF f l) p (tonF f p) = tabF f (l ++ [p]) := by
  funext n
  unfold updU tabF
  by_cases e : n = p
  · subst e; simp
  · simp [e]
/-- What lies while tones are written down. -/
structure TonI (f : Fu) (w w7 : World) (mb t3 t1 b : Nat) (pre : List (Fi f.hs.length)) (A : World) : Prop where
  own : OwnT A mb pre.length (tabF f (pre.map (·.1)))
  b3 : A.heap[t3]? = some (.cells #[.map (some mb)] 83 (0, 0))
  b1 : A.heap[t1]? = some (.cells (fuc f).toArray 28 (0, 0))
  bb : A.heap[b]? = some (.cells (fuc f).toArray 28 (0, 0))
  bel : Below w.heap.size w A
  sz : w7.heap.size ≤ A.heap.size
theorem TonI.from {f : Fu} {w w7 : World} {mb t3 t1 b : Nat} (hm : mb < w7.heap.size) (h3 : t3 < w7.heap.size) (h1 : t1 < w7.heap.size) (hb : b < w7.heap.size) (hw : w.heap.size ≤ w7.heap.size) : OwnFrom w7.heap.size (TonI f w w7 mb t3 t1 b) := by
  intro pre W W' row h hg hr
  have hk : ∀ k, k < w7.heap.size → W'.heap[k]? = W.heap[k]? := fun k hk => hg.block k (Nat.lt_of_lt_of_le hk h.sz) (fun e => by have := (hr k e.symm).1; omega)
  exact ⟨h.own.block (hk _ hm), (hk _ h3).trans h.b3, (hk _ h1).trans h.b1, (hk _ hb).trans h.bb, h.bel.grown hg h.bel.size (fun k e => by have := (hr k e).1; omega), Nat.le_trans h.sz hg.size⟩

/-- The air of a tube by what sounding gives. -/
def souV (f : Fu) (n : Nat) (v : Value) (W : World) : Prop :=
  (n = 0 ∧ v = .iface 115 (.agg #[.int .i64 f.len, .int .i64 f.e0, .int .i64 f.e1])) ∨
  (n ≠ 0 ∧ souK (f.c0, f.c1) (f.hs[tz8 n]?.getD ⟨0, 0, 0⟩) (cloF n (tz8 n) (f.hs.length - tz8 n - 1)) 3 v W)
theorem sounding_any (f : Fu) (n : Nat) (hn : n < 2 ^ f.hs.length) (hl : f.hs.length ≤ 8) (B : Nat) (w : World) (hB : B ≤ w.heap.size) (hz : FuAt w B f) :
    Calls Try.prog 47 #[.agg (fuc f).toArray, .int .u8 (n : Int)] w fun e w' => (∃ v, e = .returned v ∧ souV f n v w') ∧ Below w.heap.size w w' := by
  by_cases h0 : n = 0
  · subst h0
    exact (sounding_zero f w).mono fun e w' ⟨he, hb⟩ => ⟨⟨_, he, .inl ⟨rfl, rfl⟩⟩, hb⟩
  · exact (sounding_some f n h0 hn hl B w hB hz).mono fun e w' ⟨⟨v, he, hk⟩, hb⟩ => ⟨⟨v, he, .inr ⟨h0, hk⟩⟩, hb⟩
theorem souV_grows {f : Fu} {n : Nat} {v : Value} {W W' : World} (hg : Grows W W') (h : souV f n v W) : souV f n v W' := by
  rcases h with h | ⟨h0, h⟩
  · exact .inl h
  · exact .inr ⟨h0, souK_stab _ _ _ _ _ _ _ hg h⟩
theorem wpIn_inRound (l : Nat) {P : Program} {o : Oper} {a : Act} {w : World} {K : Act → World → Prop} {Q : Exit → Act → World → Prop} {n : Nat} (hnd : ∀ c, o.op ≠ .defer c) (h : o.wpIn Fence.wide n P a w K Q) : o.wpIn (Fence.wide.inRound l) n P a w K Q := by
  refine ⟨fun _ _ => trivial, ?_⟩
  have h2 := h.2
  rw [Oper.semAt_plain _ _ _ hnd] at h2 ⊢
  exact h2
theorem givesF_round (l : Nat) {P : Program} {o : Oper} {a : Act} {w : World} {R : Value → World → Prop} {m : Nat} (hnd : ∀ c, o.op ≠ .defer c) (h : gives P o a w R) : R7.givesF (Fence.wide.inRound l) m P o a w R :=
  fun _ _ _ hev hK => wpIn_inRound l hnd (R7.wpIn_of_wp0 m hnd (h.wp hev hK))
def souKp (f : Fu) (n : Nat) : Nat → Value → World → Prop := fun _ v W => souV f n v W
theorem souKp_stab (f : Fu) (n : Nat) : Stab (souKp f n) := fun _ _ _ _ hg h => souV_grows hg h

theorem openAir_of (f : Fu) (hok : okFu f = true) (n : Nat) (hn : n < 2 ^ f.hs.length) (h0 : n ≠ 0) (W : World) (b : Nat) (hm : W.heap[b]? = some (.cells (pairs (List.replicate (cloF n (tz8 n) (f.hs.length - tz8 n - 1)) (f.c0, f.c1))).toArray 25 (0, 0))) :
    Calls Try.prog 116 #[.agg #[.int .i64 (f.hs[tz8 n]?.getD ⟨0, 0, 0⟩).a, .int .i64 (f.hs[tz8 n]?.getD ⟨0, 0, 0⟩).lo, .int .i64 (f.hs[tz8 n]?.getD ⟨0, 0, 0⟩).hi, .slice (some ⟨b, 0, none⟩) (cloF n (tz8 n) (f.hs.length - tz8 n - 1)) (cloF n (tz8 n) (f.hs.length - tz8 n - 1))]] W
      fun e w' => e = .returned (.agg #[.int .i64 ((f.hs[tz8 n]?.getD ⟨0, 0, 0⟩).a + (f.hs[tz8 n]?.getD ⟨0, 0, 0⟩).lo + cloF n (tz8 n) (f.hs.length - tz8 n - 1) * f.c0), .int .i64 ((f.hs[tz8 n]?.getD ⟨0, 0, 0⟩).a + (f.hs[tz8 n]?.getD ⟨0, 0, 0⟩).hi + cloF n (tz8 n) (f.hs.length - tz8 n - 1) * f.c1)]) ∧ Below W.heap.size W w' := by
  obtain ⟨h1, h2, h3, h4, h5, h6⟩ := okFu_bnd hok
  have hn8 : n < 256 := Nat.lt_of_lt_of_le hn (Nat.pow_le_pow_right (n := 2) (by omega) h5)
  have hi := tz8_lt hn8 h0 hn
  have e : f.hs[tz8 n]?.getD ⟨0, 0, 0⟩ = f.hs[tz8 n] := by simp [hi]
  have hx := h6 _ (List.getElem_mem hi)
  exact openAir_any _ f.c0 f.c1 _ (Nat.le_trans (Nat.min_le_right _ _) (by omega)) (by rw [e]; omega) (by rw [e]; omega) (by rw [e]; omega) (by omega) (by omega) (some ⟨b, 0, none⟩) _ W.heap.size W (Nat.le_refl _) (vals_in hm (lt_of_heap hm) at0)
theorem method_closed (a b c : Int) (w : World) : (method 256 115 (.agg #[.int .i64 a, .int .i64 b, .int .i64 c]) "canebrake/flute.air").run Try.prog w = .ok (113, .agg #[.int .i64 a, .int .i64 b, .int .i64 c]) w := by kernel_rfl
theorem method_open (a b c : Int) (v : Value) (w : World) : (method 256 119 (.agg #[.int .i64 a, .int .i64 b, .int .i64 c, v]) "canebrake/flute.air").run Try.prog w = .ok (116, .agg #[.int .i64 a, .int .i64 b, .int .i64 c, v]) w := by kernel_rfl

def TonPost (w : World) (f : Fu) (e : Ending) (w' : World) : Prop := ∃ mb, e = .returned (.map (some mb)) ∧ OwnT w' mb (2 ^ f.hs.length) (tabF f (List.range (2 ^ f.hs.length))) ∧ w.heap.size ≤ mb ∧ Below w.heap.size w w'

set_option maxRecDepth 100000 in
set_option maxHeartbeats 8000000 in
theorem allTones_any (f : Fu) (hok : okFu f = true) (B : Nat) (w : World) (hB : B ≤ w.heap.size) (hz : FuAt w B f) :
    Calls Try.prog 45 #[.agg (fuc f).toArray] w (TonPost w f) := by
  have hl := (okFu_bnd hok).2.2.2.2.1
  have HZ := Lib.hid hz
  have HOK := Lib.hid hok
  clear hz hok
  refine (callsIn_wide (n := 4)).1 ?_
  refine callsIn_of_wp_marks Try.func45 rfl trivial ?_ rfl
  simp only [Try.ntmps45, List.size_toArray, List.length_cons, List.length_nil, Nat.reduceAdd, Nat.reduceSub, Array.replicate_succ, Array.replicate_zero, List.push_toArray, List.append_toArray, List.nil_append, List.cons_append]
  have hmm := @run_makeMap Try.prog
  have hfi := fun W => fingerings_any (fuc f) W
  obtain ⟨w4, hw4⟩ : ∃ w4, ((w.alloc (.cells (fuc f).toArray 28)).alloc (.map #[] 0)).alloc (.cells #[.map (some (w.heap.size + 1))] 83) = w4 := ⟨_, rfl⟩
  have hb4 : Below w.heap.size w w4 := by rw [← hw4]; exact (((Below.refl _ _).alloc (Nat.le_refl _) _).alloc (by simp) _).alloc (by simp; omega) _
  have m0 : w4.heap[w.heap.size]? = some (.cells (fuc f).toArray 28 (0, 0)) := by rw [← hw4]; exact alloc3_at0 _ _ _ _
  have m1 : OwnT w4 (w.heap.size + 1) 0 (tabF f []) := by
    rw [← hw4]
    have h := OwnT.made (w.alloc (.cells (fuc f).toArray 28))
    simp only [World.size_alloc] at h
    refine OwnT.block (F := tabF f []) ?_ (Below.heap_alloc _ _ _ (by simp))
    exact h
  have m2 : w4.heap[w.heap.size + 1 + 1]? = some (.cells #[.map (some (w.heap.size + 1))] 83 (0, 0)) := by rw [← hw4]; exact alloc3_at2 _ _ _ _
  have H4 := Lib.hid (And.intro hb4 (And.intro m0 (And.intro m1 m2)))
  clear hb4 m0 m1 m2
  have HFI := Lib.hid hfi
  clear hfi
  have hc4 := fun i => cell_of_row w4 w.heap.size i _ _ _ H4.out.2.1
  unfold fuc at hw4 HFI hc4 ⊢
  gi_wp2_with (refine ⟨trivial, ?_⟩
               gi_at_call 72
               refine (callsIn_wide.2 (HFI.out _)).mono ?_
               rintro e w7 ⟨rfl, hw7⟩
               have H7 := Lib.hid hw7
               clear hw7 hc4)
  have hs4 : w4.heap.size = w.heap.size + 3 := by rw [← hw4]; simp
  have hs7 : w7.heap.size = w4.heap.size + 1 := by rw [H7.out]; simp
  have hg7 : Below w4.heap.size w4 w7 := by rw [H7.out]; exact grow1 _ _
  have hbb : w7.heap[w4.heap.size]? = some (.cells (fuc f).toArray 28 (0, 0)) := by rw [H7.out]; exact alloc_at0 _ _
  have hI0 : TonI f w w7 (w.heap.size + 1) (w.heap.size + 1 + 1) w.heap.size w4.heap.size [] w7 := ⟨H4.out.2.2.1.block (hg7.block _ (by omega)), (hg7.block _ (by omega)).trans H4.out.2.2.2, (hg7.block _ (by omega)).trans H4.out.2.1, hbb, H4.out.1.trans (hg7.mono (by omega)), Nat.le_refl _⟩
  have hseq := fingerings_stops f hl (4 - 1) 0 w4.heap.size (by omega) w7 (by omega) hbb
  refine wpIn_rangeFunc_ownG rfl (by omega) (gf := 90) (lb := #[.pointer (some ⟨w4.heap.size, 0, none⟩)]) rfl trivial (enters_of Try.func90 (by kernel_rfl) rfl) hseq
    (fun h k => h.trans k)
    (fun W l o o' hl' _ _ _ => ⟨fun j hj => absurd hj (Nat.not_lt_zero _), World.putObj_heap_other (by omega)⟩) (Below.refl _ _) (fun _ => rfl)
    (TonI f w w7 (w.heap.size + 1) (w.heap.size + 1 + 1) w.heap.size w4.heap.size)
    (fun _ _ _ => False)
    (TonI.from (by omega) (by omega) (by omega) (by omega) (by omega))
    (fun _ _ _ _ _ hs _ _ => hs)
    hI0
    (fun p => { tmps := #[.agg #[.int .i64 f.len, .int .i64 f.e0, .int .i64 f.e1, .int .i64 f.c0, .int .i64 f.c1, .int .i64 f.s0, .int .i64 f.s1, .slice f.A f.hs.length f.cap], .pointer (some ⟨w.heap.size, 0, none⟩), .map none, .pointer (some ⟨w.heap.size + 1 + 1, 0, none⟩), .int .u8 (p.1 : Int), .map (some (w.heap.size + 1)),
      .agg #[.int .i64 f.len, .int .i64 f.e0, .int .i64 f.e1, .int .i64 f.c0, .int .i64 f.c1, .int .i64 f.s0, .int .i64 f.s1, .slice f.A f.hs.length f.cap], .func (.func 90) #[] #[.pointer (some ⟨w4.heap.size, 0, none⟩)], .int .u8 (p.1 : Int), undef, undef, undef, undef, undef, undef, undef, undef, undef, undef], defers := [] }) ?assign ?body ?done ?stop
  case assign =>
    intro l' p W K hK
    have hKK := Lib.hid hK
    clear hK
    simp only [encF]
    clear hbb hI0 hseq hs4 hs7 hg7 hw4
    gi_wp2_with fail
    exact hKK.out
  case body =>
    rintro l' pre p W hI hlt'
    clear hbb hI0 hseq hw4
    have hp8 : p.1 < 256 := Nat.lt_of_lt_of_le p.2 (Nat.pow_le_pow_right (n := 2) (by omega) hl)
    have hpz : (p.1 : Int) ≤ 255 := by omega
    have hsn := tabF_snoc f (pre.map (·.1)) p.1
    have HSN := Lib.hid hsn
    have HI := Lib.hid hI
    have hb1 := hI.b1
    have HP8 := Lib.hid (And.intro hp8 p.2)
    have hzW : ∀ W1, Below W.heap.size W W1 → FuAt W1 B f := fun W1 hW1 => (HZ.out.below (hI.bel.mono hB)).below (hW1.mono (Nat.le_trans hB hI.bel.size))
    have HS := Lib.hid (fun W1 hW1 => sounding_any f p.1 p.2 hl B W1 (Nat.le_trans hB (Nat.le_trans hI.bel.size (Below.size hW1))) (hzW W1 hW1))
    have hsW := hI.sz
    have hsB := hI.bel.size
    have hbnd := okFu_bnd HOK.out
    have hab := airF_bnd HOK.out p.2
    have HCA := Lib.hid (fun W1 => closedAir_any f.len f.e0 f.e1 (by omega) (by omega) (by omega) W1)
    have hoa := fun (h0 : p.1 ≠ 0) (W1 : World) (b : Nat) hm => openAir_of f HOK.out p.1 p.2 h0 W1 b hm
    have HOA := Lib.hid hoa
    have hton := fun W1 => tones_any (airF f p.1) (f.s0, f.s1) (by omega) (by dsimp only; omega) W1
    have HTO := Lib.hid hton
    have HSZ := Lib.hid (And.intro hs4 (And.intro hs7 (show pre.length ≤ 256 from Nat.le_of_lt (Nat.lt_of_lt_of_le hlt' (Nat.pow_le_pow_right (n := 2) (by omega) hl)))))
    clear hsn hI hzW hbnd hab hoa hton hs4 hs7
    unfold fuc at HS hb1
    gi_wp2_with fail
    refine R7.wpIn_walk (fun _ => trivial) (C := PhC 9 (ResF W [(w.heap.size + 1 + 1, .cells #[.map (some (w.heap.size + 1))] 83 (0, 0)), (w.heap.size, .cells (fuc f).toArray 28 (0, 0))] (souKp f p.1) [(4, 13, 0)]) (fun W9 => KeepsFrom w7.heap.size W W9 ∧ KpF 0 w4.heap.size W W9 ∧ TonI f w w7 (w.heap.size + 1) (w.heap.size + 1 + 1) w.heap.size w4.heap.size (pre ++ [p]) W9)) 19 (by kernel_rfl) (by kernel_rfl) rfl (PhC.start rfl (ResF.start (Below.refl _ _) ⟨HI.out.b3, HI.out.b1, trivial⟩ (fun _ => rfl))) ?_
    simp only []
    iterate 4
      (refine' R7.WalkR.det (fun _ => rfl) (fun D ρ W1 hK hC => givesF_round l' (fun c h => by cases h) ?_) ?_
       rotate_left
       · have h0 := hK.post 9 (by first | decide +kernel | (dsimp only; decide +kernel))
         have hC := hC.pre h0
         have f0 := fun i => cell_of_row W1 w.heap.size i _ _ _ hC.keep.2.1
         unfold fuc at f0
         have f1 := fun i => cell_of_row W1 (w.heap.size + 1 + 1) i _ _ _ hC.keep.1
         have HC := Lib.hid (And.intro h0 hC)
         clear hC hK h0
         go_simp
         with_reducible exact ⟨rfl, PhC.step rfl HC.out.1 (HC.out.2.move (by decide))⟩
       simp only [Act.put, List.setIfInBounds_toArray, List.set_cons_succ, List.set_cons_zero])
    refine' R7.WalkR.nd (fun _ => rfl) rfl (fun D ρ W1 hK hC => givesF_round l' (fun c h => by cases h) ?_) ?_
    · have h0 := hK.post 9 (by first | decide +kernel | (dsimp only; decide +kernel))
      have hC := hC.pre h0
      have HC := Lib.hid (And.intro h0 hC)
      clear hC hK h0
      go_simp
      go_at_call 47
      refine (HS.out W1 HC.out.2.bel).mono ?_
      rintro e W2 ⟨⟨v, rfl, hv⟩, hB2⟩
      exact ⟨v, rfl, PhC.step rfl HC.out.1 (HC.out.2.made (c := 0) (souKp_stab _ _) hB2 (by decide) hv)⟩
    simp only [Act.put, List.setIfInBounds_toArray, List.set_cons_succ, List.set_cons_zero]
    refine' R7.WalkR.det (c := .agg #[.int .i64 (airF f p.1).1, .int .i64 (airF f p.1).2]) (fun _ => rfl) (fun D ρ W1 hK hC => givesF_round l' (fun c h => by cases h) ?_) ?_
    · have h0 := hK.post 9 (by first | decide +kernel | (dsimp only; decide +kernel))
      have hC := hC.pre h0
      have hv := hC.get (k := 4) (d := 13) (c := 0) (by simp) (hK.pre 4 (by first | decide +kernel | (dsimp only; decide +kernel)))
      have HC := Lib.hid (And.intro h0 hC)
      clear hC hK h0
      rcases hv with ⟨hp0, hv⟩ | ⟨hp0, b, hv, hm⟩
      · have hmt := method_closed f.len f.e0 f.e1
        have HP0 := Lib.hid hp0
        have hair : airF f p.1 = (f.len + f.e0, f.len + f.e1) := by simp only [airF, if_pos HP0.out]
        rw [hair]
        clear hp0 hair
        go_simp
        go_at_call 113
        refine (HCA.out W1).mono ?_
        rintro e W2 ⟨rfl, hB2⟩
        exact ⟨_, rfl, rfl, PhC.step rfl HC.out.1 (HC.out.2.next (souKp_stab _ _) hB2 (by decide))⟩
      · have hmt := method_open (f.hs[tz8 p.1]?.getD ⟨0, 0, 0⟩).a (f.hs[tz8 p.1]?.getD ⟨0, 0, 0⟩).lo (f.hs[tz8 p.1]?.getD ⟨0, 0, 0⟩).hi
        have hair : airF f p.1 = ((f.hs[tz8 p.1]?.getD ⟨0, 0, 0⟩).a + (f.hs[tz8 p.1]?.getD ⟨0, 0, 0⟩).lo + cloF p.1 (tz8 p.1) (f.hs.length - tz8 p.1 - 1) * f.c0, (f.hs[tz8 p.1]?.getD ⟨0, 0, 0⟩).a + (f.hs[tz8 p.1]?.getD ⟨0, 0, 0⟩).hi + cloF p.1 (tz8 p.1) (f.hs.length - tz8 p.1 - 1) * f.c1) := by simp only [airF, if_neg hp0]
        rw [hair]
        have hoa := HOA.out hp0 W1 b hm
        clear hp0 hair hm
        generalize cloF p.1 (tz8 p.1) (f.hs.length - tz8 p.1 - 1) = q at hv hoa ⊢
        generalize f.hs[tz8 p.1]?.getD ⟨0, 0, 0⟩ = h at hv hoa hmt ⊢
        have HOA1 := Lib.hid hoa
        clear hoa
        go_simp
        go_at_call 116
        refine HOA1.out.mono ?_
        rintro e W2 ⟨rfl, hB2⟩
        exact ⟨_, rfl, rfl, PhC.step rfl HC.out.1 (HC.out.2.next (souKp_stab _ _) hB2 (by decide))⟩
    simp only [Act.put, List.setIfInBounds_toArray, List.set_cons_succ, List.set_cons_zero]
    iterate 3
      (refine' R7.WalkR.det (fun _ => rfl) (fun D ρ W1 hK hC => givesF_round l' (fun c h => by cases h) ?_) ?_
       rotate_left
       · have h0 := hK.post 9 (by first | decide +kernel | (dsimp only; decide +kernel))
         have hC := hC.pre h0
         have f0 := fun i => cell_of_row W1 w.heap.size i _ _ _ hC.keep.2.1
         unfold fuc at f0
         have HC := Lib.hid (And.intro h0 hC)
         clear hC hK h0
         go_simp
         first
           | with_reducible exact ⟨rfl, PhC.step rfl HC.out.1 (HC.out.2.move (by decide))⟩
           | (go_at_call 73
              refine (HTO.out W1).mono ?_
              rintro e W2 ⟨rfl, hB2⟩
              exact ⟨_, rfl, rfl, PhC.step rfl HC.out.1 (HC.out.2.next (souKp_stab _ _) hB2 (by decide))⟩)
       simp only [Act.put, List.setIfInBounds_toArray, List.set_cons_succ, List.set_cons_zero])
    refine' R7.WalkR.det (c := undef) (fun _ => rfl) (fun D ρ W1 hK hC => givesF_round l' (fun c h => by cases h) ?_) ?_
    · have h0 := hK.me
      have hC := hC.pre h0
      have hlt9 := HI.out.own.lt
      refine gives_keepU (.tmp 9) (.tmp 10) (.tmp 17) rfl rfl (HI.out.own.block (hC.bel.block _ hlt9)) (by have := HSZ.out; simp only [maxLen]; omega) HP8.out.1 rfl (s := tonF f p.1) rfl ?_
      intro W9 hO hg
      refine ⟨rfl, PhC.put ⟨?_, ?_, ?_⟩⟩
      · exact KeepsFrom.of_grownBy (row := some (w.heap.size + 1)) (grown_trans (below_grown hC.bel (Nat.le_refl _) _) hg) (fun j e => by cases e; have := HSZ.out; omega)
      · have hs := HSZ.out
        exact ⟨fun j hj => absurd hj (Nat.not_lt_zero _), (hg.block _ (Nat.lt_of_lt_of_le (lt_of_heap HI.out.bb) hC.bel.size) (by simp; omega)).trans (hC.bel.block _ (lt_of_heap HI.out.bb))⟩
      · have hs := HSZ.out
        have hkp : ∀ k, k < W.heap.size → k ≠ w.heap.size + 1 → W9.heap[k]? = W.heap[k]? := fun k hk hne => (hg.block _ (Nat.lt_of_lt_of_le hk hC.bel.size) (by simpa using hne)).trans (hC.bel.block _ hk)
        refine ⟨?_, (hkp _ (lt_of_heap HI.out.b3) (by omega)).trans HI.out.b3, (hkp _ (lt_of_heap HI.out.b1) (by omega)).trans HI.out.b1, (hkp _ (lt_of_heap HI.out.bb) (by omega)).trans HI.out.bb, ((HI.out.bel.trans (hC.bel.mono HI.out.bel.size)).grown hg (Nat.le_trans HI.out.bel.size hC.bel.size) (fun k e => by cases e; omega)), Nat.le_trans HI.out.sz (Nat.le_trans hC.bel.size hg.size)⟩
        rw [List.map_append, List.length_append]
        show OwnT W9 _ _ (tabF f (pre.map (·.1) ++ [p.1]))
        rw [← HSN.out]
        exact hO
    simp only [Act.put]
    refine R7.WalkR.nil (fun D ρ W9 hD hC => ?_)
    have hP := hC.post (hD 9 (by decide))
    clear hC hD
    gi_wp2_with fail
    exact hP
  case done =>
    rintro D xs W hD hxs hI hDd
    have hlen : xs.length = 2 ^ f.hs.length := by have := congrArg List.length hxs; simpa using this
    have hown := hI.own
    rw [hlen, hxs] at hown
    have hmD : w.heap.size + 1 ≠ D := by omega
    have hc3 := fun i => cell_of_row W (w.heap.size + 1 + 1) i _ _ _ hI.b3
    have HH := Lib.hid (And.intro hown (And.intro hI.bel (And.intro hDd (And.intro hmD (show w.heap.size ≤ D by omega)))))
    clear hbb hI0 hseq hs4 hs7 hg7 hw4 hlen hown hI hDd hmD hxs
    gi_wp2_with fail
    refine ⟨by simp, .inl ⟨_, _, rfl, run_takeDeferred HH.out.2.2.1, ?_⟩⟩
    refine ⟨.map (some (w.heap.size + 1)), by simp [results, Try.results45, go_sem], w.heap.size + 1, rfl, HH.out.1.block (World.putObj_heap_other HH.out.2.2.2.1), by omega, below_putObj HH.out.2.1 (r := D) HH.out.2.2.2.2 (.deferred none)⟩
  case stop =>
    rintro D c' pre W _ _ h _
    exact h.elim

end Go.Proofs.Ytjjipkgconmfcaa

namespace Go.Proofs.Ytjjipkgconmfcaa
open Go.RowKit Go.Maps
open R6 (done done_ne done_me upd_ne upd_me)

attribute [local go_sem] gives

def airB (b : Bk) (first : Bool) (p : Int) : Int × Int := if first = true then (p + b.e0, p + b.e1) else (p + b.f0, p + b.f1)
def tonB (b : Bk) (first : Bool) (p : Int) : Int × Int := tonA b.s0 b.s1 (airB b first p)
/-- What of a blank is not great. -/
def bndB (b : Bk) : Prop := (0 ≤ b.e0 ∧ b.e0 ≤ b.e1 ∧ b.e1 ≤ 60) ∧ (0 ≤ b.f0 ∧ b.f0 ≤ b.f1 ∧ b.f1 ≤ 60) ∧ (100000 ≤ b.s0 ∧ b.s0 ≤ b.s1 ∧ b.s1 ≤ 500000)

set_option maxRecDepth 100000 in
set_option maxHeartbeats 4000000 in
theorem dril1_any (b : Bk) (hb : bndB b) (bb pb : Nat) (A : Option Addr) (n cap : Nat) (hn : n ≤ 1000000) (p : Int) (hp : 50 ≤ p ∧ p ≤ 20000) (w : World) (hbb : w.heap[bb]? = some (.cells (bkc b).toArray 34 (0, 0))) (hpb : w.heap[pb]? = some (.cells #[.slice A n cap] 32 (0, 0))) :
    Calls Try.prog 80 #[.int .i64 p, .pointer (some ⟨bb, 0, none⟩), .pointer (some ⟨pb, 0, none⟩)] w fun e w' => e = .returned (.agg #[.int .i64 (tonB b (n == 0) p).1, .int .i64 (tonB b (n == 0) p).2]) ∧ Below w.heap.size w w' := by
  have HUP := Lib.hid (fun W => upTo9_any b A n cap hn p W)
  have hai : 50 ≤ (airB b (n == 0) p).1 ∧ (airB b (n == 0) p).1 ≤ (airB b (n == 0) p).2 ∧ (airB b (n == 0) p).2 ≤ 30000 := by
    obtain ⟨h1, h2, h3⟩ := hb
    unfold airB
    split <;> dsimp only <;> omega
  have HTO := Lib.hid (fun W => tones_any (airB b (n == 0) p) (b.s0, b.s1) hai (by have := hb.2.2; dsimp only; omega) W)
  have HCA := Lib.hid (fun W => closedAir_any p b.e0 b.e1 (by omega) (by have := hb.1; omega) (by have := hb.1; omega) W)
  have HOA := Lib.hid (fun W => openAir_any ⟨p, b.f0, b.f1⟩ 0 0 0 (by omega) (by dsimp only; omega) (by have := hb.2.1; dsimp only; omega) (by have := hb.2.1; dsimp only; omega) (by omega) (by omega) none 0 W.heap.size W (Nat.le_refl _) (fun h => absurd h (by simp [pairs])))
  have htb : tonB b (n == 0) p = tonA b.s0 b.s1 (airB b (n == 0) p) := rfl
  rw [htb]
  obtain ⟨w1, hw1⟩ : ∃ w1, w.alloc (.cells #[.int .i64 0, .int .i64 0] 25) = w1 := ⟨_, rfl⟩
  have hb1 : Below w.heap.size w w1 := by rw [← hw1]; exact grow1 _ _
  have m1 : w1.heap[w.heap.size]? = some (.cells #[.int .i64 0, .int .i64 0] 25 (0, 0)) := by rw [← hw1]; exact alloc_at0 _ _
  have mb : w1.heap[bb]? = _ := (hb1.block _ (lt_of_heap hbb)).trans hbb
  have mp : w1.heap[pb]? = _ := (hb1.block _ (lt_of_heap hpb)).trans hpb
  have hbl := lt_of_heap hbb
  have hpl := lt_of_heap hpb
  have HM := Lib.hid (And.intro hb1 (And.intro m1 (And.intro mb (And.intro mp (And.intro hbl hpl)))))
  clear hb1 m1 mb mp hbl hpl hbb hpb htb hp hai
  unfold bkc at HM HUP
  generalize (tonA b.s0 b.s1 (airB b (n == 0) p)).1 = t0 at HTO ⊢
  generalize (tonA b.s0 b.s1 (airB b (n == 0) p)).2 = t1 at HTO ⊢
  rcases Nat.eq_zero_or_pos n with hn0 | hn0
  · subst hn0
    have hua : airB b ((0 : Nat) == 0) p = (p + b.e0, p + b.e1) := rfl
    have huv : uptV b ((0 : Nat) == 0) p = .iface 115 (.agg #[.int .i64 p, .int .i64 b.e0, .int .i64 b.e1]) := rfl
    rw [huv] at HUP
    rw [hua] at HTO
    dsimp only at HTO
    clear hua huv
    go_enter Try.func80, Try.ntmps80
    go_wp2
    refine R6.wp_walk (C := OneW w1 w.heap.size (.cells #[.int .i64 0, .int .i64 0] 25 (0, 0)) (.cells #[.int .i64 t0, .int .i64 t1] 25 (0, 0)) 8) 13 (by kernel_rfl) (by kernel_rfl) rfl (OneW.start HM.out.2.1 rfl) ?_
    simp only []
    iterate 8
      (refine' R6.WalkR.det (fun _ => rfl) (fun D ρ W hK hC => ?_) ?_
       rotate_left
       · have f0 := fun i => cell_of_row W bb i _ _ _ ((hC.other (lt_of_heap HM.out.2.2.1) (Nat.ne_of_lt HM.out.2.2.2.2.1)).trans HM.out.2.2.1)
         have f1 := fun i => cell_of_row W pb i _ _ _ ((hC.other (lt_of_heap HM.out.2.2.2.1) (Nat.ne_of_lt HM.out.2.2.2.2.2)).trans HM.out.2.2.2.1)
         have HC := Lib.hid hC
         clear hC hK
         have hmt := method_closed p b.e0 b.e1
         go_simp
         first
           | with_reducible exact ⟨rfl, HC.out.move rfl⟩
           | (go_at_call 81; refine (HUP.out W).mono ?_; rintro e W1 ⟨rfl, hB1⟩; exact ⟨_, rfl, rfl, (HC.out.move rfl).next hB1⟩)
           | (go_at_call 113; refine (HCA.out W).mono ?_; rintro e W1 ⟨rfl, hB1⟩; exact ⟨_, rfl, rfl, (HC.out.move rfl).next hB1⟩)
           | (go_at_call 73; refine (HTO.out W).mono ?_; rintro e W1 ⟨rfl, hB1⟩; exact ⟨_, rfl, rfl, (HC.out.move rfl).next hB1⟩)
       simp only [Act.put, List.setIfInBounds_toArray, List.set_cons_succ, List.set_cons_zero])
    refine' R6.WalkR.det (c := undef) (fun _ => rfl) (fun D ρ W hK hC => ?_) ?_
    · have h7 := hC.no hK.me
      refine gives_store_blk 25 (.tmp 4) (.tmp 12) rfl rfl (cs := [.int .i64 t0, .int .i64 t1]) (L := [.int .i64 0, .int .i64 0]) rfl h7 (Nat.le_refl 2) (by simp [Value.oneCell']) rowSpan ?_
      intro W1 hP hM
      exact ⟨rfl, hC.put hP hM⟩
    simp only [Act.put]
    refine R6.WalkR.nil (fun D ρ W hD hC => ?_)
    have hM7 := hC.yes (hD 8 (by decide))
    have hB7 := HM.out.1.grown hC.gb HM.out.1.size (fun k e => by cases e; omega)
    have H7 := Lib.hid (And.intro hM7 hB7)
    have hc7 := fun i => cell_of_row W w.heap.size i _ _ _ hM7
    clear hC hD hM7 hB7
    go_wp2
    exact bodyPost_ret (v := .agg #[.int .i64 t0, .int .i64 t1]) (by simp [results, Try.results80, go_sem, hc7]) rfl ⟨rfl, H7.out.2⟩
  · have hne : (n == 0) = false := by simpa using (show n ≠ 0 by omega)
    rw [hne] at HUP HTO
    have hua : airB b false p = (p + b.f0, p + b.f1) := rfl
    have huv : uptV b false p = .iface 119 (.agg #[.int .i64 p, .int .i64 b.f0, .int .i64 b.f1, .slice none 0 0]) := rfl
    rw [huv] at HUP
    rw [hua] at HTO
    dsimp only at HTO HOA
    have hmz0 : p + b.f0 + ((0 : Nat) : Int) * 0 = p + b.f0 := by omega
    have hmz1 : p + b.f1 + ((0 : Nat) : Int) * 0 = p + b.f1 := by omega
    rw [hmz0, hmz1] at HOA
    clear hua huv hne hmz0 hmz1
    go_enter Try.func80, Try.ntmps80
    go_wp2
    refine R6.wp_walk (C := OneW w1 w.heap.size (.cells #[.int .i64 0, .int .i64 0] 25 (0, 0)) (.cells #[.int .i64 t0, .int .i64 t1] 25 (0, 0)) 8) 13 (by kernel_rfl) (by kernel_rfl) rfl (OneW.start HM.out.2.1 rfl) ?_
    simp only []
    iterate 8
      (refine' R6.WalkR.det (fun _ => rfl) (fun D ρ W hK hC => ?_) ?_
       rotate_left
       · have f0 := fun i => cell_of_row W bb i _ _ _ ((hC.other (lt_of_heap HM.out.2.2.1) (Nat.ne_of_lt HM.out.2.2.2.2.1)).trans HM.out.2.2.1)
         have f1 := fun i => cell_of_row W pb i _ _ _ ((hC.other (lt_of_heap HM.out.2.2.2.1) (Nat.ne_of_lt HM.out.2.2.2.2.2)).trans HM.out.2.2.2.1)
         have HC := Lib.hid hC
         clear hC hK
         have hmt := method_open p b.f0 b.f1
         go_simp
         first
           | with_reducible exact ⟨rfl, HC.out.move rfl⟩
           | (go_at_call 81; refine (HUP.out W).mono ?_; rintro e W1 ⟨rfl, hB1⟩; exact ⟨_, rfl, rfl, (HC.out.move rfl).next hB1⟩)
           | (go_at_call 116; refine (HOA.out W).mono ?_; rintro e W1 ⟨rfl, hB1⟩; exact ⟨_, rfl, rfl, (HC.out.move rfl).next hB1⟩)
           | (go_at_call 73; refine (HTO.out W).mono ?_; rintro e W1 ⟨rfl, hB1⟩; exact ⟨_, rfl, rfl, (HC.out.move rfl).next hB1⟩)
       simp only [Act.put, List.setIfInBounds_toArray, List.set_cons_succ, List.set_cons_zero])
    refine' R6.WalkR.det (c := undef) (fun _ => rfl) (fun D ρ W hK hC => ?_) ?_
    · have h7 := hC.no hK.me
      refine gives_store_blk 25 (.tmp 4) (.tmp 12) rfl rfl (cs := [.int .i64 t0, .int .i64 t1]) (L := [.int .i64 0, .int .i64 0]) rfl h7 (Nat.le_refl 2) (by simp [Value.oneCell']) rowSpan ?_
      intro W1 hP hM
      exact ⟨rfl, hC.put hP hM⟩
    simp only [Act.put]
    refine R6.WalkR.nil (fun D ρ W hD hC => ?_)
    have hM7 := hC.yes (hD 8 (by decide))
    have hB7 := HM.out.1.grown hC.gb HM.out.1.size (fun k e => by cases e; omega)
    have H7 := Lib.hid (And.intro hM7 hB7)
    have hc7 := fun i => cell_of_row W w.heap.size i _ _ _ hM7
    clear hC hD hM7 hB7
    go_wp2
    exact bodyPost_ret (v := .agg #[.int .i64 t0, .int .i64 t1]) (by simp [results, Try.results80, go_sem, hc7]) rfl ⟨rfl, H7.out.2⟩

set_option maxRecDepth 100000 in
theorem dril2_any (b : Bk) (hb : bndB b) (bb pb tb nb : Nat) (A : Option Addr) (n cap : Nat) (hn : n ≤ 1000000) (o : Int × Int) (p : Int) (hp : 50 ≤ p ∧ p ≤ 20000) (w : World) (hbb : w.heap[bb]? = some (.cells (bkc b).toArray 34 (0, 0))) (hpb : w.heap[pb]? = some (.cells #[.slice A n cap] 32 (0, 0)))
    (htb : w.heap[tb]? = some (.cells #[.func (.func 80) #[] #[.pointer (some ⟨bb, 0, none⟩), .pointer (some ⟨pb, 0, none⟩)]] 103 (0, 0))) (hnb : w.heap[nb]? = some (.cells #[.int .i64 o.1, .int .i64 o.2] 25 (0, 0))) :
    Calls Try.prog 82 #[.int .i64 p, .pointer (some ⟨tb, 0, none⟩), .pointer (some ⟨nb, 0, none⟩)] w fun e w' => e = .returned (.bool (decide (o.1 ≤ (tonB b (n == 0) p).1))) ∧ Below w.heap.size w w' := by
  have HD1 := Lib.hid (fun W (hW : Below w.heap.size w W) => dril1_any b hb bb pb A n cap hn p hp W ((hW.block _ (lt_of_heap hbb)).trans hbb) ((hW.block _ (lt_of_heap hpb)).trans hpb))
  have hcf := fun (W : World) (hW : Below w.heap.size w W) => And.intro (fun i => cell_of_row W tb i _ _ _ ((hW.block _ (lt_of_heap htb)).trans htb)) (fun i => cell_of_row W nb i _ _ _ ((hW.block _ (lt_of_heap hnb)).trans hnb))
  have HCF := Lib.hid hcf
  obtain ⟨hc0, hc1⟩ := hcf w (Below.refl _ _)
  clear hcf hbb hpb htb hnb hp hb
  obtain ⟨o0, o1⟩ := o
  dsimp only at HCF hc1 ⊢
  generalize (tonB b (n == 0) p).1 = t0 at HD1 ⊢
  generalize (tonB b (n == 0) p).2 = t1 at HD1
  go_enter Try.func82, Try.ntmps82
  go_wp2
  refine R6.wp_walk (C := fun _ _ W => Below w.heap.size w W) 12 (by kernel_rfl) (by kernel_rfl) rfl (Below.refl _ _).drew ?_
  simp only []
  repeat
    (refine' R6.WalkR.det (fun _ => rfl) (fun D ρ W hK hC => ?_) ?_
     rotate_left
     · obtain ⟨f0, f1⟩ := HCF.out W hC
       have hfd : (Instr.field 25 (.agg #[.int .i64 t0, .int .i64 t1]) 0).run Try.prog W = .ok (.int .i64 t0) W := by kernel_rfl
       have HC := Lib.hid hC
       clear hC hK
       go_simp
       first
         | with_reducible exact ⟨rfl, HC.out⟩
         | (go_at_call 80; refine (HD1.out W HC.out).mono ?_; rintro e W1 ⟨rfl, hB1⟩; exact ⟨_, rfl, rfl, HC.out.trans (hB1.mono HC.out.size)⟩)
     simp only [Act.put, List.setIfInBounds_toArray, List.set_cons_succ, List.set_cons_zero])
  refine R6.WalkR.nil (fun D ρ W hD hC => ?_)
  have H9 := Lib.hid hC
  clear hC hD
  go_wp2
  go_ret
  exact ⟨by first | rfl | simp [ge_iff_le], H9.out⟩

end Go.Proofs.Ytjjipkgconmfcaa

namespace Go.Proofs.Ytjjipkgconmfcaa
open Go.RowKit Go.Shelf

attribute [local go_sem] Oper.semAt_some

def Kp2 (S Bg : Nat) (W W' : World) : Prop := W'.heap[S]? = W.heap[S]? ∧ W'.heap[Bg]? = W.heap[Bg]?
abbrev Idx (zs : List Int) : Type := { i : Nat // i < zs.length }
def encI (zs : List Int) (x : Idx zs) : Array Value := #[.int .i64 (x.1 : Int), .int .i64 (zs[x.1]?.getD 0)]

theorem backward_any (a : Option Addr) (len cap : Nat) (w : World) :
    Calls Try.prog 71 #[.slice a len cap] w fun e w' => e = .returned (.func (.func 89) #[] #[.pointer (some ⟨w.heap.size, 0, none⟩)]) ∧ w' = w.alloc (.cells #[.slice a len cap] 32) := by
  go_enter Try.func71, Try.ntmps71
  go_wp2
  go_ret
  exact ⟨rfl, rfl⟩

theorem rev_take {n k : Nat} (hk : k < n) : (List.range n).reverse.take (k + 1) = (List.range n).reverse.take k ++ [n - 1 - k] := by
  rw [List.take_succ_eq_append_getElem (by simpa using hk)]
  simp

set_option maxRecDepth 100000 in
set_option maxHeartbeats 4000000 in
theorem backward_stops (n S off Bg cap : Nat) (zs : List Int) (hn : 1 ≤ n) (hl : zs.length ≤ 1000) (w : World) (hS : S < w.heap.size) (hBg : Bg < w.heap.size)
    (hbox : w.heap[Bg]? = some (.cells #[.slice (some ⟨S, off, none⟩) zs.length cap] 32 (0, 0))) (hz : ∀ j, j < zs.length → w.cell? ⟨S, off + j, none⟩ = some (.int .i64 (zs[j]?.getD 0))) :
    SeqStopsK Fence.wide n Try.prog 89 #[.pointer (some ⟨Bg, 0, none⟩)] (encI zs) (Kp2 S Bg) (fun xs => xs.map (·.1) = (List.range zs.length).reverse) (fun _ => True) zs.length w := by
  intro l J Jx W hW _ _ hY h0
  have hbW := (hW.block Bg hBg).trans hbox
  have hSW := hW.block S hS
  have hzW : ∀ j, j < zs.length → W.cell? ⟨S, off + j, none⟩ = some (.int .i64 (zs[j]?.getD 0)) := fun j hj => (World.cell?_of_block (w := w) hSW).trans (hz j hj)
  have HY := Lib.hid hY
  have HZ := Lib.hid hzW
  have HB := Lib.hid hbW
  have hcB := fun i => cell_of_row W Bg i _ _ _ hbW
  clear hY hzW hbW hbox hz hSW hW
  refine callsIn_of_wp Try.func89 rfl trivial ?_ rfl
  simp only [Try.ntmps89, List.size_toArray, List.length_cons, List.length_nil, Nat.reduceAdd, Nat.reduceSub, Array.replicate_succ, Array.replicate_zero, List.push_toArray, List.append_toArray, List.nil_append, List.cons_append]
  gi_wp2_with fail
  gi_loopw [3] (fun i wr => ∃ (k : Nat) (pre : List (Idx zs)), k ≤ zs.length ∧ i = .int .i64 ((zs.length : Int) - 1 - k) ∧ Hid (pre.map (·.1) = (List.range zs.length).reverse.take k) ∧ Hid (J pre wr) ∧ Hid (Kp2 S Bg W wr))
    (fun i _ => (intOf i + 1).toNat)
  case atStart => exact ⟨0, [], Nat.zero_le _, by simp, by simp [Hid], h0, rfl, rfl⟩
  case round =>
    obtain ⟨k, pre, hk, rfl, hpre, hJ, hK⟩ := hrel
    have hcB2 := fun i => cell_of_row wr Bg i _ _ _ (hK.out.2.trans HB.out)
    by_cases hlt : k < zs.length
    · obtain ⟨j, hj⟩ : ∃ j : Nat, j = zs.length - 1 - k := ⟨_, rfl⟩
      have e1 : ((zs.length : Int) - 1 - k) = (j : Int) := by omega
      have hjl : j < zs.length := by omega
      have hcz : wr.cell? ⟨S, off + j, none⟩ = some (.int .i64 (zs[j]?.getD 0)) := (World.cell?_of_block (w := W) hK.out.1).trans (HZ.out j hjl)
      have hpl : pre.length = k := by have := congrArg List.length hpre.out; simpa [Nat.min_eq_left hk] using this
      have hy := HY.out pre ⟨j, hjl⟩ wr hJ.out (by omega)
      rw [show encI zs ⟨j, hjl⟩ = #[.int .i64 (j : Int), .int .i64 (zs[j]?.getD 0)] from rfl] at hy
      generalize zs[j]?.getD 0 = x at hcz hy
      have hnext : ((pre ++ [(⟨j, hjl⟩ : Idx zs)]).map (·.1)) = (List.range zs.length).reverse.take (k + 1) := by
        rw [rev_take hlt, List.map_append, hpre.out, ← hj]; rfl
      have hj2 : ((zs.length : Int) - 1 - ((k + 1 : Nat) : Int)) = (j : Int) - 1 := by omega
      have hjn : (j : Int) < (zs.length : Int) := by omega
      have hj0 : (0 : Int) ≤ (j : Int) := by omega
      have hj9 : (j : Int) ≤ 1000 := by omega
      rw [e1]
      have Hy := Lib.hid hy
      have HN := Lib.hid (And.intro hnext hj2)
      clear hy hnext hj2 e1 hj hpl
      gi_wp2_with
        (show wpListIn _ _ _ _ _ (Oper.mk (some 17) _ _ _ _ _ :: _) _ _
         refine wpListIn_yield (.tmp 11) #[.tmp 12, .tmp 16] #[3, 3] ?hgd ?ho ?hF hn (l := l) ?hf ?hvs Hy.out ?_
         case hgd => rfl
         case ho => rfl
         case hF => exact fun _ => trivial
         case hf => rfl
         case hvs => simp [Act.eval]
         rintro e w7 (⟨rfl, hJ7, hK7⟩ | ⟨rfl, hx7⟩)
         refine ⟨_, rfl, ?_⟩
         have J7 := Lib.hid (And.intro hJ7 hK7)
         clear hJ7 hK7
         rotate_left
         refine ⟨_, rfl, ?_⟩
         have J7 := Lib.hid hx7
         clear hx7
         rotate_right)
      case roundEnd =>
        go_roundw
        case rel => exact ⟨k + 1, _, by omega, by rw [HN.out.2], HN.out.1, J7.out.1, J7.out.2.1.trans hK.out.1, J7.out.2.2.trans hK.out.2⟩
        case measure => simp [intOf] <;> omega
      refine bodyPost_ret (results_none rfl _ _ _) rfl ?_
      exact ⟨⟨_, rfl⟩, .inr ⟨_, trivial, J7.out⟩⟩
    · obtain rfl : k = zs.length := by omega
      have e1 : ((zs.length : Int) - 1 - (zs.length : Int)) = -1 := by omega
      rw [e1]
      gi_wp2_with fail
      go_end0
      exact ⟨⟨_, rfl⟩, .inl ⟨pre, by have := hpre.out; rw [List.take_of_length_le (by simp)] at this; exact this, hJ.out⟩⟩


set_option maxRecDepth 100000 in
set_option maxHeartbeats 4000000 in
theorem backward_none (n Bg cap : Nat) (A : Option Addr) (hn : 1 ≤ n) (w : World) (hBg : Bg < w.heap.size) (hbox : w.heap[Bg]? = some (.cells #[.slice A 0 cap] 32 (0, 0))) :
    SeqStopsK Fence.wide n Try.prog 89 #[.pointer (some ⟨Bg, 0, none⟩)] (encI []) (Kp2 Bg Bg) (fun xs => xs.map (·.1) = (List.range 0).reverse) (fun _ => True) 0 w := by
  intro l J Jx W hW _ _ hY h0
  have hbW := (hW.block Bg hBg).trans hbox
  have HB := Lib.hid hbW
  have hcB := fun i => cell_of_row W Bg i _ _ _ hbW
  clear hY hbW hbox hW
  refine callsIn_of_wp Try.func89 rfl trivial ?_ rfl
  simp only [Try.ntmps89, List.size_toArray, List.length_cons, List.length_nil, Nat.reduceAdd, Nat.reduceSub, Array.replicate_succ, Array.replicate_zero, List.push_toArray, List.append_toArray, List.nil_append, List.cons_append]
  gi_wp2_with fail
  gi_loopw [3] (fun i wr => i = .int .i64 (-1) ∧ Hid (J [] wr) ∧ Hid (Kp2 Bg Bg W wr)) (fun i _ => 0)
  case atStart => exact ⟨rfl, h0, rfl, rfl⟩
  case round =>
    obtain ⟨rfl, hJ, hK⟩ := hrel
    have hcB2 := fun i => cell_of_row wr Bg i _ _ _ (hK.out.2.trans HB.out)
    gi_wp2_with fail
    go_end0
    exact ⟨⟨_, rfl⟩, .inl ⟨[], rfl, hJ.out⟩⟩

/-- The backward iterator, wherever the numbers lie. -/
theorem backward_all (n Bg cap : Nat) (A : Option Addr) (zs : List Int) (hn : 1 ≤ n) (hl : zs.length ≤ 1000) (B : Nat) (w : World) (hB : B ≤ Bg) (hBg : Bg < w.heap.size)
    (hbox : w.heap[Bg]? = some (.cells #[.slice A zs.length cap] 32 (0, 0))) (hz : Ints w B A zs) :
    ∃ Sb, (Sb < B ∨ Sb = Bg) ∧ SeqStopsK Fence.wide n Try.prog 89 #[.pointer (some ⟨Bg, 0, none⟩)] (encI zs) (Kp2 Sb Bg) (fun xs => xs.map (·.1) = (List.range zs.length).reverse) (fun _ => True) zs.length w := by
  cases zs with
  | nil => exact ⟨Bg, .inr rfl, backward_none n Bg cap A hn w hBg hbox⟩
  | cons z l =>
    obtain ⟨b, off, hA, hb, hc⟩ := hz (by simp)
    subst hA
    exact ⟨b, .inl hb, backward_stops n b off Bg cap (z :: l) hn hl w (by omega) hBg hbox hc⟩

end Go.Proofs.Ytjjipkgconmfcaa
