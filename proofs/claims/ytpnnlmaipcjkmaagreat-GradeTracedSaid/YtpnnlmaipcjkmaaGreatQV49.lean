/-
  The law GradeTraced.
-/
import Derived.Test.YtpnnlmaipcjkmaaGreatQV20
import Derived.Test.YtpnnlmaipcjkmaaGreatQV42
import Derived.Test.YtpnnlmaipcjkmaaGreatQV44
import Derived.Test.YtpnnlmaipcjkmaaGreatQV45
import Derived.Test.YtpnnlmaipcjkmaaGreatQV48
import Derived.Test.YtpnnlmaipcjkmaaGreatQV24
set_option linter.all false
namespace Go.Proofs.YtpnnlmaipcjkmaaGreat
open Go.RowKit
open R6 (done done_ne done_me upd_ne upd_me)

attribute [local go_sem] gives

structure TrA (w : World) (F : Og → Int) (n : Nat) (W : World) : Prop where
  bel : Below w.heap.size w W
  map : OwnOA W w.heap.size n F
  lt : w.heap.size < W.heap.size
theorem TrA.below {w W W' : World} {F : Og → Int} {n : Nat} (h : TrA w F n W) {b : Nat} (hb : Below b W W') (hlt : w.heap.size < b) : TrA w F n W' :=
  ⟨h.bel.trans (below_low5 hb (by omega)), h.map.block (hb.block _ hlt), Nat.lt_of_lt_of_le h.lt hb.size⟩
theorem TrA.grows {w W W' : World} {F : Og → Int} {n : Nat} (h : TrA w F n W) (hb : Grows W W') : TrA w F n W' := h.below hb h.lt
theorem tmodR {x : Int} (h : 0 ≤ x) (n : Nat) : x.tmod (n : Int) = ((x.toNat % n : Nat) : Int) := by
  rw [Int.tmod_eq_emod_of_nonneg h]
  obtain ⟨k, rfl⟩ := Int.eq_ofNat_of_zero_le h
  simp
structure WhI (w0 : World) (b : Nat) (L : List Pol) (W : World) : Prop where
  bel : Below b w0 W
  lt : b < W.heap.size
  own : ∃ A c, W.heap[b]? = some (.cells [Value.slice A L.length c, Value.slice none 0 0].toArray 25 (0, 0)) ∧ W.ownsRow (b + 1) 56 12 (.slice A L.length c) L.length (L.flatMap pcl)
theorem WhI.start {w0 : World} {b : Nat} (h : w0.heap[b]? = some (.cells [Value.slice none 0 0, Value.slice none 0 0].toArray 25 (0, 0))) : WhI w0 b [] w0 :=
  ⟨Below.refl _ _, lt_of_heap h, none, 0, h, World.ownsRow_nil _ _ _ _⟩
theorem WhI.grows {w0 W W' : World} {b : Nat} {L : List Pol} (h : WhI w0 b L W) (hg : Grows W W') : WhI w0 b L W' :=
  ⟨h.bel.trans (hg.mono (Nat.le_of_lt h.lt)), Nat.lt_of_lt_of_le h.lt hg.size, let ⟨A, c, hb, ho⟩ := h.own; ⟨A, c, (hg.block _ (lt_of_heap hb)).trans hb, own_grows ho hg⟩⟩
def qP (p : Pol) (n c y s : Int) (D : Nat → Bool) : Pol := { p with id := if D 9 = true then n else p.id, clone := if D 11 = true then c else p.clone, cut := if D 13 = true then y else p.cut, shot := if D 15 = true then s else p.shot }
structure PuC (wq : World) (b : Nat) (p : Pol) (n c y s : Int) (D : Nat → Bool) (_σ : Nat → Value) (W : World) : Prop where
  bel : Below b wq W
  oth : ∀ k, k ≠ b → W.heap[k]? = wq.heap[k]?
  own : W.heap[b]? = some (.cells (pcl (qP p n c y s D)).toArray 56 (0, 0))
section
variable {wq W W' : World} {b : Nat} {p : Pol} {n c y s : Int} {D : Nat → Bool} {σ σ' : Nat → Value}
theorem PuC.move {k : Nat} (h : PuC wq b p n c y s D σ W) (hk : (k == 9 || k == 11 || k == 13 || k == 15) = false) : PuC wq b p n c y s (done D k) σ' W := by
  simp only [Bool.or_eq_false_iff, beq_eq_false_iff_ne, ne_eq] at hk
  obtain ⟨⟨⟨h9, h11⟩, h13⟩, h15⟩ := hk
  refine ⟨h.bel, h.oth, ?_⟩
  have e : qP p n c y s (done D k) = qP p n c y s D := by
    unfold qP
    rw [done_ne (Ne.symm h9), done_ne (Ne.symm h11), done_ne (Ne.symm h13), done_ne (Ne.symm h15)]
  rw [e]
  exact h.own
theorem PuC.put (h : PuC wq b p n c y s D σ W) (hP : Put W W' b) {k : Nat} {q : Pol} (hM : W'.heap[b]? = some (.cells (pcl q).toArray 56 (0, 0))) (hq : q = qP p n c y s (done D k)) : PuC wq b p n c y s (done D k) σ' W' :=
  ⟨h.bel.trans (hP.below (Nat.le_refl _)), fun k hk => (hP.other k hk).trans (h.oth k hk), by rw [← hq]; exact hM⟩
end
theorem fold_pole (p : Pol) : List.foldl (fun (cs : Array Value) (x : Value × Nat) => cs.setIfInBounds x.snd x.fst) #[Value.int IntKind.i64 0, Value.int IntKind.i64 0, Value.int IntKind.i64 0, Value.int IntKind.i64 0, Value.int IntKind.i64 0, Value.int IntKind.i64 0, Value.int IntKind.i64 0, Value.int IntKind.i64 0, Value.int IntKind.i64 0, Value.int IntKind.i64 0, Value.int IntKind.i64 0, Value.int IntKind.i64 0] (pcl p).zipIdx = (pcl p).toArray := by
  simp [pcl]
theorem infoI7 : (Tryz.prog.info? 3).map (·.size) = some 1 := by kernel_rfl
theorem WhI.more {w0 W w1 w2 w3 : World} {b n : Nat} {L : List Pol} {p : Pol} {A4 : Option Addr} {c4 : Nat} (h : WhI w0 b L W) (hg : Grows W w1) {A3 : Option Addr} {c3 : Nat} (ho3 : w1.ownsRow (b + 1) 56 12 (.slice A3 L.length c3) L.length (L.flatMap pcl))
    (hgr : w1.grownBy w2 (Value.slice A3 L.length c3).ownBlock) (ho : w2.ownsRow (b + 1) 56 12 (.slice A4 n c4) n (L.flatMap pcl ++ pcl p)) (hn : n = L.length + 1) (hP : Put w2 w3 b) {cs : Array Value} {fr : Nat × Nat} (hb : w2.heap[b]? = some (.cells cs 25 fr))
    (hM : w3.heap[b]? = some (.cells [Value.slice A4 n c4, Value.slice none 0 0].toArray 25 (0, 0))) : WhI w0 b (L ++ [p]) w3 := by
  have el : n = (L ++ [p]).length := by rw [hn]; simp
  have ef : L.flatMap pcl ++ pcl p = (L ++ [p]).flatMap pcl := by simp
  rw [ef] at ho
  subst el
  exact ⟨((h.grows hg).bel.grown hgr (Nat.le_of_lt (h.grows hg).lt) (fun k e => by obtain ⟨_, _, hq⟩ := own_bt ho3 e; omega)).trans (hP.below (Nat.le_refl _)), lt_of_heap hM, A4, c4, hM, own_put ho hP hb (by decide)⟩
theorem infoPL5 : (Tryz.prog.info? 22).map (·.size) = some 1 := by kernel_rfl
theorem rowArr3 : RowTy Tryz.prog 54 3 := ⟨⟨_, Tryz.underlying54, rfl⟩, by kernel_rfl⟩

set_option maxRecDepth 100000 in
set_option maxHeartbeats 16000000 in
theorem gradeTraced_law (ps : List Pol) (ts : List Ts) (gs : List Gd) (vary : Int) (gv : List Gv) (x yr : Int) (AP : Option Addr) (cp : Nat) (AT : Option Addr) (ct : Nat) (AG : Option Addr) (cg : Nat) (AV : Option Addr) (cv : Nat) (B : Nat) (w : World) (hB : B ≤ w.heap.size)
    (hz1 : Vals w B AP (ps.flatMap pcl)) (hz2 : Vals w B AT (ts.flatMap tcl)) (hz3 : Vals w B AG (gs.flatMap gcl)) (hz4 : GvsAt w B gv AV) (hgl : gv.length ≤ 9223372036854775807) (hx0 : 0 ≤ x) (hx9 : x ≤ 255) :
    Calls Tryz.prog 9 #[.agg #[.slice AP ps.length cp, .slice AT ts.length ct], .agg #[.slice AG gs.length cg, .int .i64 vary], .slice AV gv.length cv, .int .u8 x, .int .i64 yr] w fun e w' => e = .returned (.bool true) ∧ Below w.heap.size w w' := by
  have hrd := fun (W : World) (hW : Below w.heap.size w W) => grReady_any ps ts gs vary AP cp AT ct AG cg B W (Nat.le_trans hB hW.size) (hz1.below (hW.mono hB)) (hz2.below (hW.mono hB)) (hz3.below (hW.mono hB))
  have hgb := fun (W : World) (hW : Below w.heap.size w W) => rfGreatBooks_big gv [] AV cv none 0 B W (Nat.le_trans hB hW.size) (hz4.below (hW.mono hB)) hgl ⟨fun h => by simp at h, fun x hx => (by cases hx), fun x hx => (by cases hx)⟩ (by simp)
  simp only [List.length_nil] at hgb
  obtain ⟨w1, hw1⟩ : ∃ w1, (w.alloc (.cells #[.slice AP ps.length cp, .slice AT ts.length ct] 25)).alloc (.cells #[.slice AG gs.length cg, .int .i64 vary] 28) = w1 := ⟨_, rfl⟩
  have hb1 : Below w.heap.size w w1 := by rw [← hw1]; exact grow2 _ _ _
  have m1 : w1.heap[w.heap.size]? = some (.cells [.slice AP ps.length cp, .slice AT ts.length ct].toArray 25 (0, 0)) := by rw [← hw1]; exact alloc2_at0 _ _ _
  have m2 : w1.heap[w.heap.size + 1]? = some (.cells [.slice AG gs.length cg, .int .i64 vary].toArray 28 (0, 0)) := by rw [← hw1]; exact alloc2_at1 _ _ _
  have H1 := Lib.hid (And.intro hb1 (And.intro m1 m2))
  clear hb1 m1 m2
  cases hrv : rdyS gs vary ps ts
  · rw [hrv] at hrd
    have HRD := Lib.hid hrd
    clear hrd hgb hrv hz1 hz2 hz3 hz4 hgl
    go_enter Tryz.func9, Tryz.ntmps9
    go_wp2_with (first
      | (go_at_call 29
         refine (HRD.out w2 H2.out.1).mono ?_
         rintro e w3 ⟨rfl, hB3⟩
         have H3 := Lib.hid (And.intro (H2.out.1.trans (hB3.mono H2.out.1.size)) (And.intro ((hB3.block _ (lt_of_heap H2.out.2.1)).trans H2.out.2.1) ((hB3.block _ (lt_of_heap H2.out.2.2)).trans H2.out.2.2)))
         clear hB3)
      | (show wpList _ _ _ (Oper.mk (some 37) _ _ _ _ _ :: _) _ _
         refine wpList_load_blk 25 (.tmp 5) rfl rfl rfl H2.out.2.1 [.slice AP ps.length cp, .slice AT ts.length ct] at0 rowSheetP ?_)
      | (show wpList _ _ _ (Oper.mk (some 38) _ _ _ _ _ :: _) _ _
         refine wpList_load_blk 28 (.tmp 6) rfl rfl rfl H2.out.2.2 [.slice AG gs.length cg, .int .i64 vary] at0 rowGradingP ?_)
      | (go_at_call 20
         refine (grAlive_any w1).mono ?_
         rintro e w2 ⟨rfl, hB2⟩
         have H2 := Lib.hid (And.intro (H1.out.1.trans (hB2.mono H1.out.1.size)) (And.intro ((hB2.block _ (lt_of_heap H1.out.2.1)).trans H1.out.2.1) ((hB2.block _ (lt_of_heap H1.out.2.2)).trans H1.out.2.2)))
         clear hB2))
    go_ret
    exact ⟨rfl, H3.out.1⟩
  rw [hrv] at hrd
  have HRD := Lib.hid hrd
  cases hbk : greatBk gv []
  rotate_left
  · rw [hbk] at hgb
    have HGB := Lib.hid hgb
    clear hrd hgb hrv hbk hz1 hz2 hz3 hz4 hgl
    go_enter Tryz.func9, Tryz.ntmps9
    go_wp2_with (first
      | (go_at_call 12
         refine (HGB.out w3 H3.out.1).mono ?_
         rintro e w4 ⟨rfl, hB4⟩
         have H4 := Lib.hid (And.intro (H3.out.1.trans (hB4.mono H3.out.1.size)) (And.intro ((hB4.block _ (lt_of_heap H3.out.2.1)).trans H3.out.2.1) ((hB4.block _ (lt_of_heap H3.out.2.2)).trans H3.out.2.2)))
         clear hB4)
      | (go_at_call 29
         refine (HRD.out w2 H2.out.1).mono ?_
         rintro e w3 ⟨rfl, hB3⟩
         have H3 := Lib.hid (And.intro (H2.out.1.trans (hB3.mono H2.out.1.size)) (And.intro ((hB3.block _ (lt_of_heap H2.out.2.1)).trans H2.out.2.1) ((hB3.block _ (lt_of_heap H2.out.2.2)).trans H2.out.2.2)))
         clear hB3)
      | (show wpList _ _ _ (Oper.mk (some 37) _ _ _ _ _ :: _) _ _
         refine wpList_load_blk 25 (.tmp 5) rfl rfl rfl H2.out.2.1 [.slice AP ps.length cp, .slice AT ts.length ct] at0 rowSheetP ?_)
      | (show wpList _ _ _ (Oper.mk (some 38) _ _ _ _ _ :: _) _ _
         refine wpList_load_blk 28 (.tmp 6) rfl rfl rfl H2.out.2.2 [.slice AG gs.length cg, .int .i64 vary] at0 rowGradingP ?_)
      | (go_at_call 20
         refine (grAlive_any w1).mono ?_
         rintro e w2 ⟨rfl, hB2⟩
         have H2 := Lib.hid (And.intro (H1.out.1.trans (hB2.mono H1.out.1.size)) (And.intro ((hB2.block _ (lt_of_heap H1.out.2.1)).trans H1.out.2.1) ((hB2.block _ (lt_of_heap H1.out.2.2)).trans H1.out.2.2)))
         clear hB2))
    go_ret
    exact ⟨rfl, H4.out.1⟩
  rw [hbk] at hgb
  have HGB := Lib.hid hgb
  have hg8 : gv.length ≤ 8 := by
    simp only [greatBk, Bool.or_eq_false_iff, decide_eq_false_iff_not] at hbk
    omega
  have hgv := fun (W : World) (hW : Below w.heap.size w W) => rfGroves_any gv AV cv B W (Nat.le_trans hB hW.size) (hz4.below (hW.mono hB)) (by omega)
  cases hok : okGvs gv
  · rw [hok] at hgv
    have HGV := Lib.hid hgv
    clear hrd hgb hrv hbk hok hgv hz1 hz2 hz3 hz4 hgl
    go_enter Tryz.func9, Tryz.ntmps9
    go_wp2_with (first
      | (go_at_call 37
         refine (HGV.out w4 H4.out.1).mono ?_
         rintro e w5 ⟨rfl, hB5⟩
         have H5 := Lib.hid (And.intro (H4.out.1.trans (hB5.mono H4.out.1.size)) (And.intro ((hB5.block _ (lt_of_heap H4.out.2.1)).trans H4.out.2.1) ((hB5.block _ (lt_of_heap H4.out.2.2)).trans H4.out.2.2)))
         clear hB5)
      | (go_at_call 12
         refine (HGB.out w3 H3.out.1).mono ?_
         rintro e w4 ⟨rfl, hB4⟩
         have H4 := Lib.hid (And.intro (H3.out.1.trans (hB4.mono H3.out.1.size)) (And.intro ((hB4.block _ (lt_of_heap H3.out.2.1)).trans H3.out.2.1) ((hB4.block _ (lt_of_heap H3.out.2.2)).trans H3.out.2.2)))
         clear hB4)
      | (go_at_call 29
         refine (HRD.out w2 H2.out.1).mono ?_
         rintro e w3 ⟨rfl, hB3⟩
         have H3 := Lib.hid (And.intro (H2.out.1.trans (hB3.mono H2.out.1.size)) (And.intro ((hB3.block _ (lt_of_heap H2.out.2.1)).trans H2.out.2.1) ((hB3.block _ (lt_of_heap H2.out.2.2)).trans H2.out.2.2)))
         clear hB3)
      | (show wpList _ _ _ (Oper.mk (some 37) _ _ _ _ _ :: _) _ _
         refine wpList_load_blk 25 (.tmp 5) rfl rfl rfl H2.out.2.1 [.slice AP ps.length cp, .slice AT ts.length ct] at0 rowSheetP ?_)
      | (show wpList _ _ _ (Oper.mk (some 38) _ _ _ _ _ :: _) _ _
         refine wpList_load_blk 28 (.tmp 6) rfl rfl rfl H2.out.2.2 [.slice AG gs.length cg, .int .i64 vary] at0 rowGradingP ?_)
      | (go_at_call 20
         refine (grAlive_any w1).mono ?_
         rintro e w2 ⟨rfl, hB2⟩
         have H2 := Lib.hid (And.intro (H1.out.1.trans (hB2.mono H1.out.1.size)) (And.intro ((hB2.block _ (lt_of_heap H1.out.2.1)).trans H1.out.2.1) ((hB2.block _ (lt_of_heap H1.out.2.2)).trans H1.out.2.2)))
         clear hB2))
    go_ret
    exact ⟨rfl, H5.out.1⟩
  rw [hok] at hgv
  have HGV := Lib.hid hgv
  have hck : gChk gs vary ps ts = 0 := by
    simp only [rdyS, Bool.and_eq_true, decide_eq_true_eq] at hrv
    exact hrv.2
  have hk := grOk_of hck
  have hp12 : ps.length ≤ 12 := hk.p12
  have hg6 : gv.length ≤ 6 ∧ byIdL gvId okGv gv 0 = true := by
    simp only [okGvs, Bool.and_eq_true, decide_eq_true_eq] at hok
    exact ⟨by omega, hok.2⟩
  have hz : ShAt w B ps ts AP AT := ⟨hz1, hz2, by omega, by have := hk.t20; omega⟩
  have hg : GdAt w B gs AG := ⟨hz3, by have := hk.g3; omega⟩
  have htr := fun (W : World) (hW : Below w.heap.size w W) => gtTrace_any ps ts gs vary gv AP cp AT ct AG cg AV cv B W (Nat.le_trans hB hW.size) (hz.below (hW.mono hB)) (hg.below (hW.mono hB)) (hz4.below (hW.mono hB)) (by omega)
  have hsT : sTrace gs vary ps ts gv = (traceL gv ps, 0) := by rw [sTrace, if_pos hck, if_pos hok]
  rw [hsT] at htr
  unfold KnownPost at htr
  simp only at htr
  have htl : (traceL gv ps).length = ps.length := by simp [traceL]
  rw [htl] at htr
  have hta : ∀ k (hk : k < ps.length), (traceL gv ps)[k]? = some (knO gv ps (orgP ps[k])) := fun k hk => by simp [traceL, hk, knO_eq]
  generalize traceL gv ps = KL at htr htl hta
  have hpo := fun p (hp : p ∈ ps) => okPol_og (hk.po p hp).2
  have htk := fun (y : Gv) (hy : y ∈ gv) (t : Int) (W : World) (hW : Below w.heap.size w W) => taken_any y.g t y.A1 y.c1 y.A2 y.c2 B W (Nat.le_trans hB hW.size) ((hz4.at_ y hy).below (hW.mono hB))
  have hsg := fun o => sumG_eq o gv 0 hg6.2
  have HTR := Lib.hid htr
  have HTA := Lib.hid (And.intro htl hta)
  have HPO := Lib.hid hpo
  have HTK := Lib.hid htk
  have HSG := Lib.hid hsg
  have HZ := Lib.hid (And.intro hz (And.intro hg hz4))
  have HG6 := Lib.hid hg6.2
  have hg6l := hg6.1
  have HOK := Lib.hid hok
  have HTS := Lib.hid (show ts.length ≤ 20 from hk.t20)
  clear hrd hgb hrv hbk hok hgv hck hk hz hg hz1 hz2 hz3 hz4 hgl htr hsT htl hta hpo htk hsg hg6 hg8
  go_enter Tryz.func9, Tryz.ntmps9
  go_wp2_with (first
    | (go_at_call 14
       refine (HTR.out w5 H5.out.1).mono ?_
       rintro e w6 ⟨A6, c6, rfl, hu6, hB6⟩
       have H6 := Lib.hid (And.intro (H5.out.1.trans (hB6.mono H5.out.1.size)) (And.intro ((hB6.block _ (lt_of_heap H5.out.2.1)).trans H5.out.2.1) ((hB6.block _ (lt_of_heap H5.out.2.2)).trans H5.out.2.2)))
       have U6 := Lib.hid hu6
       have f6 : w6.cell? ⟨w.heap.size, 0, none⟩ = some (.slice AP ps.length cp) := cell_of_row w6 _ 0 _ _ _ H6.out.2.1
       obtain ⟨w7, hw7⟩ : ∃ w7, w6.alloc (.map #[] 0) = w7 := ⟨_, rfl⟩
       have hmk : ∀ (t : TypeId), (Instr.makeMap t none).run Tryz.prog w6 = .ok (.map (some w6.heap.size)) w7 := fun t => by
         have := @run_makeMap Tryz.prog
         rw [← hw7]
         simp [this]
       have hT7 : TrA w6 (sureF gv ps 0) 0 w7 := by
         rw [sureF_zero, ← hw7]
         exact ⟨grow1 _ _, OwnOA.made (alloc_at0 _ _), by simp⟩
       have H7 := Lib.hid hT7
       have f7 : w7.cell? ⟨w.heap.size, 0, none⟩ = some (.slice AP ps.length cp) := cell_of_row w7 _ 0 _ _ _ ((hT7.bel.block _ (lt_of_heap H6.out.2.1)).trans H6.out.2.1)
       clear hu6 hB6 hT7 hw7)
    | (show wpList _ _ _ (Oper.mk (some 56) _ _ _ _ _ :: _) _ _
       refine wpList_load_blk 25 (.tmp 5) rfl rfl rfl H5.out.2.1 [.slice AP ps.length cp, .slice AT ts.length ct] at0 rowSheetP ?_)
    | (show wpList _ _ _ (Oper.mk (some 57) _ _ _ _ _ :: _) _ _
       refine wpList_load_blk 28 (.tmp 6) rfl rfl rfl H5.out.2.2 [.slice AG gs.length cg, .int .i64 vary] at0 rowGradingP ?_)
    | (go_at_call 37
       refine (HGV.out w4 H4.out.1).mono ?_
       rintro e w5 ⟨rfl, hB5⟩
       have H5 := Lib.hid (And.intro (H4.out.1.trans (hB5.mono H4.out.1.size)) (And.intro ((hB5.block _ (lt_of_heap H4.out.2.1)).trans H4.out.2.1) ((hB5.block _ (lt_of_heap H4.out.2.2)).trans H4.out.2.2)))
       clear hB5)
    | (go_at_call 12
       refine (HGB.out w3 H3.out.1).mono ?_
       rintro e w4 ⟨rfl, hB4⟩
       have H4 := Lib.hid (And.intro (H3.out.1.trans (hB4.mono H3.out.1.size)) (And.intro ((hB4.block _ (lt_of_heap H3.out.2.1)).trans H3.out.2.1) ((hB4.block _ (lt_of_heap H3.out.2.2)).trans H3.out.2.2)))
       clear hB4)
    | (go_at_call 29
       refine (HRD.out w2 H2.out.1).mono ?_
       rintro e w3 ⟨rfl, hB3⟩
       have H3 := Lib.hid (And.intro (H2.out.1.trans (hB3.mono H2.out.1.size)) (And.intro ((hB3.block _ (lt_of_heap H2.out.2.1)).trans H2.out.2.1) ((hB3.block _ (lt_of_heap H2.out.2.2)).trans H2.out.2.2)))
       clear hB3)
    | (show wpList _ _ _ (Oper.mk (some 37) _ _ _ _ _ :: _) _ _
       refine wpList_load_blk 25 (.tmp 5) rfl rfl rfl H2.out.2.1 [.slice AP ps.length cp, .slice AT ts.length ct] at0 rowSheetP ?_)
    | (show wpList _ _ _ (Oper.mk (some 38) _ _ _ _ _ :: _) _ _
       refine wpList_load_blk 28 (.tmp 6) rfl rfl rfl H2.out.2.2 [.slice AG gs.length cg, .int .i64 vary] at0 rowGradingP ?_)
    | (go_at_call 20
       refine (grAlive_any w1).mono ?_
       rintro e w2 ⟨rfl, hB2⟩
       have H2 := Lib.hid (And.intro (H1.out.1.trans (hB2.mono H1.out.1.size)) (And.intro ((hB2.block _ (lt_of_heap H1.out.2.1)).trans H1.out.2.1) ((hB2.block _ (lt_of_heap H1.out.2.2)).trans H1.out.2.2)))
       clear hB2))
  clear f6 hmk
  go_loopg [76] ps.length (fun gn s76 wx => ∃ k : Nat, k + gn = ps.length ∧ s76 = .int .i64 k ∧ Hid (∃ m, m ≤ k ∧ TrA w6 (sureF gv ps k) m wx))
  case atStart => exact ⟨0, by omega, rfl, 0, Nat.le_refl _, H7.out⟩
  case round =>
    obtain ⟨k, hkg, rfl, hT⟩ := hrel
    obtain ⟨m, hmk, hTm⟩ := hT.out
    have HT := Lib.hid hTm
    have HMK := Lib.hid hmk
    have hb6w := fun (W : World) (hW : Below wr.heap.size wr W) => hTm.bel.trans (hW.mono hTm.bel.size)
    have HB6 := Lib.hid hb6w
    clear hT hTm hmk f7 hb6w
    cases gk with
    | succ gn =>
      have hk : k < ps.length := by omega
      have hkz : (k : Int) < ps.length := by omega
      obtain ⟨c, off, hA, hcB, hc⟩ := vals_elem pcl_len HZ.out.1.p (by decide) hk
      subst hA
      have hbw := fun (W : World) (hW : Below w6.heap.size w6 W) => H6.out.1.trans (hW.mono H6.out.1.size)
      have hc' : ∀ j u, (pcl ps[k])[j]? = some u → wr.cell? ⟨c, off + k * 12 + j, none⟩ = some u := fun j u hu => ((hbw wr (HB6.out wr (Below.refl _ _))).cell (p := ⟨c, off + k * 12 + j, none⟩) (by simp; omega)).trans (hc j u hu)
      obtain ⟨gb, hA6, hkc⟩ : ∃ gb, A6 = some ⟨gb, 0, none⟩ ∧ ∀ W, Below w6.heap.size w6 W → W.cell? ⟨gb, k, none⟩ = some (.int .u8 (knO gv ps (orgP ps[k]))) := by
        rcases U6.out.2 with ⟨e, h0⟩ | ⟨g', cap', cur, hv, _, hh, _, _, hsz, hcs⟩
        · exfalso
          have := HTA.out.1
          omega
        · simp only [Value.slice.injEq] at hv
          refine ⟨g', hv.1, fun W hW => ?_⟩
          rw [cell_of_row W g' k _ _ _ ((hW.block _ (lt_of_heap hh)).trans hh), ← Array.getElem?_toList]
          have e : (cur.toList.take (KL.length * 1))[k]? = (u8s KL)[k]? := by rw [hcs]
          rw [List.getElem?_take_of_lt (by rw [HTA.out.1]; omega)] at e
          rw [e]
          simp [u8s, HTA.out.2 k hk]
      subst hA6
      have hog := HPO.out _ (List.getElem_mem hk)
      have hsy := sureF_yes gv ps k hk
      have hsn := sureF_no gv ps k hk
      have hkz0 := knO_zero gv ps (orgP ps[k])
      have hsg := HSG.out (orgP ps[k])
      have hbd := sumG_bnd (orgP ps[k]) gv
      rw [hsg] at hbd
      have hsq := sureF_le gv ps k (orgP ps[k]) hbd.1
      have hsl := sureF_le gv ps (k + 1) (orgP ps[k]) hbd.1
      generalize ps[k] = p at hc' hkc hog hsy hsn hsl hkz0 hsg hbd hsq
      generalize hgC : culmsL gv (orgP p) = C at hsl hkz0 hsg hbd hsq
      have HC := Lib.hid hc'
      have HOG := Lib.hid hog
      have HBW := Lib.hid hbw
      have HSG2 := Lib.hid (And.intro hsg hbd)
      have HSL := Lib.hid (And.intro hsl hsq)
      clear hc hc' hog hbw hsg hbd hsl hsq hgC
      by_cases h2 : knO gv ps (orgP p) = 2
      · have hF := hsy h2
        rw [h2] at hkc
        have h0 : C ≠ 0 := fun h => by rw [hkz0.2 h] at h2; cases h2
        have HKC := Lib.hid hkc
        have HF := Lib.hid hF
        have HC0 := Lib.hid h0
        clear hkc hsy hsn hkz0 h2 hF h0
        go_wp2_with (first
          | (show wpList _ _ _ (Oper.mk none (Op.store _ (Operand.tmp 17) (Operand.tmp 87)) _ _ _ _ :: _) _ _
             refine wpList_store_blk 54 (.tmp 17) (.tmp 87) (cs := [.int .i64 p.clone, .int .i64 p.cut, .int .i64 p.shot]) (L := [.int .i64 0, .int .i64 0, .int .i64 0]) rfl rfl rfl rfl rfl (alloc_at0 _ _) (by first | rfl | (simp [pcl_len, gvl_len, tkl_len])) (fun u hu => by simp only [List.mem_cons, List.not_mem_nil, or_false] at hu; rcases hu with rfl | rfl | rfl <;> rfl) rowArr3 ?_
             intro w9 hP hM
             rw [splice_whole (by first | rfl | (simp [pcl_len, gvl_len, tkl_len]))] at hM
             have hb : Below w8.heap.size w8 w9 := (grow1 w8 _).trans (hP.below (Nat.le_refl _))
             have hb9 := H8.out.1.trans (hb.mono H8.out.1.size)
             have hp9 := (hb.block _ (lt_of_heap H8.out.2)).trans H8.out.2
             have fk := HKC.out w9 (HB6.out w9 hb9)
             have H9 := Lib.hid (And.intro hb9 (And.intro hp9 hM))
             clear hb9 hp9 g1 g2 g3
             clear hP hM hb)
          | (show wpList _ _ _ (Oper.mk (some 80) _ _ _ _ _ :: _) _ _
             refine wpList_load_at 56 (.tmp 79) rfl rfl rfl (pcl p) HC.out rowPole ?_)
          | (show wpList _ _ _ (Oper.mk none (Op.store _ (Operand.tmp 16) (Operand.tmp 80)) _ _ _ _ :: _) _ _
             refine wpList_store_blk 56 (.tmp 16) (.tmp 80) (cs := pcl p) (L := [.int .i64 0, .int .i64 0, .int .i64 0, .int .i64 0, .int .i64 0, .int .i64 0, .int .i64 0, .int .i64 0, .int .i64 0, .int .i64 0, .int .i64 0, .int .i64 0]) rfl rfl rfl rfl rfl (alloc_at0 _ _) (by first | rfl | (simp [pcl_len, gvl_len, tkl_len])) (fun u hu => pcl_one [p] u (by simpa using hu)) rowPole ?_
             intro w8 hP hM
             rw [splice_whole (by first | rfl | (simp [pcl_len, gvl_len, tkl_len]))] at hM
             have hb : Below wr.heap.size wr w8 := (grow1 wr _).trans (hP.below (Nat.le_refl _))
             have g1 : w8.cell? ⟨wr.heap.size, 1, none⟩ = some (.int .i64 p.clone) := cell_of_row w8 wr.heap.size 1 _ _ _ hM
             have g2 : w8.cell? ⟨wr.heap.size, 2, none⟩ = some (.int .i64 p.cut) := cell_of_row w8 wr.heap.size 2 _ _ _ hM
             have g3 : w8.cell? ⟨wr.heap.size, 3, none⟩ = some (.int .i64 p.shot) := cell_of_row w8 wr.heap.size 3 _ _ _ hM
             have H8 := Lib.hid (And.intro hb hM)
             clear hP hM hb))
        have hX := HSL.out.2
        obtain ⟨X, hXe⟩ : ∃ X, X = sureF gv ps k (orgP p) := ⟨_, rfl⟩
        rw [← hXe] at hX
        have hX2 := hX.2
        have hwr : IntKind.i64.wrap (X + 1) = X + 1 := IntWalk.i64_in _ (by omega)
        have HX := Lib.hid hXe
        have HWR := Lib.hid hwr
        have HTT := Lib.hid (HT.out.grows H9.out.1)
        clear hXe hwr hX hX2
        refine R6.wp_walk (C := EnCA w9 w6.heap.size m (sureF gv ps k) (orgP p) (X + 1) [(wr.heap.size, .cells (pcl p).toArray 56), (w8.heap.size, Obj.cells ([Value.int .i64 p.clone, Value.int .i64 p.cut, Value.int .i64 p.shot] : List Value).toArray 54)]) 249 (by kernel_rfl) (by kernel_rfl) rfl
          ⟨fun _ => ⟨(Below.refl _ _).drew, ⟨H9.out.2.1, H9.out.2.2, trivial⟩⟩, (fun e => by cases e), (fun e => by cases e)⟩ ?_
        simp only []
        refine' R6.WalkR.det (fun _ => rfl) (fun D ρ W hK hC => ?_) ?_
        rotate_left
        · have HC := Lib.hid hC
          clear hC hK
          go_simp
          with_reducible exact ⟨rfl, HC.out.move (by decide)⟩
        simp only [Act.put, List.setIfInBounds_toArray, List.set_cons_succ, List.set_cons_zero]
        refine' R6.WalkR.det (fun _ => rfl) (fun D ρ W hK hC => ?_) ?_
        rotate_left
        · exact gives_load_blk 54 (.tmp 17) rfl rfl (hC.pre (hK.post 4 (by decide +kernel))).2.2.1 [.int .i64 p.clone, .int .i64 p.cut, .int .i64 p.shot] at0 rowArr3 ⟨rfl, hC.move (by decide)⟩
        simp only [Act.put, List.setIfInBounds_toArray, List.set_cons_succ, List.set_cons_zero]
        refine' R6.WalkR.det (fun _ => rfl) (fun D ρ W hK hC => ?_) ?_
        rotate_left
        · obtain ⟨mm, hO⟩ := hC.look (hK.post 6 (by decide +kernel)) HTT.out.map
          refine gives_lookOA (.tmp 93) (.tmp 94) rfl rfl hO HOG.out rfl ?_
          rw [← HX.out]
          exact ⟨rfl, hC.move (by decide)⟩
        simp only [Act.put, List.setIfInBounds_toArray, List.set_cons_succ, List.set_cons_zero]
        refine' R6.WalkR.det (fun _ => rfl) (fun D ρ W hK hC => ?_) ?_
        rotate_left
        · have hw := HWR.out
          have HC := Lib.hid hC
          clear hC hK
          go_simp
          with_reducible exact ⟨rfl, HC.out.move (by decide)⟩
        simp only [Act.put, List.setIfInBounds_toArray, List.set_cons_succ, List.set_cons_zero]
        refine' R6.WalkR.nd (fun _ => rfl) rfl (fun D ρ W hK hC => ?_) ?_
        · have h5 := hK.me
          have hb := (hC.pre h5).1
          have hO : OwnOA W w6.heap.size m (sureF gv ps k) := HTT.out.map.block (hb.block _ HTT.out.lt)
          refine gives_entryA (.tmp 93) (.tmp 94) rfl rfl hO (by have := HMK.out; simp only [maxLen]; omega) HOG.out rfl (X + 1) ?_
          intro v0 st W1 W2 hE
          exact hC.entry h5 (hK.post 5 (by decide +kernel)) (hK.post 6 (by decide +kernel)) hE
        simp only [Act.put, List.setIfInBounds_toArray, List.set_cons_succ, List.set_cons_zero]
        refine' R6.WalkR.nd (fun _ => rfl) rfl (fun D ρ W hK hC => ?_) ?_
        · have h5 := hK.pre 4 (by decide +kernel)
          have h7 := hK.post 6 (by decide +kernel)
          obtain ⟨W0, v0, st, W', hb, hE, hv, -⟩ := hC.mid h5 h7
          have HC := Lib.hid (hC.ext h7 hb hE hv)
          have hv' : _ = Value.tuple #[v0, goInt st] := hv
          clear hC hK hv h5 h7 hE
          go_simp
          exact HC.out
        simp only [Act.put, List.setIfInBounds_toArray, List.set_cons_succ, List.set_cons_zero]
        refine' R6.WalkR.det (c := undef) (fun _ => rfl) (fun D ρ W hK hC => ?_) ?_
        · have h5 := hK.pre 4 (by decide +kernel)
          obtain ⟨W0, v0, st, W', hb, hE, -, hv⟩ := hC.mid h5 hK.me
          have hv := hv (hK.pre 5 (by decide +kernel))
          have hs := hE.store
          have hf := EnCA.fin (K := [(wr.heap.size, .cells (pcl p).toArray 56), (w8.heap.size, Obj.cells ([Value.int .i64 p.clone, Value.int .i64 p.cut, Value.int .i64 p.shot] : List Value).toArray 54)]) (σ := ρ) h5 hb hE
          refine gives_estore (.tmp 93) (.tmp 98) (.tmp 96) rfl rfl hv rfl hs ⟨rfl, hf⟩
        simp only [Act.put, List.setIfInBounds_toArray, List.set_cons_succ, List.set_cons_zero]
        refine R6.WalkR.nil (fun D ρ wt hD hC => ?_)
        obtain ⟨W0, hb, hgr, hO⟩ := hC.post (hD 6 (by omega))
        have hM6 : w6.heap.size < w9.heap.size := HTT.out.lt
        have h9 : TrA w6 (sureF gv ps (k + 1)) (m + 1) wt := ⟨(HTT.out.bel.trans (below_low5 hb (Nat.le_of_lt HTT.out.lt))).grown hgr (Nat.le_trans HTT.out.bel.size hb.size) (fun q e => by cases e; exact Nat.le_refl _), by rw [HF.out, ← HX.out]; exact hO, Nat.lt_of_lt_of_le HTT.out.lt (Nat.le_trans hb.size hgr.size)⟩
        have h8 := HT.out.lt
        have hkp := fun j (hj : j < w9.heap.size) (hne : w6.heap.size ≠ j) => (hgr.block j (Nat.lt_of_lt_of_le hj hb.size) (fun e => hne (by injection e with e; exact e.symm))).trans (hb.block j hj)
        have hs8 := H8.out.1.size
        have hpb := (hkp wr.heap.size (lt_of_heap H9.out.2.1) (by omega)).trans H9.out.2.1
        have hkb := (hkp w8.heap.size (lt_of_heap H9.out.2.2) (by omega)).trans H9.out.2.2
        have HTt := Lib.hid (And.intro h9 (And.intro hpb (And.intro hkb (show m + 1 ≤ k + 1 by have := HMK.out; omega))))
        clear hC hD hb hgr hO h9 hkp hpb hkb hs8 h8 hM6 fk
        obtain ⟨pb, hpbe⟩ : ∃ pb, pb = wr.heap.size := ⟨_, rfl⟩
        obtain ⟨kb, hkbe⟩ : ∃ kb, kb = w8.heap.size := ⟨_, rfl⟩
        rw [← hpbe, ← hkbe] at HTt
        rw [← hpbe, ← hkbe]
        clear hpbe hkbe
        obtain ⟨wo, rfl⟩ : ∃ wo : World, wo = wr := ⟨_, rfl⟩
        go_wp2
        have hs0 : sumG (orgP p) (gv.take 0) = 0 := rfl
        go_loopg [18, 101] gv.length (fun gh s18 s101 wz => ∃ j : Nat, j + gh = gv.length ∧ s18 = .int .i64 (sumG (orgP p) (gv.take j)) ∧ s101 = .int .i64 j ∧ Hid (Below wt.heap.size wt wz))
        case atStart => exact ⟨0, by omega, by rw [hs0], rfl, Below.refl _ _⟩
        case round =>
          obtain ⟨j, hjg, rfl, rfl, hBj⟩ := hrel
          clear hs0
          have hwz := hBj.out.size
          cases gk with
          | zero =>
            have hjl : j = gv.length := by omega
            have hjn : ¬ (j : Int) < gv.length := by omega
            rw [hjl, List.take_of_length_le (Nat.le_refl _), HSG2.out.1]
            have fk := HKC.out wr (HTt.out.1.bel.trans (hBj.out.mono HTt.out.1.bel.size))
            obtain ⟨Y, hY⟩ : ∃ Y, Y = sureF gv ps (k + 1) (orgP p) := ⟨_, rfl⟩
            have hYC := HSL.out.1.1
            rw [← hY] at hYC
            have hYd : decide (C < Y) = false := decide_eq_false (by omega)
            have HY := Lib.hid hY
            have HK2 := Lib.hid ((hBj.out.block _ (lt_of_heap HTt.out.2.2.1)).trans HTt.out.2.2.1)
            have HTW := Lib.hid (HTt.out.1.grows hBj.out)
            clear hjl hY
            have e1 : decide (C = 0) = false := decide_eq_false HC0.out
            have e2 : (C == 0) = false := by simpa using HC0.out
            go_wp2_with (first
              | (show wpList _ _ _ (Oper.mk (some 145) _ _ _ _ _ :: _) _ _
                 refine wpList_lookOAG (.tmp 143) (.tmp 144) rfl rfl rfl HTW.out.map HOG.out rfl ?_
                 rw [← HY.out])
              | (show wpList _ _ _ (Oper.mk (some 144) _ _ _ _ _ :: _) _ _
                 refine wpList_load_blkG 54 (.tmp 17) rfl rfl rfl HK2.out [.int .i64 p.clone, .int .i64 p.cut, .int .i64 p.shot] at0 rowArr3 ?_))
            go_roundg gn
            case measure => omega
            case rel => exact ⟨k + 1, by omega, by go_num, _, HTt.out.2.2.2, HTW.out⟩
          | succ gh =>
            have hj : j < gv.length := by omega
            have hjz : (j : Int) < gv.length := by omega
            obtain ⟨d, q, hAV, hdB, hdc⟩ := vals_elem gvl_len HZ.out.2.2.v (by decide) hj
            subst hAV
            have hbwr := HBW.out wr (HTt.out.1.bel.trans (hBj.out.mono HTt.out.1.bel.size))
            have hyc : ∀ i u, (gvl gv[j])[i]? = some u → wr.cell? ⟨d, q + j * 10 + i, none⟩ = some u := fun i u hu => (hbwr.cell (p := ⟨d, q + j * 10 + i, none⟩) (by simp; omega)).trans (hdc i u hu)
            have hst := sumG_take (orgP p) gv j hj
            have htk := HTK.out _ (List.getElem_mem hj) p.cut
            have hsb := sumG_bnd (orgP p) (gv.take j)
            have hlt : (gv.take j).length ≤ 6 := by rw [List.length_take]; omega
            generalize gv[j] = y at hyc hst htk
            generalize sumG (orgP p) (gv.take j) = S0 at hst hsb ⊢
            have hsb0 := hsb.1
            have hsb1 : S0 ≤ 180 := by omega
            have HYC := Lib.hid hyc
            have HST := Lib.hid hst
            have HTKY := Lib.hid htk
            have HPB := Lib.hid ((hBj.out.block _ (lt_of_heap HTt.out.2.1)).trans HTt.out.2.1)
            have HBWR := Lib.hid hbwr
            clear hyc hst htk hdc hsb hlt hbwr
            have hcu : cuG (orgP p) y = decide (y.g.id = p.clone) := rfl
            by_cases hcc : y.g.id = p.clone
            · have e1 : decide (y.g.id = p.clone) = true := decide_eq_true hcc
              have e2 : decide (¬ y.g.id = p.clone) = false := by simp [hcc]
              have e3 : (y.g.id == p.clone) = true := by simp [hcc]
              have e4 : (y.g.id != p.clone) = false := by simp [hcc]
              have hko : kOf (orgP p) y = sumT p.shot (takenVal y.g p.cut) := by rw [kOf, if_pos (hcu.trans e1)]; rfl
              have htok := takenVal_ok y.g p.cut
              have htl := takenVal_len y.g p.cut
              have htx := HTKY.out
              have hst := HST.out
              rw [hko] at hst
              unfold TakePost at htx
              simp only [← gvl_grv] at htx
              generalize takenVal y.g p.cut = ts2 at hst htok htl htx
              generalize standErr y.g p.cut = er at htx
              have HST2 := Lib.hid hst
              have HTOK := Lib.hid htok
              have HTX := Lib.hid htx
              clear hcc hcu hko hst htok htx
              go_wp2_with (first
                | (go_at_call 38
                   refine (HTX.out w11 (HBWR.out.trans (H11.out.1.mono HBWR.out.size))).mono ?_
                   rintro e w12 ⟨A12, c12, rfl, hv12, hB12⟩
                   have H12 := Lib.hid (And.intro (H11.out.1.trans (hB12.mono H11.out.1.size)) hv12)
                   clear hv12 hB12 q1 q2 q3)
                | (show wpList _ _ _ (Oper.mk (some 111) _ _ _ _ _ :: _) _ _
                   refine wpList_load_blk 74 (.tmp 20) rfl rfl rfl H11.out.2 (gvl y) at0 rowGroveA ?_)
                | (show wpList _ _ _ (Oper.mk (some 104) _ _ _ _ _ :: _) _ _
                   refine wpList_load_at 74 (.tmp 103) rfl rfl rfl (gvl y) HYC.out rowGroveA ?_)
                | (show wpList _ _ _ (Oper.mk none (Op.store _ (Operand.tmp 20) (Operand.tmp 104)) _ _ _ _ :: _) _ _
                   refine wpList_store_blk 74 (.tmp 20) (.tmp 104) (cs := gvl y) (L := [.int .i64 0, .int .i64 0, .int .i64 0, .int .i64 0, .int .i64 0, .int .i64 0, .int .i64 0, .int .i64 0, .slice none 0 0, .slice none 0 0]) rfl rfl rfl rfl rfl (alloc_at0 _ _) (by first | rfl | (simp [pcl_len, gvl_len, tkl_len])) (fun u hu => gvl_one [y] u (by simpa using hu)) rowGroveA ?_
                   intro w11 hP hM
                   rw [splice_whole (by first | rfl | (simp [pcl_len, gvl_len, tkl_len]))] at hM
                   have hb : Below wr.heap.size wr w11 := (grow1 wr _).trans (hP.below (Nat.le_refl _))
                   have q1 : w11.cell? ⟨wr.heap.size, 0, none⟩ = some (.int .i64 y.g.id) := cell_of_row w11 wr.heap.size 0 _ _ _ hM
                   have q2 : w11.cell? ⟨pb, 1, none⟩ = some (.int .i64 p.clone) := cell_of_row w11 pb 1 _ _ _ ((hb.block _ (lt_of_heap HPB.out)).trans HPB.out)
                   have q3 : w11.cell? ⟨pb, 2, none⟩ = some (.int .i64 p.cut) := cell_of_row w11 pb 2 _ _ _ ((hb.block _ (lt_of_heap HPB.out)).trans HPB.out)
                   have H11 := Lib.hid (And.intro hb hM)
                   clear hP hM hb))
              obtain ⟨wp, rfl⟩ : ∃ wp : World, wp = wr := ⟨_, rfl⟩
              have ht0 : S0 + sumT p.shot (ts2.take 0) = S0 := by simp [sumT]
              go_loopg [18, 119] ts2.length (fun gi s18 s119 wv => ∃ i : Nat, i + gi = ts2.length ∧ s18 = .int .i64 (S0 + sumT p.shot (ts2.take i)) ∧ s119 = .int .i64 i ∧ Hid (Below w12.heap.size w12 wv))
              case atStart => exact ⟨0, by omega, by rw [ht0], rfl, Below.refl _ _⟩
              case round =>
                obtain ⟨i, hig, rfl, rfl, hBi⟩ := hrel
                clear ht0
                have hwv := hBi.out.size
                cases gk with
                | zero =>
                  have hil : i = ts2.length := by omega
                  have hin : ¬ (i : Int) < ts2.length := by omega
                  rw [hil, List.take_of_length_le (Nat.le_refl _), ← HST2.out]
                  clear hil
                  go_wp2
                  go_roundg gh
                  case measure => omega
                  case rel => exact ⟨j + 1, by omega, rfl, by go_num, hBj.out.trans ((H12.out.1.trans (hBi.out.mono H12.out.1.size)).mono hwz)⟩
                | succ gi =>
                  have hi : i < ts2.length := by omega
                  have hiz : (i : Int) < ts2.length := by omega
                  have hvt : Vals w12 w12.heap.size A12 (ts2.flatMap tkl) := H12.out.2
                  obtain ⟨d2, q2, hA2, hd2, hdc2⟩ := vals_elem tkl_len hvt (by decide) hi
                  subst hA2
                  have htc : ∀ n u, (tkl ts2[i])[n]? = some u → wr.cell? ⟨d2, q2 + i * 2 + n, none⟩ = some u := fun n u hu => (hBi.out.cell (p := ⟨d2, q2 + i * 2 + n, none⟩) (by simp; omega)).trans (hdc2 n u hu)
                  have hts := sumT_take p.shot ts2 i hi
                  have htb := sumT_bnd p.shot (HTOK.out.take i)
                  have hps := HTOK.out.pos _ (List.getElem_mem hi)
                  generalize ts2[i] = s at htc hts hps
                  generalize sumT p.shot (ts2.take i) = S1 at hts htb ⊢
                  obtain ⟨s1, s2⟩ := s
                  obtain ⟨hp1, hp2⟩ := hps
                  obtain ⟨hb1, hb2⟩ := htb
                  simp only at hts hp1 hp2
                  have hw1 : IntKind.i64.wrap (S0 + S1 + s2) = S0 + S1 + s2 := by rw [IntKind.wrap_i64]; omega
                  have HTC := Lib.hid htc
                  have HTS := Lib.hid hts
                  have HPB2 := Lib.hid ((hBi.out.block _ (Nat.lt_of_lt_of_le (lt_of_heap HPB.out) H12.out.1.size)).trans ((H12.out.1.block _ (lt_of_heap HPB.out)).trans HPB.out))
                  clear htc hts hdc2 hvt
                  by_cases hss : s1 = p.shot
                  · have e1 : decide (s1 = p.shot) = true := decide_eq_true hss
                    have e2 : (s1 == p.shot) = true := by simp [hss]
                    have HSS := Lib.hid hss
                    clear hss
                    go_wp2_with (first
                      | (show wpList _ _ _ (Oper.mk (some 122) _ _ _ _ _ :: _) _ _
                         refine wpList_load_at 101 (.tmp 121) rfl rfl rfl (tkl (s1, s2)) HTC.out rowTakeA ?_)
                      | (show wpList _ _ _ (Oper.mk none (Op.store _ (Operand.tmp 24) (Operand.tmp 122)) _ _ _ _ :: _) _ _
                         refine wpList_store_blk 101 (.tmp 24) (.tmp 122) (cs := tkl (s1, s2)) (L := [.int .i64 0, .int .i64 0]) rfl rfl rfl rfl rfl (alloc_at0 _ _) (by first | rfl | (simp [pcl_len, gvl_len, tkl_len])) (fun u hu => tkl_one [(s1, s2)] u (by simpa using hu)) rowTakeA ?_
                         intro w13 hP hM
                         rw [splice_whole (by first | rfl | (simp [pcl_len, gvl_len, tkl_len]))] at hM
                         have hb : Below wr.heap.size wr w13 := (grow1 wr _).trans (hP.below (Nat.le_refl _))
                         have r1 : w13.cell? ⟨wr.heap.size, 0, none⟩ = some (.int .i64 s1) := cell_of_row w13 wr.heap.size 0 _ _ _ hM
                         have r2 : w13.cell? ⟨wr.heap.size, 1, none⟩ = some (.int .i64 s2) := cell_of_row w13 wr.heap.size 1 _ _ _ hM
                         have r3 : w13.cell? ⟨pb, 3, none⟩ = some (.int .i64 p.shot) := cell_of_row w13 pb 3 _ _ _ ((hb.block _ (lt_of_heap HPB2.out)).trans HPB2.out)
                         have H13 := Lib.hid hb
                         clear hP hM hb))
                    go_roundg gi
                    case measure => omega
                    case rel => exact ⟨i + 1, by omega, by rw [HTS.out, if_pos HSS.out]; try rw [Int.add_assoc], by go_num, hBi.out.trans (H13.out.mono hwv)⟩
                  · have e1 : decide (s1 = p.shot) = false := decide_eq_false hss
                    have e2 : (s1 == p.shot) = false := by simp [hss]
                    have HSS := Lib.hid hss
                    clear hss
                    go_wp2_with (first
                      | (show wpList _ _ _ (Oper.mk (some 122) _ _ _ _ _ :: _) _ _
                         refine wpList_load_at 101 (.tmp 121) rfl rfl rfl (tkl (s1, s2)) HTC.out rowTakeA ?_)
                      | (show wpList _ _ _ (Oper.mk none (Op.store _ (Operand.tmp 24) (Operand.tmp 122)) _ _ _ _ :: _) _ _
                         refine wpList_store_blk 101 (.tmp 24) (.tmp 122) (cs := tkl (s1, s2)) (L := [.int .i64 0, .int .i64 0]) rfl rfl rfl rfl rfl (alloc_at0 _ _) (by first | rfl | (simp [pcl_len, gvl_len, tkl_len])) (fun u hu => tkl_one [(s1, s2)] u (by simpa using hu)) rowTakeA ?_
                         intro w13 hP hM
                         rw [splice_whole (by first | rfl | (simp [pcl_len, gvl_len, tkl_len]))] at hM
                         have hb : Below wr.heap.size wr w13 := (grow1 wr _).trans (hP.below (Nat.le_refl _))
                         have r1 : w13.cell? ⟨wr.heap.size, 0, none⟩ = some (.int .i64 s1) := cell_of_row w13 wr.heap.size 0 _ _ _ hM
                         have r2 : w13.cell? ⟨wr.heap.size, 1, none⟩ = some (.int .i64 s2) := cell_of_row w13 wr.heap.size 1 _ _ _ hM
                         have r3 : w13.cell? ⟨pb, 3, none⟩ = some (.int .i64 p.shot) := cell_of_row w13 pb 3 _ _ _ ((hb.block _ (lt_of_heap HPB2.out)).trans HPB2.out)
                         have H13 := Lib.hid hb
                         clear hP hM hb))
                    go_roundg gi
                    case measure => omega
                    case rel => exact ⟨i + 1, by omega, by rw [HTS.out, if_neg HSS.out]; try rw [Int.add_zero], by go_num, hBi.out.trans (H13.out.mono hwv)⟩
            · have e1 : decide (y.g.id = p.clone) = false := decide_eq_false hcc
              have e2 : decide (¬ y.g.id = p.clone) = true := by simp [hcc]
              have e3 : (y.g.id == p.clone) = false := by simp [hcc]
              have e4 : (y.g.id != p.clone) = true := by simp [hcc]
              have hko : kOf (orgP p) y = 0 := by rw [kOf, hcu.trans e1]; rfl
              have hst := HST.out
              rw [hko, Int.add_zero] at hst
              have HST2 := Lib.hid hst
              clear hcc hcu hko hst
              go_wp2_with (first
                | (show wpList _ _ _ (Oper.mk (some 104) _ _ _ _ _ :: _) _ _
                   refine wpList_load_at 74 (.tmp 103) rfl rfl rfl (gvl y) HYC.out rowGroveA ?_)
                | (show wpList _ _ _ (Oper.mk none (Op.store _ (Operand.tmp 20) (Operand.tmp 104)) _ _ _ _ :: _) _ _
                   refine wpList_store_blk 74 (.tmp 20) (.tmp 104) (cs := gvl y) (L := [.int .i64 0, .int .i64 0, .int .i64 0, .int .i64 0, .int .i64 0, .int .i64 0, .int .i64 0, .int .i64 0, .slice none 0 0, .slice none 0 0]) rfl rfl rfl rfl rfl (alloc_at0 _ _) (by first | rfl | (simp [pcl_len, gvl_len, tkl_len])) (fun u hu => gvl_one [y] u (by simpa using hu)) rowGroveA ?_
                   intro w11 hP hM
                   rw [splice_whole (by first | rfl | (simp [pcl_len, gvl_len, tkl_len]))] at hM
                   have hb : Below wr.heap.size wr w11 := (grow1 wr _).trans (hP.below (Nat.le_refl _))
                   have q1 : w11.cell? ⟨wr.heap.size, 0, none⟩ = some (.int .i64 y.g.id) := cell_of_row w11 wr.heap.size 0 _ _ _ hM
                   have q2 : w11.cell? ⟨pb, 1, none⟩ = some (.int .i64 p.clone) := cell_of_row w11 pb 1 _ _ _ ((hb.block _ (lt_of_heap HPB.out)).trans HPB.out)
                   have q3 : w11.cell? ⟨pb, 2, none⟩ = some (.int .i64 p.cut) := cell_of_row w11 pb 2 _ _ _ ((hb.block _ (lt_of_heap HPB.out)).trans HPB.out)
                   have H11 := Lib.hid (And.intro hb hM)
                   clear hP hM hb))
              go_roundg gh
              case measure => omega
              case rel => exact ⟨j + 1, by omega, by rw [HST2.out], by go_num, hBj.out.trans (H11.out.1.mono hwz)⟩
      · have hF := hsn h2
        have hkb : (knO gv ps (orgP p) == 2) = false := by simpa using h2
        have hkd : decide (knO gv ps (orgP p) = 2) = false := decide_eq_false h2
        generalize knO gv ps (orgP p) = kn at hkc hkz0 hkb hkd
        have HKC := Lib.hid hkc
        have HF := Lib.hid hF
        have HKZ := Lib.hid hkz0
        clear hkc hsy hsn hkz0 h2 hF
        go_wp2_with (first
          | (show wpList _ _ _ (Oper.mk none (Op.store _ (Operand.tmp 17) (Operand.tmp 87)) _ _ _ _ :: _) _ _
             refine wpList_store_blk 54 (.tmp 17) (.tmp 87) (cs := [.int .i64 p.clone, .int .i64 p.cut, .int .i64 p.shot]) (L := [.int .i64 0, .int .i64 0, .int .i64 0]) rfl rfl rfl rfl rfl (alloc_at0 _ _) (by first | rfl | (simp [pcl_len, gvl_len, tkl_len])) (fun u hu => by simp only [List.mem_cons, List.not_mem_nil, or_false] at hu; rcases hu with rfl | rfl | rfl <;> rfl) rowArr3 ?_
             intro w9 hP hM
             rw [splice_whole (by first | rfl | (simp [pcl_len, gvl_len, tkl_len]))] at hM
             have hb : Below w8.heap.size w8 w9 := (grow1 w8 _).trans (hP.below (Nat.le_refl _))
             have hb9 := H8.out.1.trans (hb.mono H8.out.1.size)
             have hp9 := (hb.block _ (lt_of_heap H8.out.2)).trans H8.out.2
             have fk := HKC.out w9 (HB6.out w9 hb9)
             have H9 := Lib.hid (And.intro hb9 (And.intro hp9 hM))
             clear hb9 hp9 g1 g2 g3
             clear hP hM hb)
          | (show wpList _ _ _ (Oper.mk (some 80) _ _ _ _ _ :: _) _ _
             refine wpList_load_at 56 (.tmp 79) rfl rfl rfl (pcl p) HC.out rowPole ?_)
          | (show wpList _ _ _ (Oper.mk none (Op.store _ (Operand.tmp 16) (Operand.tmp 80)) _ _ _ _ :: _) _ _
             refine wpList_store_blk 56 (.tmp 16) (.tmp 80) (cs := pcl p) (L := [.int .i64 0, .int .i64 0, .int .i64 0, .int .i64 0, .int .i64 0, .int .i64 0, .int .i64 0, .int .i64 0, .int .i64 0, .int .i64 0, .int .i64 0, .int .i64 0]) rfl rfl rfl rfl rfl (alloc_at0 _ _) (by first | rfl | (simp [pcl_len, gvl_len, tkl_len])) (fun u hu => pcl_one [p] u (by simpa using hu)) rowPole ?_
             intro w8 hP hM
             rw [splice_whole (by first | rfl | (simp [pcl_len, gvl_len, tkl_len]))] at hM
             have hb : Below wr.heap.size wr w8 := (grow1 wr _).trans (hP.below (Nat.le_refl _))
             have g1 : w8.cell? ⟨wr.heap.size, 1, none⟩ = some (.int .i64 p.clone) := cell_of_row w8 wr.heap.size 1 _ _ _ hM
             have g2 : w8.cell? ⟨wr.heap.size, 2, none⟩ = some (.int .i64 p.cut) := cell_of_row w8 wr.heap.size 2 _ _ _ hM
             have g3 : w8.cell? ⟨wr.heap.size, 3, none⟩ = some (.int .i64 p.shot) := cell_of_row w8 wr.heap.size 3 _ _ _ hM
             have H8 := Lib.hid (And.intro hb hM)
             clear hP hM hb))
        have hpb := H9.out.2.1
        have hkb := H9.out.2.2
        obtain ⟨wt, hwt⟩ : ∃ wt, wt = w9 := ⟨_, rfl⟩
        have HTt := Lib.hid (show TrA w6 (sureF gv ps (k + 1)) m wt ∧ wt.heap[wr.heap.size]? = some (.cells (pcl p).toArray 56 (0, 0)) ∧ wt.heap[w8.heap.size]? = some (.cells [.int .i64 p.clone, .int .i64 p.cut, .int .i64 p.shot].toArray 54 (0, 0)) ∧ m ≤ k + 1 by rw [hwt, HF.out]; exact ⟨HT.out.grows H9.out.1, hpb, hkb, by have := HMK.out; omega⟩)
        rw [← hwt]
        clear hpb hkb fk hwt
        obtain ⟨pb, hpbe⟩ : ∃ pb, pb = wr.heap.size := ⟨_, rfl⟩
        obtain ⟨kb, hkbe⟩ : ∃ kb, kb = w8.heap.size := ⟨_, rfl⟩
        rw [← hpbe, ← hkbe] at HTt
        rw [← hpbe, ← hkbe]
        clear hpbe hkbe
        obtain ⟨wo, rfl⟩ : ∃ wo : World, wo = wr := ⟨_, rfl⟩
        go_wp2
        have hs0 : sumG (orgP p) (gv.take 0) = 0 := rfl
        go_loopg [18, 101] gv.length (fun gh s18 s101 wz => ∃ j : Nat, j + gh = gv.length ∧ s18 = .int .i64 (sumG (orgP p) (gv.take j)) ∧ s101 = .int .i64 j ∧ Hid (Below wt.heap.size wt wz))
        case atStart => exact ⟨0, by omega, by rw [hs0], rfl, Below.refl _ _⟩
        case round =>
          obtain ⟨j, hjg, rfl, rfl, hBj⟩ := hrel
          clear hs0
          have hwz := hBj.out.size
          cases gk with
          | zero =>
            have hjl : j = gv.length := by omega
            have hjn : ¬ (j : Int) < gv.length := by omega
            rw [hjl, List.take_of_length_le (Nat.le_refl _), HSG2.out.1]
            have fk := HKC.out wr (HTt.out.1.bel.trans (hBj.out.mono HTt.out.1.bel.size))
            obtain ⟨Y, hY⟩ : ∃ Y, Y = sureF gv ps (k + 1) (orgP p) := ⟨_, rfl⟩
            have hYC := HSL.out.1.1
            rw [← hY] at hYC
            have hYd : decide (C < Y) = false := decide_eq_false (by omega)
            have HY := Lib.hid hY
            have HK2 := Lib.hid ((hBj.out.block _ (lt_of_heap HTt.out.2.2.1)).trans HTt.out.2.2.1)
            have HTW := Lib.hid (HTt.out.1.grows hBj.out)
            clear hjl hY
            by_cases hC0 : C = 0
            · have hkn0 : kn = 0 := HKZ.out.2 hC0
              have e1 : decide (C = 0) = true := decide_eq_true hC0
              have e2 : (C == 0) = true := by simp [hC0]
              have e3 : decide (kn = 0) = true := decide_eq_true hkn0
              have e4 : (kn == 0) = true := by simp [hkn0]
              clear hC0 hkn0
              go_wp2_with (first
                | (show wpList _ _ _ (Oper.mk (some 145) _ _ _ _ _ :: _) _ _
                   refine wpList_lookOAG (.tmp 143) (.tmp 144) rfl rfl rfl HTW.out.map HOG.out rfl ?_
                   rw [← HY.out])
                | (show wpList _ _ _ (Oper.mk (some 144) _ _ _ _ _ :: _) _ _
                   refine wpList_load_blkG 54 (.tmp 17) rfl rfl rfl HK2.out [.int .i64 p.clone, .int .i64 p.cut, .int .i64 p.shot] at0 rowArr3 ?_))
              go_roundg gn
              case measure => omega
              case rel => exact ⟨k + 1, by omega, by go_num, _, HTt.out.2.2.2, HTW.out⟩
            · have hkn0 : ¬ kn = 0 := fun h => hC0 (HKZ.out.1 h)
              have e1 : decide (C = 0) = false := decide_eq_false hC0
              have e2 : (C == 0) = false := by simpa using hC0
              have e3 : decide (kn = 0) = false := decide_eq_false hkn0
              have e4 : (kn == 0) = false := by simpa using hkn0
              clear hC0 hkn0
              go_wp2_with (first
                | (show wpList _ _ _ (Oper.mk (some 145) _ _ _ _ _ :: _) _ _
                   refine wpList_lookOAG (.tmp 143) (.tmp 144) rfl rfl rfl HTW.out.map HOG.out rfl ?_
                   rw [← HY.out])
                | (show wpList _ _ _ (Oper.mk (some 144) _ _ _ _ _ :: _) _ _
                   refine wpList_load_blkG 54 (.tmp 17) rfl rfl rfl HK2.out [.int .i64 p.clone, .int .i64 p.cut, .int .i64 p.shot] at0 rowArr3 ?_))
              go_roundg gn
              case measure => omega
              case rel => exact ⟨k + 1, by omega, by go_num, _, HTt.out.2.2.2, HTW.out⟩
          | succ gh =>
            have hj : j < gv.length := by omega
            have hjz : (j : Int) < gv.length := by omega
            obtain ⟨d, q, hAV, hdB, hdc⟩ := vals_elem gvl_len HZ.out.2.2.v (by decide) hj
            subst hAV
            have hbwr := HBW.out wr (HTt.out.1.bel.trans (hBj.out.mono HTt.out.1.bel.size))
            have hyc : ∀ i u, (gvl gv[j])[i]? = some u → wr.cell? ⟨d, q + j * 10 + i, none⟩ = some u := fun i u hu => (hbwr.cell (p := ⟨d, q + j * 10 + i, none⟩) (by simp; omega)).trans (hdc i u hu)
            have hst := sumG_take (orgP p) gv j hj
            have htk := HTK.out _ (List.getElem_mem hj) p.cut
            have hsb := sumG_bnd (orgP p) (gv.take j)
            have hlt : (gv.take j).length ≤ 6 := by rw [List.length_take]; omega
            generalize gv[j] = y at hyc hst htk
            generalize sumG (orgP p) (gv.take j) = S0 at hst hsb ⊢
            have hsb0 := hsb.1
            have hsb1 : S0 ≤ 180 := by omega
            have HYC := Lib.hid hyc
            have HST := Lib.hid hst
            have HTKY := Lib.hid htk
            have HPB := Lib.hid ((hBj.out.block _ (lt_of_heap HTt.out.2.1)).trans HTt.out.2.1)
            have HBWR := Lib.hid hbwr
            clear hyc hst htk hdc hsb hlt hbwr
            have hcu : cuG (orgP p) y = decide (y.g.id = p.clone) := rfl
            by_cases hcc : y.g.id = p.clone
            · have e1 : decide (y.g.id = p.clone) = true := decide_eq_true hcc
              have e2 : decide (¬ y.g.id = p.clone) = false := by simp [hcc]
              have e3 : (y.g.id == p.clone) = true := by simp [hcc]
              have e4 : (y.g.id != p.clone) = false := by simp [hcc]
              have hko : kOf (orgP p) y = sumT p.shot (takenVal y.g p.cut) := by rw [kOf, if_pos (hcu.trans e1)]; rfl
              have htok := takenVal_ok y.g p.cut
              have htl := takenVal_len y.g p.cut
              have htx := HTKY.out
              have hst := HST.out
              rw [hko] at hst
              unfold TakePost at htx
              simp only [← gvl_grv] at htx
              generalize takenVal y.g p.cut = ts2 at hst htok htl htx
              generalize standErr y.g p.cut = er at htx
              have HST2 := Lib.hid hst
              have HTOK := Lib.hid htok
              have HTX := Lib.hid htx
              clear hcc hcu hko hst htok htx
              go_wp2_with (first
                | (go_at_call 38
                   refine (HTX.out w11 (HBWR.out.trans (H11.out.1.mono HBWR.out.size))).mono ?_
                   rintro e w12 ⟨A12, c12, rfl, hv12, hB12⟩
                   have H12 := Lib.hid (And.intro (H11.out.1.trans (hB12.mono H11.out.1.size)) hv12)
                   clear hv12 hB12 q1 q2 q3)
                | (show wpList _ _ _ (Oper.mk (some 111) _ _ _ _ _ :: _) _ _
                   refine wpList_load_blk 74 (.tmp 20) rfl rfl rfl H11.out.2 (gvl y) at0 rowGroveA ?_)
                | (show wpList _ _ _ (Oper.mk (some 104) _ _ _ _ _ :: _) _ _
                   refine wpList_load_at 74 (.tmp 103) rfl rfl rfl (gvl y) HYC.out rowGroveA ?_)
                | (show wpList _ _ _ (Oper.mk none (Op.store _ (Operand.tmp 20) (Operand.tmp 104)) _ _ _ _ :: _) _ _
                   refine wpList_store_blk 74 (.tmp 20) (.tmp 104) (cs := gvl y) (L := [.int .i64 0, .int .i64 0, .int .i64 0, .int .i64 0, .int .i64 0, .int .i64 0, .int .i64 0, .int .i64 0, .slice none 0 0, .slice none 0 0]) rfl rfl rfl rfl rfl (alloc_at0 _ _) (by first | rfl | (simp [pcl_len, gvl_len, tkl_len])) (fun u hu => gvl_one [y] u (by simpa using hu)) rowGroveA ?_
                   intro w11 hP hM
                   rw [splice_whole (by first | rfl | (simp [pcl_len, gvl_len, tkl_len]))] at hM
                   have hb : Below wr.heap.size wr w11 := (grow1 wr _).trans (hP.below (Nat.le_refl _))
                   have q1 : w11.cell? ⟨wr.heap.size, 0, none⟩ = some (.int .i64 y.g.id) := cell_of_row w11 wr.heap.size 0 _ _ _ hM
                   have q2 : w11.cell? ⟨pb, 1, none⟩ = some (.int .i64 p.clone) := cell_of_row w11 pb 1 _ _ _ ((hb.block _ (lt_of_heap HPB.out)).trans HPB.out)
                   have q3 : w11.cell? ⟨pb, 2, none⟩ = some (.int .i64 p.cut) := cell_of_row w11 pb 2 _ _ _ ((hb.block _ (lt_of_heap HPB.out)).trans HPB.out)
                   have H11 := Lib.hid (And.intro hb hM)
                   clear hP hM hb))
              obtain ⟨wp, rfl⟩ : ∃ wp : World, wp = wr := ⟨_, rfl⟩
              have ht0 : S0 + sumT p.shot (ts2.take 0) = S0 := by simp [sumT]
              go_loopg [18, 119] ts2.length (fun gi s18 s119 wv => ∃ i : Nat, i + gi = ts2.length ∧ s18 = .int .i64 (S0 + sumT p.shot (ts2.take i)) ∧ s119 = .int .i64 i ∧ Hid (Below w12.heap.size w12 wv))
              case atStart => exact ⟨0, by omega, by rw [ht0], rfl, Below.refl _ _⟩
              case round =>
                obtain ⟨i, hig, rfl, rfl, hBi⟩ := hrel
                clear ht0
                have hwv := hBi.out.size
                cases gk with
                | zero =>
                  have hil : i = ts2.length := by omega
                  have hin : ¬ (i : Int) < ts2.length := by omega
                  rw [hil, List.take_of_length_le (Nat.le_refl _), ← HST2.out]
                  clear hil
                  go_wp2
                  go_roundg gh
                  case measure => omega
                  case rel => exact ⟨j + 1, by omega, rfl, by go_num, hBj.out.trans ((H12.out.1.trans (hBi.out.mono H12.out.1.size)).mono hwz)⟩
                | succ gi =>
                  have hi : i < ts2.length := by omega
                  have hiz : (i : Int) < ts2.length := by omega
                  have hvt : Vals w12 w12.heap.size A12 (ts2.flatMap tkl) := H12.out.2
                  obtain ⟨d2, q2, hA2, hd2, hdc2⟩ := vals_elem tkl_len hvt (by decide) hi
                  subst hA2
                  have htc : ∀ n u, (tkl ts2[i])[n]? = some u → wr.cell? ⟨d2, q2 + i * 2 + n, none⟩ = some u := fun n u hu => (hBi.out.cell (p := ⟨d2, q2 + i * 2 + n, none⟩) (by simp; omega)).trans (hdc2 n u hu)
                  have hts := sumT_take p.shot ts2 i hi
                  have htb := sumT_bnd p.shot (HTOK.out.take i)
                  have hps := HTOK.out.pos _ (List.getElem_mem hi)
                  generalize ts2[i] = s at htc hts hps
                  generalize sumT p.shot (ts2.take i) = S1 at hts htb ⊢
                  obtain ⟨s1, s2⟩ := s
                  obtain ⟨hp1, hp2⟩ := hps
                  obtain ⟨hb1, hb2⟩ := htb
                  simp only at hts hp1 hp2
                  have hw1 : IntKind.i64.wrap (S0 + S1 + s2) = S0 + S1 + s2 := by rw [IntKind.wrap_i64]; omega
                  have HTC := Lib.hid htc
                  have HTS := Lib.hid hts
                  have HPB2 := Lib.hid ((hBi.out.block _ (Nat.lt_of_lt_of_le (lt_of_heap HPB.out) H12.out.1.size)).trans ((H12.out.1.block _ (lt_of_heap HPB.out)).trans HPB.out))
                  clear htc hts hdc2 hvt
                  by_cases hss : s1 = p.shot
                  · have e1 : decide (s1 = p.shot) = true := decide_eq_true hss
                    have e2 : (s1 == p.shot) = true := by simp [hss]
                    have HSS := Lib.hid hss
                    clear hss
                    go_wp2_with (first
                      | (show wpList _ _ _ (Oper.mk (some 122) _ _ _ _ _ :: _) _ _
                         refine wpList_load_at 101 (.tmp 121) rfl rfl rfl (tkl (s1, s2)) HTC.out rowTakeA ?_)
                      | (show wpList _ _ _ (Oper.mk none (Op.store _ (Operand.tmp 24) (Operand.tmp 122)) _ _ _ _ :: _) _ _
                         refine wpList_store_blk 101 (.tmp 24) (.tmp 122) (cs := tkl (s1, s2)) (L := [.int .i64 0, .int .i64 0]) rfl rfl rfl rfl rfl (alloc_at0 _ _) (by first | rfl | (simp [pcl_len, gvl_len, tkl_len])) (fun u hu => tkl_one [(s1, s2)] u (by simpa using hu)) rowTakeA ?_
                         intro w13 hP hM
                         rw [splice_whole (by first | rfl | (simp [pcl_len, gvl_len, tkl_len]))] at hM
                         have hb : Below wr.heap.size wr w13 := (grow1 wr _).trans (hP.below (Nat.le_refl _))
                         have r1 : w13.cell? ⟨wr.heap.size, 0, none⟩ = some (.int .i64 s1) := cell_of_row w13 wr.heap.size 0 _ _ _ hM
                         have r2 : w13.cell? ⟨wr.heap.size, 1, none⟩ = some (.int .i64 s2) := cell_of_row w13 wr.heap.size 1 _ _ _ hM
                         have r3 : w13.cell? ⟨pb, 3, none⟩ = some (.int .i64 p.shot) := cell_of_row w13 pb 3 _ _ _ ((hb.block _ (lt_of_heap HPB2.out)).trans HPB2.out)
                         have H13 := Lib.hid hb
                         clear hP hM hb))
                    go_roundg gi
                    case measure => omega
                    case rel => exact ⟨i + 1, by omega, by rw [HTS.out, if_pos HSS.out]; try rw [Int.add_assoc], by go_num, hBi.out.trans (H13.out.mono hwv)⟩
                  · have e1 : decide (s1 = p.shot) = false := decide_eq_false hss
                    have e2 : (s1 == p.shot) = false := by simp [hss]
                    have HSS := Lib.hid hss
                    clear hss
                    go_wp2_with (first
                      | (show wpList _ _ _ (Oper.mk (some 122) _ _ _ _ _ :: _) _ _
                         refine wpList_load_at 101 (.tmp 121) rfl rfl rfl (tkl (s1, s2)) HTC.out rowTakeA ?_)
                      | (show wpList _ _ _ (Oper.mk none (Op.store _ (Operand.tmp 24) (Operand.tmp 122)) _ _ _ _ :: _) _ _
                         refine wpList_store_blk 101 (.tmp 24) (.tmp 122) (cs := tkl (s1, s2)) (L := [.int .i64 0, .int .i64 0]) rfl rfl rfl rfl rfl (alloc_at0 _ _) (by first | rfl | (simp [pcl_len, gvl_len, tkl_len])) (fun u hu => tkl_one [(s1, s2)] u (by simpa using hu)) rowTakeA ?_
                         intro w13 hP hM
                         rw [splice_whole (by first | rfl | (simp [pcl_len, gvl_len, tkl_len]))] at hM
                         have hb : Below wr.heap.size wr w13 := (grow1 wr _).trans (hP.below (Nat.le_refl _))
                         have r1 : w13.cell? ⟨wr.heap.size, 0, none⟩ = some (.int .i64 s1) := cell_of_row w13 wr.heap.size 0 _ _ _ hM
                         have r2 : w13.cell? ⟨wr.heap.size, 1, none⟩ = some (.int .i64 s2) := cell_of_row w13 wr.heap.size 1 _ _ _ hM
                         have r3 : w13.cell? ⟨pb, 3, none⟩ = some (.int .i64 p.shot) := cell_of_row w13 pb 3 _ _ _ ((hb.block _ (lt_of_heap HPB2.out)).trans HPB2.out)
                         have H13 := Lib.hid hb
                         clear hP hM hb))
                    go_roundg gi
                    case measure => omega
                    case rel => exact ⟨i + 1, by omega, by rw [HTS.out, if_neg HSS.out]; try rw [Int.add_zero], by go_num, hBi.out.trans (H13.out.mono hwv)⟩
            · have e1 : decide (y.g.id = p.clone) = false := decide_eq_false hcc
              have e2 : decide (¬ y.g.id = p.clone) = true := by simp [hcc]
              have e3 : (y.g.id == p.clone) = false := by simp [hcc]
              have e4 : (y.g.id != p.clone) = true := by simp [hcc]
              have hko : kOf (orgP p) y = 0 := by rw [kOf, hcu.trans e1]; rfl
              have hst := HST.out
              rw [hko, Int.add_zero] at hst
              have HST2 := Lib.hid hst
              clear hcc hcu hko hst
              go_wp2_with (first
                | (show wpList _ _ _ (Oper.mk (some 104) _ _ _ _ _ :: _) _ _
                   refine wpList_load_at 74 (.tmp 103) rfl rfl rfl (gvl y) HYC.out rowGroveA ?_)
                | (show wpList _ _ _ (Oper.mk none (Op.store _ (Operand.tmp 20) (Operand.tmp 104)) _ _ _ _ :: _) _ _
                   refine wpList_store_blk 74 (.tmp 20) (.tmp 104) (cs := gvl y) (L := [.int .i64 0, .int .i64 0, .int .i64 0, .int .i64 0, .int .i64 0, .int .i64 0, .int .i64 0, .int .i64 0, .slice none 0 0, .slice none 0 0]) rfl rfl rfl rfl rfl (alloc_at0 _ _) (by first | rfl | (simp [pcl_len, gvl_len, tkl_len])) (fun u hu => gvl_one [y] u (by simpa using hu)) rowGroveA ?_
                   intro w11 hP hM
                   rw [splice_whole (by first | rfl | (simp [pcl_len, gvl_len, tkl_len]))] at hM
                   have hb : Below wr.heap.size wr w11 := (grow1 wr _).trans (hP.below (Nat.le_refl _))
                   have q1 : w11.cell? ⟨wr.heap.size, 0, none⟩ = some (.int .i64 y.g.id) := cell_of_row w11 wr.heap.size 0 _ _ _ hM
                   have q2 : w11.cell? ⟨pb, 1, none⟩ = some (.int .i64 p.clone) := cell_of_row w11 pb 1 _ _ _ ((hb.block _ (lt_of_heap HPB.out)).trans HPB.out)
                   have q3 : w11.cell? ⟨pb, 2, none⟩ = some (.int .i64 p.cut) := cell_of_row w11 pb 2 _ _ _ ((hb.block _ (lt_of_heap HPB.out)).trans HPB.out)
                   have H11 := Lib.hid (And.intro hb hM)
                   clear hP hM hb))
              go_roundg gh
              case measure => omega
              case rel => exact ⟨j + 1, by omega, by rw [HST2.out], by go_num, hBj.out.trans (H11.out.1.mono hwz)⟩
    | zero =>
      have hkl : k = ps.length := by omega
      have hkn : ¬ (k : Int) < ps.length := by omega
      have hbr := HB6.out wr (Below.refl _ _)
      have hbw := H6.out.1.trans (hbr.mono H6.out.1.size)
      have m1 := (hbr.block _ (lt_of_heap H6.out.2.1)).trans H6.out.2.1
      have m2 := (hbr.block _ (lt_of_heap H6.out.2.2)).trans H6.out.2.2
      have f7 : wr.cell? ⟨w.heap.size, 0, none⟩ = some (.slice AP ps.length cp) := cell_of_row wr _ 0 _ _ _ m1
      have HR0 := Lib.hid (And.intro hbw (And.intro m1 m2))
      clear hbr hbw m1 m2 HT HMK HB6 H7 U6 HTA HPO HSG
      by_cases hg0 : gv.length = 0
      · have e1 : decide ((gv.length : Int) = 0) = true := decide_eq_true (by omega)
        have e2 : ((gv.length : Int) == 0) = true := by rw [beq_iff_eq]; omega
        have e3 : (gv.length : Int) = 0 := by omega
        go_wp2
        go_ret
        exact ⟨rfl, HR0.out.1⟩
      · have e1 : decide ((gv.length : Int) = 0) = false := decide_eq_false (by omega)
        have e2 : ((gv.length : Int) == 0) = false := by rw [beq_eq_false_iff_ne]; omega
        by_cases hp0 : ps.length = 0
        · have e3 : decide ((ps.length : Int) = 0) = true := decide_eq_true (by omega)
          have e4 : ((ps.length : Int) == 0) = true := by rw [beq_iff_eq]; omega
          go_wp2
          go_ret
          exact ⟨rfl, HR0.out.1⟩
        · have e3 : decide ((ps.length : Int) = 0) = false := decide_eq_false (by omega)
          have e4 : ((ps.length : Int) == 0) = false := by rw [beq_eq_false_iff_ne]; omega
          obtain ⟨j, hje⟩ : ∃ j : Nat, x.toNat % gv.length = j := ⟨_, rfl⟩
          have hj : j < gv.length := by rw [← hje]; exact Nat.mod_lt _ (by omega)
          have htm : x.tmod (gv.length : Int) = (j : Int) := by rw [tmodR hx0, hje]
          have hwx : IntKind.i64.wrap x = x := IntWalk.i64_in _ (by omega)
          have hwj : IntKind.i64.wrap (j : Int) = (j : Int) := IntWalk.i64_in _ (by omega)
          have hjz : (j : Int) < gv.length := by omega
          have hgz : ¬ (gv.length : Int) = 0 := by omega
          obtain ⟨d, q, hAV, hdB, hdc⟩ := vals_elem gvl_len HZ.out.2.2.v (by decide) hj
          subst hAV
          have hyc : ∀ i u, (gvl gv[j])[i]? = some u → wr.cell? ⟨d, q + j * 10 + i, none⟩ = some u := fun i u hu => (HR0.out.1.cell (p := ⟨d, q + j * 10 + i, none⟩) (by simp; omega)).trans (hdc i u hu)
          have hmy := List.getElem_mem hj
          have htx := HTK.out _ hmy yr
          generalize gv[j] = y at hyc hmy htx
          have hkn2 := fun (W : List Pol) (h : InvW (gvId y) yr (takenVal y.g yr) (takenVal y.g yr).length 0 W) => InvW.known HG6.out hmy h
          have htok := takenVal_ok y.g yr
          have htl := takenVal_len y.g yr
          unfold TakePost at htx
          simp only [← gvl_grv] at htx
          generalize takenVal y.g yr = ts2 at hkn2 htok htl htx
          generalize standErr y.g yr = er at htx
          have htw := fun (W : World) (hW : Below w.heap.size w W) => rfTwin_any ps ts AP cp AT ct B W (Nat.le_trans hB hW.size) (HZ.out.1.below (hW.mono hB)) (by omega) (by have := HTS.out; omega)
          unfold TwinPost at htw
          have HTW := Lib.hid htw
          have HTX := Lib.hid htx
          have HTOK := Lib.hid htok
          have HKN := Lib.hid hkn2
          have HYC := Lib.hid hyc
          clear htw htx htok hkn2 hyc hmy hdc hje HTK HTR
          go_wp2_with (first
            | (show wpList _ _ _ (Oper.mk none (Op.store _ (Operand.tmp 177) _) _ _ _ _ :: _) _ _
               refine wpList_store_v5 23 (.tmp 177) (.const (.slice none 0 0)) rfl rfl rfl rfl rfl rfl rfl (L := [Value.slice none 0 0, .slice A2 ts.length c2]) H12.out.2 (Nat.le_of_ble_eq_true rfl) infoTL5 ?_
               intro w13 hP hM
               have H13 := Lib.hid (And.intro hP (show w13.heap[w10.heap.size]? = some (.cells [Value.slice none 0 0, .slice none 0 0].toArray 25 (0, 0)) from hM))
               clear hP hM)
            | (show wpList _ _ _ (Oper.mk none (Op.store _ (Operand.tmp 176) _) _ _ _ _ :: _) _ _
               refine wpList_store_v5 22 (.tmp 176) (.const (.slice none 0 0)) rfl rfl rfl rfl rfl rfl rfl (L := [.slice A1 ps.length c1, .slice A2 ts.length c2]) H11.out.1 (Nat.le_of_ble_eq_true rfl) infoPL5 ?_
               intro w12 hP hM
               have H12 := Lib.hid (And.intro hP (show w12.heap[w10.heap.size]? = some (.cells [Value.slice none 0 0, .slice A2 ts.length c2].toArray 25 (0, 0)) from hM))
               clear hP hM)
            | (go_at_call 13
               refine (HTW.out w9 H9.out.1).mono ?_
               rintro e w10 ⟨v1, v2, rfl, ho, hB10⟩
               obtain ⟨A1, c1, rfl⟩ := own_slice ho.1
               obtain ⟨A2, c2, rfl⟩ := own_slice ho.2
               obtain ⟨w11, hw11⟩ : ∃ w11, w10.alloc (.cells #[.slice A1 ps.length c1, .slice A2 ts.length c2] 25) = w11 := ⟨_, rfl⟩
               have g11 : Grows w10 w11 := by rw [← hw11]; exact grow1 _ _
               have m11 : w11.heap[w10.heap.size]? = some (.cells [.slice A1 ps.length c1, .slice A2 ts.length c2].toArray 25 (0, 0)) := by rw [← hw11]; exact alloc_at0 _ _
               have H11 := Lib.hid (And.intro m11 (hB10.trans (g11.mono hB10.size)))
               clear ho g11 m11)
            | (show wpList _ _ _ (Oper.mk (some 174) _ _ _ _ _ :: _) _ _
               refine wpList_load_blk 25 (.tmp 5) rfl rfl rfl H9.out.2.2.1 [.slice AP ps.length cp, .slice AT ts.length ct] at0 rowSheetP ?_)
            | (go_at_call 38
               refine (HTX.out w8 H8.out.1).mono ?_
               rintro e w9 ⟨A9, c9, rfl, hv9, hB9⟩
               have H9 := Lib.hid (And.intro (H8.out.1.trans (hB9.mono H8.out.1.size)) (And.intro ((hB9.block _ (lt_of_heap H8.out.2.1)).trans H8.out.2.1) (And.intro ((hB9.block _ (lt_of_heap H8.out.2.2.1)).trans H8.out.2.2.1) (And.intro ((hB9.block _ (lt_of_heap H8.out.2.2.2)).trans H8.out.2.2.2) hv9))))
               clear hv9 hB9)
            | (show wpList _ _ _ (Oper.mk (some 169) _ _ _ _ _ :: _) _ _
               refine wpList_load_blk 74 (.tmp 25) rfl rfl rfl H8.out.2.1 (gvl y) at0 rowGroveA ?_)
            | (show wpList _ _ _ (Oper.mk (some 167) _ _ _ _ _ :: _) _ _
               refine wpList_load_at 74 (.tmp 166) rfl rfl rfl (gvl y) HYC.out rowGroveA ?_)
            | (show wpList _ _ _ (Oper.mk none (Op.store _ (Operand.tmp 25) (Operand.tmp 167)) _ _ _ _ :: _) _ _
               refine wpList_store_blk 74 (.tmp 25) (.tmp 167) (cs := gvl y) (L := [.int .i64 0, .int .i64 0, .int .i64 0, .int .i64 0, .int .i64 0, .int .i64 0, .int .i64 0, .int .i64 0, .slice none 0 0, .slice none 0 0]) rfl rfl rfl rfl rfl (alloc_at0 _ _) (by first | rfl | (simp [pcl_len, gvl_len, tkl_len])) (fun u hu => gvl_one [y] u (by simpa using hu)) rowGroveA ?_
               intro w8 hP hM
               rw [splice_whole (by first | rfl | (simp [pcl_len, gvl_len, tkl_len]))] at hM
               have hb : Below wr.heap.size wr w8 := (grow1 wr _).trans (hP.below (Nat.le_refl _))
               have H8 := Lib.hid (And.intro (HR0.out.1.trans (hb.mono HR0.out.1.size)) (And.intro hM (And.intro ((hb.block _ (lt_of_heap HR0.out.2.1)).trans HR0.out.2.1) ((hb.block _ (lt_of_heap HR0.out.2.2)).trans HR0.out.2.2))))
               clear hP hM hb))
          obtain ⟨b, hbe⟩ : ∃ b, b = w10.heap.size := ⟨_, rfl⟩
          obtain ⟨gb, hgbe⟩ : ∃ gb, gb = wr.heap.size := ⟨_, rfl⟩
          have h913 : Below w9.heap.size w9 w13 := H11.out.2.trans ((H12.out.1.below hB10.size).trans (H13.out.1.below hB10.size))
          have hb9 : w9.heap.size ≤ b := by rw [hbe]; exact hB10.size
          have hst : WhI w13 b [] w13 := by rw [hbe]; exact WhI.start H13.out.2
          have hgb9 := H9.out.2.1
          rw [← hgbe] at hgb9
          rw [← hbe]
          rw [← hgbe]
          have HST := Lib.hid (And.intro h913 (And.intro hb9 (And.intro hst hgb9)))
          clear h913 hst hgb9 hB10 hw11 H11 H12 H13
          clear hbe hgbe
          obtain ⟨wo, rfl⟩ : ∃ wo : World, wo = wr := ⟨_, rfl⟩
          go_loopg [180] ts2.length (fun gi s180 wx => ∃ i : Nat, i + gi = ts2.length ∧ s180 = .int .i64 i ∧ Hid (∃ L, InvW (gvId y) yr ts2 i 0 L ∧ WhI w13 b L wx))
          case atStart => exact ⟨0, by omega, rfl, [], InvW.start _ _ _, HST.out.2.2.1⟩
          case round =>
            obtain ⟨i, hig, rfl, hLW⟩ := hrel
            obtain ⟨L, hinv, hwh⟩ := hLW.out
            have HV := Lib.hid (And.intro hinv hwh)
            clear hLW hinv hwh
            cases gk with
            | zero =>
              have hil : i = ts2.length := by omega
              have hin : ¬ (i : Int) < ts2.length := by omega
              have hinv : InvW (gvId y) yr ts2 ts2.length 0 L := hil ▸ HV.out.1
              have hk2 := HKN.out L hinv
              obtain ⟨A3, c3, hbx, hown⟩ := HV.out.2.own
              have hl12 := hinv.len
              have hb9r : Below w9.heap.size w9 wr := HST.out.1.trans (HV.out.2.bel.mono hb9)
              have hbwr : Below w.heap.size w wr := H9.out.1.trans (hb9r.mono H9.out.1.size)
              have hgr := (hb9r.block _ (lt_of_heap H9.out.2.2.2.1)).trans H9.out.2.2.2.1
              have hos : OwnS wr (b + 1) L [] (.slice A3 L.length c3) (.slice none ([] : List Ts).length 0) := ⟨hown, World.ownsRow_nil _ _ _ _⟩
              have hsh : ShAt wr wr.heap.size L [] A3 none := ownS_sh hos (by omega) (by decide)
              have hwB := Nat.le_trans hB hbwr.size
              have hgd := fun (W : World) (hW : Below wr.heap.size wr W) => (HZ.out.2.1.below ((hbwr.trans (hW.mono hbwr.size)).mono hB)).mono (Nat.le_trans hwB hW.size)
              have hgw := fun (W : World) (hW : Below wr.heap.size wr W) => (HZ.out.2.2.below ((hbwr.trans (hW.mono hbwr.size)).mono hB)).mono (Nat.le_trans hwB hW.size)
              have hrd2 := grReady_any L [] gs vary A3 c3 none 0 AG cg wr.heap.size wr (Nat.le_refl _) hsh.p hsh.t (hgd wr (Below.refl _ _)).g
              simp only [List.length_nil] at hrd2
              have HZ0 := Lib.hid (And.intro hbwr (And.intro hbx hgr))
              have f28 : wr.cell? ⟨b, 0, none⟩ = some (.slice A3 L.length c3) := cell_of_row wr b 0 _ _ _ hbx
              cases hr2 : rdyS gs vary L []
              · rw [hr2] at hrd2
                have HRD2 := Lib.hid hrd2
                clear hrd2 hr2 hgd hgw hsh hos hwB hgr hbwr hb9r hown hbx hk2 hinv hil
                go_wp2_with (first
                  | (go_at_call 29
                     refine HRD2.out.mono ?_
                     rintro e w19 ⟨rfl, hB19⟩
                     have H19 := Lib.hid (And.intro hB19 (And.intro ((hB19.block _ (lt_of_heap HZ0.out.2.1)).trans HZ0.out.2.1) ((hB19.block _ (lt_of_heap HZ0.out.2.2)).trans HZ0.out.2.2)))
                     clear hB19)
                  | (show wpList _ _ _ (Oper.mk (some 217) _ _ _ _ _ :: _) _ _
                     refine wpList_load_blk 25 (.tmp 28) rfl rfl rfl HZ0.out.2.1 [.slice A3 L.length c3, .slice none 0 0] at0 rowSheetP ?_)
                  | (show wpList _ _ _ (Oper.mk (some 218) _ _ _ _ _ :: _) _ _
                     refine wpList_load_blk 28 (.tmp 6) rfl rfl rfl HZ0.out.2.2 [.slice AG gs.length cg, .int .i64 vary] at0 rowGradingP ?_))
                go_ret
                exact ⟨rfl, HZ0.out.1.trans (H19.out.1.mono HZ0.out.1.size)⟩
              rw [hr2] at hrd2
              have HRD2 := Lib.hid hrd2
              have hck2 : gChk gs vary L [] = 0 := by
                simp only [rdyS, Bool.and_eq_true, decide_eq_true_eq] at hr2
                exact hr2.2
              have hsT2 : sTrace gs vary L [] gv = (traceL gv L, 0) := by rw [sTrace, if_pos hck2, if_pos HOK.out]
              have htr2 := fun (W : World) (hW : Below wr.heap.size wr W) => gtTrace_any L [] gs vary gv A3 c3 none 0 AG cg (some ⟨d, q, none⟩) cv W.heap.size W (Nat.le_refl _) ((hsh.below hW).mono hW.size) ((hgd W hW).mono (Nat.le_refl _)) (hgw W hW) (by omega)
              rw [hsT2] at htr2
              unfold KnownPost at htr2
              simp only at htr2
              have htl2 : (traceL gv L).length = L.length := by simp [traceL]
              rw [htl2] at htr2
              simp only [List.length_nil] at htr2
              have hta2 : ∀ n (hn : n < L.length), (u8s (traceL gv L))[n]? = some (.int .u8 2) := fun n hn => by
                have := hk2 _ (List.getElem_mem hn)
                simp [u8s, traceL, hn, this]
              generalize traceL gv L = KL2 at htr2 htl2 hta2
              have HTR2 := Lib.hid htr2
              have HTA2 := Lib.hid hta2
              clear hrd2 hr2 hgd hgw hsh hos hwB hgr hbwr hb9r hown hbx hk2 hinv hil htr2 hta2 hck2 hsT2
              go_wp2_with (first
                | (go_at_call 14
                   refine (HTR2.out w19 H19.out.1).mono ?_
                   rintro e w20 ⟨A20, c20, rfl, hu20, hB20⟩
                   have f20 : w20.cell? ⟨b, 0, none⟩ = some (.slice A3 L.length c3) := cell_of_row w20 b 0 _ _ _ ((hB20.block _ (lt_of_heap H19.out.2.1)).trans H19.out.2.1)
                   unfold OwnU at hu20
                   rw [htl2] at hu20
                   have H20 := Lib.hid (And.intro (H19.out.1.trans (hB20.mono H19.out.1.size)) (Vals.own hu20))
                   clear hu20 hB20)
                | (show wpList _ _ _ (Oper.mk (some 223) _ _ _ _ _ :: _) _ _
                   refine wpList_load_blk 25 (.tmp 28) rfl rfl rfl H19.out.2.1 [.slice A3 L.length c3, .slice none 0 0] at0 rowSheetP ?_)
                | (show wpList _ _ _ (Oper.mk (some 224) _ _ _ _ _ :: _) _ _
                   refine wpList_load_blk 28 (.tmp 6) rfl rfl rfl H19.out.2.2 [.slice AG gs.length cg, .int .i64 vary] at0 rowGradingP ?_)
                | (go_at_call 29
                   refine HRD2.out.mono ?_
                   rintro e w19 ⟨rfl, hB19⟩
                   have H19 := Lib.hid (And.intro hB19 (And.intro ((hB19.block _ (lt_of_heap HZ0.out.2.1)).trans HZ0.out.2.1) ((hB19.block _ (lt_of_heap HZ0.out.2.2)).trans HZ0.out.2.2)))
                   clear hB19)
                | (show wpList _ _ _ (Oper.mk (some 217) _ _ _ _ _ :: _) _ _
                   refine wpList_load_blk 25 (.tmp 28) rfl rfl rfl HZ0.out.2.1 [.slice A3 L.length c3, .slice none 0 0] at0 rowSheetP ?_)
                | (show wpList _ _ _ (Oper.mk (some 218) _ _ _ _ _ :: _) _ _
                   refine wpList_load_blk 28 (.tmp 6) rfl rfl rfl HZ0.out.2.2 [.slice AG gs.length cg, .int .i64 vary] at0 rowGradingP ?_))
              obtain ⟨wu, rfl⟩ : ∃ wu : World, wu = wr := ⟨_, rfl⟩
              go_loopg [241] L.length (fun gn s241 wx => ∃ n : Nat, n + gn = L.length ∧ s241 = .int .i64 n ∧ Hid (Below w20.heap.size w20 wx))
              case atStart => exact ⟨0, by omega, rfl, Below.refl _ _⟩
              case round =>
                obtain ⟨n, hng, rfl, hBn⟩ := hrel
                cases gk with
                | zero =>
                  have hnl : n = L.length := by omega
                  have hnn : ¬ (n : Int) < L.length := by omega
                  clear hnl
                  go_wp2
                  go_ret
                  exact ⟨rfl, HZ0.out.1.trans ((H20.out.1.trans (hBn.out.mono H20.out.1.size)).mono HZ0.out.1.size)⟩
                | succ gn =>
                  have hn : n < L.length := by omega
                  have hnz : (n : Int) < L.length := by omega
                  obtain ⟨d3, q3, hA20, hd3, hc3⟩ := H20.out.2 (by simp [u8s, htl2]; omega)
                  subst hA20
                  have f2 : wr.cell? ⟨d3, q3 + n, none⟩ = some (.int .u8 2) := (hBn.out.cell (p := ⟨d3, q3 + n, none⟩) (by simp; omega)).trans (hc3 n _ (HTA2.out n hn))
                  clear hc3
                  go_wp2
                  go_roundg gn
                  case measure => omega
                  case rel => exact ⟨n + 1, by omega, by go_num, hBn.out⟩
            | succ gi =>
              have hi : i < ts2.length := by omega
              have hiz : (i : Int) < ts2.length := by omega
              obtain ⟨d2, q2, hA2, hd2, hdc2⟩ := vals_elem tkl_len H9.out.2.2.2.2 (by decide) hi
              subst hA2
              have hb9r : Below w9.heap.size w9 wr := HST.out.1.trans (HV.out.2.bel.mono hb9)
              have htc : ∀ n u, (tkl ts2[i])[n]? = some u → wr.cell? ⟨d2, q2 + i * 2 + n, none⟩ = some u := fun n u hu => (hb9r.cell (p := ⟨d2, q2 + i * 2 + n, none⟩) (by simp; omega)).trans (hdc2 n u hu)
              have hps := HTOK.out.pos _ (List.getElem_mem hi)
              have hinv := fun (L : List Pol) (r : Nat) (h : InvW (gvId y) yr ts2 i r L) => And.intro (fun (hr : (r : Int) ≤ ts2[i].2) => h.done hi hr) (fun (hl : L.length < 12) (q : Pol) (h1 : q.clone = gvId y) (h2 : q.cut = yr) (h3 : q.shot = ts2[i].1) => h.more HTOK.out hi hl h1 h2 h3)
              generalize ts2[i] = s at htc hps hinv
              obtain ⟨s1, s2⟩ := s
              obtain ⟨hp1, hp2⟩ := hps
              simp only at hp1 hp2 hinv
              have HTC := Lib.hid htc
              have HIN := Lib.hid hinv
              have HB9 := Lib.hid hb9r
              clear htc hinv hdc2 hb9r
              go_wp2_with (first
                | (show wpList _ _ _ (Oper.mk (some 183) _ _ _ _ _ :: _) _ _
                   refine wpList_load_at 101 (.tmp 182) rfl rfl rfl (tkl (s1, s2)) HTC.out rowTakeA ?_)
                | (show wpList _ _ _ (Oper.mk none (Op.store _ (Operand.tmp 30) (Operand.tmp 183)) _ _ _ _ :: _) _ _
                   refine wpList_store_blk 101 (.tmp 30) (.tmp 183) (cs := tkl (s1, s2)) (L := [.int .i64 0, .int .i64 0]) rfl rfl rfl rfl rfl (alloc_at0 _ _) (by first | rfl | (simp [pcl_len, gvl_len, tkl_len])) (fun u hu => tkl_one [(s1, s2)] u (by simpa using hu)) rowTakeA ?_
                   intro w14 hP hM
                   rw [splice_whole (by first | rfl | (simp [pcl_len, gvl_len, tkl_len]))] at hM
                   have hb : Below wr.heap.size wr w14 := (grow1 wr _).trans (hP.below (Nat.le_refl _))
                   have r2 : w14.cell? ⟨wr.heap.size, 1, none⟩ = some (.int .i64 s2) := cell_of_row w14 wr.heap.size 1 _ _ _ hM
                   have H14 := Lib.hid (And.intro hb hM)
                   clear hP hM hb))
              obtain ⟨m, hm⟩ : ∃ m : Nat, min s2 12 = (m : Int) := ⟨(min s2 12).toNat, by omega⟩
              have hms : (m : Int) ≤ s2 := by omega
              rw [hm]
              obtain ⟨tb, htb⟩ : ∃ tb, tb = wr.heap.size := ⟨_, rfl⟩
              have hv14 := And.intro HV.out.1 (HV.out.2.grows H14.out.1)
              have ht14 := H14.out.2
              have hbt : b < tb := by rw [htb]; exact HV.out.2.lt
              rw [← htb] at ht14
              rw [← htb]
              have HV14 := Lib.hid hv14
              have HT14 := Lib.hid ht14
              clear hm hv14 ht14 H14 HV r2 htb HTC
              obtain ⟨wq, rfl⟩ : ∃ wq : World, wq = wr := ⟨_, rfl⟩
              go_loopg [187] m (fun gr s187 wx => ∃ r : Nat, r + gr = m ∧ s187 = .int .i64 r ∧ Hid (wx.heap[tb]? = some (.cells (tkl (s1, s2)).toArray 101 (0, 0)) ∧ ∃ L, InvW (gvId y) yr ts2 i r L ∧ WhI w13 b L wx))
              case atStart => exact ⟨0, by omega, rfl, HT14.out, _, HV14.out⟩
              case round =>
                obtain ⟨r, hrg, rfl, hX⟩ := hrel
                obtain ⟨hT, L2, hinv2, hwh2⟩ := hX.out
                have HT2 := Lib.hid hT
                have HV2 := Lib.hid (And.intro hinv2 hwh2)
                clear hX hT hinv2 hwh2 HV14 HT14
                cases gk with
                | zero =>
                  have hrm : r = m := by omega
                  have hrn : ¬ (r : Int) < m := by omega
                  have HFI := Lib.hid ((HIN.out L2 r HV2.out.1).1 (by omega))
                  go_wp2
                  go_roundg gi
                  case measure => omega
                  case rel => exact ⟨i + 1, by omega, by go_num, L2, HFI.out, HV2.out.2⟩
                | succ gr =>
                  have hrz : (r : Int) < m := by omega
                  obtain ⟨A3, c3, hbx, hown⟩ := HV2.out.2.own
                  have f28 : wr.cell? ⟨b, 0, none⟩ = some (.slice A3 L2.length c3) := cell_of_row wr b 0 _ _ _ hbx
                  have hb9r : Below w9.heap.size w9 wr := HST.out.1.trans (HV2.out.2.bel.mono hb9)
                  have hbwr : Below w.heap.size w wr := H9.out.1.trans (hb9r.mono H9.out.1.size)
                  have fsh : wr.cell? ⟨w.heap.size, 0, none⟩ = some (.slice AP ps.length cp) := cell_of_row wr _ 0 _ _ _ ((hb9r.block _ (lt_of_heap H9.out.2.2.1)).trans H9.out.2.2.1)
                  have hgbb := (hb9r.block _ (lt_of_heap HST.out.2.2.2)).trans HST.out.2.2.2
                  have hgt : gb < b := Nat.lt_of_lt_of_le (lt_of_heap HST.out.2.2.2) hb9
                  have HBX := Lib.hid (And.intro hbx (And.intro hown (And.intro hgbb (And.intro hbwr hgt))))
                  clear hbx hown hb9r hgbb hbwr hgt
                  by_cases h12 : L2.length < 12
                  · have e5 : decide ((L2.length : Int) < 12) = true := decide_eq_true (by omega)
                    have e6 : (L2.length : Int) < 12 := by omega
                    obtain ⟨i1, hi1, hz1, hsz1, hby1⟩ := info_parts infoPole5
                    have HI := Lib.hid (And.intro hi1 (And.intro hz1 (And.intro hsz1 hby1)))
                    have h0p : 0 < ps.length := by omega
                    obtain ⟨dp, qp, hAP, hdp, hpc⟩ := vals_elem pcl_len HZ.out.1.p (by decide) h0p
                    subst hAP
                    have hpc' : ∀ n u, (pcl ps[0])[n]? = some u → wr.cell? ⟨dp, qp + n, none⟩ = some u := fun n u hu => (HBX.out.2.2.2.1.cell (p := ⟨dp, qp + n, none⟩) (by simp; omega)).trans (by simpa using hpc n u hu)
                    generalize ps[0] = p0 at hpc'
                    have hpz : (0 : Int) < ps.length := by omega
                    have HPC := Lib.hid hpc'
                    clear hi1 hz1 hsz1 hby1 hpc hpc'
                    go_wp2_with (first
                      | (show wpList _ _ _ (Oper.mk (some 196) _ _ _ _ _ :: _) _ _
                         refine wpList_load_at 56 (.tmp 195) rfl rfl rfl (pcl p0) (by simpa using HPC.out) rowPole ?_)
                      | (show wpList _ _ _ (Oper.mk none (Op.store _ (Operand.tmp 31) (Operand.tmp 196)) _ _ _ _ :: _) _ _
                         refine wpList_store_blk 56 (.tmp 31) (.tmp 196) (cs := pcl p0) (L := [.int .i64 0, .int .i64 0, .int .i64 0, .int .i64 0, .int .i64 0, .int .i64 0, .int .i64 0, .int .i64 0, .int .i64 0, .int .i64 0, .int .i64 0, .int .i64 0]) rfl rfl rfl rfl rfl (alloc_at0 _ _) (by first | rfl | (simp [pcl_len, gvl_len, tkl_len])) (fun u hu => pcl_one [p0] u (by simpa using hu)) rowPole ?_
                         intro w15 hP hM
                         rw [splice_whole (by first | rfl | (simp [pcl_len, gvl_len, tkl_len]))] at hM
                         have hb : Below wr.heap.size wr w15 := (grow1 wr _).trans (hP.below (Nat.le_refl _))
                         have H15 := Lib.hid (And.intro hb hM)
                         clear hP hM hb))
                    obtain ⟨pb, hpb⟩ : ∃ pb, pb = wr.heap.size := ⟨_, rfl⟩
                    have hlt := HV2.out.2.lt
                    have htl := lt_of_heap HT2.out
                    have hgl := lt_of_heap HBX.out.2.2.1
                    have k15 := And.intro ((H15.out.1.block _ hlt).trans HBX.out.1) (And.intro ((H15.out.1.block _ hgl).trans HBX.out.2.2.1) ((H15.out.1.block _ htl).trans HT2.out))
                    have ne15 : b ≠ pb ∧ gb ≠ pb ∧ tb ≠ pb := ⟨by omega, by omega, by omega⟩
                    have h15 := H15.out
                    rw [← hpb] at h15
                    rw [← hpb]
                    have H15 := Lib.hid h15
                    have K15 := Lib.hid k15
                    have NE := Lib.hid ne15
                    have HPB5 := Lib.hid hpb
                    clear hlt htl hgl k15 ne15 h15 hpb
                    refine R6.wp_walk (C := PuC w15 pb p0 L2.length y.g.id yr s1) 249 (by kernel_rfl) (by kernel_rfl) rfl ⟨(Below.refl _ _).drew, fun _ _ => rfl, H15.out.2⟩ ?_
                    simp only []
                    iterate 9
                      (refine' R6.WalkR.det (fun _ => rfl) (fun D ρ W hK hC => ?_) ?_
                       rotate_left
                       · have g28 : W.cell? ⟨b, 0, none⟩ = some (.slice A3 L2.length c3) := cell_of_row W b 0 _ _ _ ((hC.oth b NE.out.1).trans K15.out.1)
                         have gid : W.cell? ⟨gb, 0, none⟩ = some (.int .i64 y.g.id) := cell_of_row W gb 0 _ _ _ ((hC.oth gb NE.out.2.1).trans K15.out.2.1)
                         have gtk : W.cell? ⟨tb, 0, none⟩ = some (.int .i64 s1) := cell_of_row W tb 0 _ _ _ ((hC.oth tb NE.out.2.2).trans K15.out.2.2)
                         have HC := Lib.hid hC
                         clear hC hK
                         go_simp
                         with_reducible exact ⟨rfl, HC.out.move (by decide)⟩
                       simp only [Act.put, List.setIfInBounds_toArray, List.set_cons_succ, List.set_cons_zero])
                    refine' R6.WalkR.det (c := undef) (fun _ => rfl) (fun D ρ W hK hC => ?_) ?_
                    · refine gives_store_one 3 (.tmp 205) (.tmp 199) (o := 0) rfl rfl rfl hC.own (Nat.le_of_ble_eq_true rfl) infoI7 ?_
                      intro W' hP hM
                      exact ⟨rfl, hC.put hP (q := { qP p0 L2.length y.g.id yr s1 D with id := L2.length }) hM (by simp [qP, done])⟩
                    simp only [Act.put, List.setIfInBounds_toArray, List.set_cons_succ, List.set_cons_zero]
                    iterate 1
                      (refine' R6.WalkR.det (fun _ => rfl) (fun D ρ W hK hC => ?_) ?_
                       rotate_left
                       · have g28 : W.cell? ⟨b, 0, none⟩ = some (.slice A3 L2.length c3) := cell_of_row W b 0 _ _ _ ((hC.oth b NE.out.1).trans K15.out.1)
                         have gid : W.cell? ⟨gb, 0, none⟩ = some (.int .i64 y.g.id) := cell_of_row W gb 0 _ _ _ ((hC.oth gb NE.out.2.1).trans K15.out.2.1)
                         have gtk : W.cell? ⟨tb, 0, none⟩ = some (.int .i64 s1) := cell_of_row W tb 0 _ _ _ ((hC.oth tb NE.out.2.2).trans K15.out.2.2)
                         have HC := Lib.hid hC
                         clear hC hK
                         go_simp
                         with_reducible exact ⟨rfl, HC.out.move (by decide)⟩
                       simp only [Act.put, List.setIfInBounds_toArray, List.set_cons_succ, List.set_cons_zero])
                    refine' R6.WalkR.det (c := undef) (fun _ => rfl) (fun D ρ W hK hC => ?_) ?_
                    · refine gives_store_one 3 (.tmp 206) (.tmp 201) (o := 1) rfl rfl rfl hC.own (Nat.le_of_ble_eq_true rfl) infoI7 ?_
                      intro W' hP hM
                      exact ⟨rfl, hC.put hP (q := { qP p0 L2.length y.g.id yr s1 D with clone := y.g.id }) hM (by simp [qP, done])⟩
                    simp only [Act.put, List.setIfInBounds_toArray, List.set_cons_succ, List.set_cons_zero]
                    iterate 1
                      (refine' R6.WalkR.det (fun _ => rfl) (fun D ρ W hK hC => ?_) ?_
                       rotate_left
                       · have g28 : W.cell? ⟨b, 0, none⟩ = some (.slice A3 L2.length c3) := cell_of_row W b 0 _ _ _ ((hC.oth b NE.out.1).trans K15.out.1)
                         have gid : W.cell? ⟨gb, 0, none⟩ = some (.int .i64 y.g.id) := cell_of_row W gb 0 _ _ _ ((hC.oth gb NE.out.2.1).trans K15.out.2.1)
                         have gtk : W.cell? ⟨tb, 0, none⟩ = some (.int .i64 s1) := cell_of_row W tb 0 _ _ _ ((hC.oth tb NE.out.2.2).trans K15.out.2.2)
                         have HC := Lib.hid hC
                         clear hC hK
                         go_simp
                         with_reducible exact ⟨rfl, HC.out.move (by decide)⟩
                       simp only [Act.put, List.setIfInBounds_toArray, List.set_cons_succ, List.set_cons_zero])
                    refine' R6.WalkR.det (c := undef) (fun _ => rfl) (fun D ρ W hK hC => ?_) ?_
                    · refine gives_store_one 3 (.tmp 207) (.tmp 202) (o := 2) rfl rfl rfl hC.own (Nat.le_of_ble_eq_true rfl) infoI7 ?_
                      intro W' hP hM
                      exact ⟨rfl, hC.put hP (q := { qP p0 L2.length y.g.id yr s1 D with cut := yr }) hM (by simp [qP, done])⟩
                    simp only [Act.put, List.setIfInBounds_toArray, List.set_cons_succ, List.set_cons_zero]
                    iterate 1
                      (refine' R6.WalkR.det (fun _ => rfl) (fun D ρ W hK hC => ?_) ?_
                       rotate_left
                       · have g28 : W.cell? ⟨b, 0, none⟩ = some (.slice A3 L2.length c3) := cell_of_row W b 0 _ _ _ ((hC.oth b NE.out.1).trans K15.out.1)
                         have gid : W.cell? ⟨gb, 0, none⟩ = some (.int .i64 y.g.id) := cell_of_row W gb 0 _ _ _ ((hC.oth gb NE.out.2.1).trans K15.out.2.1)
                         have gtk : W.cell? ⟨tb, 0, none⟩ = some (.int .i64 s1) := cell_of_row W tb 0 _ _ _ ((hC.oth tb NE.out.2.2).trans K15.out.2.2)
                         have HC := Lib.hid hC
                         clear hC hK
                         go_simp
                         with_reducible exact ⟨rfl, HC.out.move (by decide)⟩
                       simp only [Act.put, List.setIfInBounds_toArray, List.set_cons_succ, List.set_cons_zero])
                    refine' R6.WalkR.det (c := undef) (fun _ => rfl) (fun D ρ W hK hC => ?_) ?_
                    · refine gives_store_one 3 (.tmp 208) (.tmp 204) (o := 3) rfl rfl rfl hC.own (Nat.le_of_ble_eq_true rfl) infoI7 ?_
                      intro W' hP hM
                      exact ⟨rfl, hC.put hP (q := { qP p0 L2.length y.g.id yr s1 D with shot := s1 }) hM (by simp [qP, done])⟩
                    simp only [Act.put, List.setIfInBounds_toArray, List.set_cons_succ, List.set_cons_zero]
                    refine R6.WalkR.nil (fun D ρ wt hD hC => ?_)
                    have hq : qP p0 L2.length y.g.id yr s1 D = { p0 with id := L2.length, clone := y.g.id, cut := yr, shot := s1 } := by
                      unfold qP
                      rw [hD 9 (by omega), hD 11 (by omega), hD 13 (by omega), hD 15 (by omega)]
                      rfl
                    have hw := hC.own
                    rw [hq] at hw
                    have hg : Below pb wr wt := H15.out.1.trans hC.bel
                    rw [HPB5.out] at hg
                    obtain ⟨p1, hp1⟩ : ∃ p1 : Pol, p1 = { p0 with id := L2.length, clone := y.g.id, cut := yr, shot := s1 } := ⟨_, rfl⟩
                    rw [← hp1] at hw
                    have hmore := (HIN.out L2 r HV2.out.1).2 h12 p1 (by rw [hp1]; rfl) (by rw [hp1]) (by rw [hp1])
                    have hbx := (hg.block _ HV2.out.2.lt).trans HBX.out.1
                    have g28 : wt.cell? ⟨b, 0, none⟩ = some (.slice A3 L2.length c3) := cell_of_row wt b 0 _ _ _ hbx
                    have hown := own_grows HBX.out.2.1 hg
                    have htk := (hg.block _ (lt_of_heap HT2.out)).trans HT2.out
                    have HWT := Lib.hid (And.intro hg (And.intro hw (And.intro hbx (And.intro hown (And.intro htk hmore)))))
                    clear hq hw hg hp1 hmore hbx hown htk hC hD f28 fsh
                    have hpl : (pcl p1).length = 12 := rfl
                    go_wp2_with (first
                      | (show wpList _ _ _ (Oper.mk (some 213) _ _ _ _ _ :: _) _ _
                         rw [fold_pole]
                         obtain ⟨w16, hw16⟩ : ∃ w16, wt.alloc (.cells (pcl p1).toArray 56) = w16 := ⟨_, rfl⟩
                         have g16 : Grows wt w16 := by rw [← hw16]; exact grow1 _ _
                         have m16 : w16.heap[wt.heap.size]? = some (.cells (pcl p1).toArray 56 (0, 0)) := by rw [← hw16]; exact alloc_at0 _ _
                         have H16 := Lib.hid (And.intro g16 m16)
                         rw [hw16]
                         clear g16 m16 hw16
                         have ho16 := own_grows HWT.out.2.2.2.1 H16.out.1
                         refine wpList_app2 (.tmp 210) (.tmp 212) 22 rfl rfl (b + 1) 56 i1 _ 12 96 Tryz.underlying22 HI.out.1 HI.out.2.1 HI.out.2.2.1 HI.out.2.2.2 rfl (by decide) rfl ho16 rfl (vals_mk5 H16.out.2) rfl (fun v hv => pcl_one [p1] v (by simpa using hv)) (by simp only [maxLen]; omega) (by omega) (by have := lt_of_heap HWT.out.2.2.1; have := H16.out.1.size; omega) ?_
                         intro v' w17 ho hgr
                         obtain ⟨A4, c4, rfl⟩ := own_slice ho
                         have hb16 := (H16.out.1.block _ (lt_of_heap HWT.out.2.2.1)).trans HWT.out.2.2.1
                         have hb17 := (hgr.block _ (lt_of_heap hb16) (own_other ho16 hb16 (by decide))).trans hb16
                         have ht16 := (H16.out.1.block _ (lt_of_heap HWT.out.2.2.2.2.1)).trans HWT.out.2.2.2.2.1
                         have ht17 := (hgr.block _ (lt_of_heap ht16) (own_other ho16 ht16 (by decide))).trans ht16
                         have H17 := Lib.hid (And.intro hb17 (And.intro ht17 (And.intro ho16 (And.intro hgr ho))))
                         have hc17 : w17.cell? ⟨b, 0, none⟩ = some (.slice A3 L2.length c3) := cell_of_row w17 b 0 _ _ _ hb17
                         have hf17 : w17.frozen? ⟨b, 0, none⟩ = false := by simp [World.frozen?, hb17]
                         clear ho16 ho hgr hb16 hb17 ht16 ht17)
                      | (show wpList _ _ _ (Oper.mk (some 211) _ _ _ _ _ :: _) _ _
                         refine wpList_load_blk 56 (.tmp 31) rfl rfl rfl HWT.out.2.1 (pcl p1) at0 rowPole ?_))
                    go_roundg gr
                    case measure => omega
                    case rel =>
                      have hP : Put w17 (w17.setCell ⟨b, 0, none⟩ (.slice A4 (L2.length + 1) c4)) b := put_setCells b [_] 0 w17
                      have hM := heap_setCell_same w17 b 0 _ _ (.slice A4 (L2.length + 1) c4) H17.out.1
                      exact ⟨r + 1, by omega, by go_num, (hP.other tb (by omega)).trans H17.out.2.1, _, HWT.out.2.2.2.2.2, WhI.more HV2.out.2 (HWT.out.1.trans (H16.out.1.mono HWT.out.1.size)) H17.out.2.2.1 H17.out.2.2.2.1 H17.out.2.2.2.2 rfl hP H17.out.1 hM⟩
                  · have e5 : decide ((L2.length : Int) < 12) = false := decide_eq_false (by omega)
                    have e6 : ¬ (L2.length : Int) < 12 := by omega
                    go_wp2
                    go_roundg gr
                    case measure => omega
                    case rel => exact ⟨r + 1, by omega, by go_num, HT2.out, L2, HV2.out.1.next, HV2.out.2⟩

end Go.Proofs.YtpnnlmaipcjkmaaGreat
