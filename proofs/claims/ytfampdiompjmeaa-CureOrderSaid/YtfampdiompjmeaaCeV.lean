/-
  The program's Treated and Ready.
-/
import Derived.Test.YtfampdiompjmeaaCeU
namespace Go.Proofs.Ytfampdiompjmeaa
open Go.RowKit Go.Shelf

def TrePost (w : World) (t : Bt) (ws : List (List Int)) (h : Int) (e : Ending) (w' : World) : Prop :=
  ∃ A c, e = .returned (.tuple #[.slice A (treatL t ws h).length c, .int .i64 (treatE t ws h)]) ∧ OwnU w' w.heap.size (.slice A (treatL t ws h).length c) (treatL t ws h) ∧ Below w.heap.size w w'
theorem ownU_nil (W : World) (base : Nat) : OwnU W base (.slice none 0 0) [] := ⟨rfl, .inl ⟨rfl, rfl⟩⟩
theorem OwnU.less {W : World} {base base' : Nat} {v : Value} {zs : List Int} (h : OwnU W base v zs) (hb : base' ≤ base) : OwnU W base' v zs := by
  refine ⟨h.1, h.2.imp id ?_⟩
  rintro ⟨g, cap, cur, h1, h2, h3⟩
  exact ⟨g, cap, cur, h1, Nat.le_trans hb h2, h3⟩
theorem OwnU.grows {W W' : World} {base : Nat} {v : Value} {zs : List Int} (h : OwnU W base v zs) (hg : Grows W W') : OwnU W' base v zs := own_grows h hg

set_option maxRecDepth 100000 in
set_option maxHeartbeats 8000000 in
theorem cureTreated_bad (t : Bt) (A : Option Addr) (cap : Nat) (l : List Sl) (h : Int) (B : Nat) (w : World) (hB : B ≤ w.heap.size) (hz : Rows w B A l) (hl : shortL l) (hno : treatE t (rws l) h ≠ 0) :
    Calls Try.prog 18 #[.agg (btcells t (.slice A l.length cap)), .int .i64 h] w (TrePost w t (rws l) h) := by
  have hLL : treatL t (rws l) h = [] := by simp [treatL, hno]
  have hck := fun W (hW : Below w.heap.size w W) => check_any t A cap l B W (Nat.le_trans hB hW.size) (hz.below (hW.mono hB)) hl
  have hho := fun W => validHours_any h W
  cases hb : okBatch t (rws l) with
  | false =>
    have hE : treatE t (rws l) h = 40 := by simp [treatE, hb]
    simp only [checkE, hb, Bool.false_eq_true, if_false] at hck
    have HCK := Lib.hid hck
    have HR := Lib.hid (And.intro hE hLL)
    clear hck hE hLL hz hl hb hno hho
    unfold btcells at HCK ⊢
    go_enter Try.func18, Try.ntmps18
    go_wp2_with (go_at_call 23; refine (HCK.out _ (grow1 w _)).mono ?_; rintro e w1 ⟨rfl, hB1⟩; have H1 := Lib.hid ((grow1 w _).trans (hB1.mono (by simp))); clear hB1)
    go_ret2
    exact ⟨none, 0, by rw [HR.out.1, HR.out.2]; rfl, by rw [HR.out.2]; exact ownU_nil _ _, H1.out⟩
  | true =>
    have hh : allB 0 300 [h] = false := by
      cases e : allB 0 300 [h] with
      | false => rfl
      | true => simp [treatE, hb, e] at hno
    have hE : treatE t (rws l) h = 2 := by simp [treatE, hb, hh]
    simp only [checkE, hb, if_true] at hck
    rw [hh] at hho
    have HCK := Lib.hid hck
    have HHO := Lib.hid hho
    have HR := Lib.hid (And.intro hE hLL)
    clear hck hE hLL hz hl hb hno hho hh
    unfold btcells at HCK ⊢
    go_enter Try.func18, Try.ntmps18
    go_wp2_with (first
      | (go_at_call 23; refine (HCK.out _ (grow1 w _)).mono ?_; rintro e w1 ⟨rfl, hB1⟩; have H1 := Lib.hid ((grow1 w _).trans (hB1.mono (by simp))); clear hB1)
      | (go_at_call 46; refine (HHO.out _).mono ?_; rintro e w3 ⟨rfl, hB3⟩; have H3 := Lib.hid (H1.out.trans (hB3.mono H1.out.size)); clear hB3))
    go_ret2
    exact ⟨none, 0, by rw [HR.out.1, HR.out.2]; rfl, by rw [HR.out.2]; exact ownU_nil _ _, H3.out⟩

set_option maxRecDepth 100000 in
set_option maxHeartbeats 8000000 in
theorem cureTreated_ok (t : Bt) (A : Option Addr) (cap : Nat) (l : List Sl) (h : Nat) (B : Nat) (w : World) (hB : B ≤ w.heap.size) (hz : Rows w B A l) (hl : shortL l) (hb : okBatch t (rws l) = true) (hh : allB 0 300 [(h : Int)] = true) :
    Calls Try.prog 18 #[.agg (btcells t (.slice A l.length cap)), .int .i64 (h : Int)] w (TrePost w t (rws l) h) := by
  have hE : treatE t (rws l) h = 0 := by simp [treatE, hb, hh]
  have hLL : treatL t (rws l) h = knownL t (rws l) h := by simp [treatL, hE]
  obtain ⟨hg, g1, g2, g3, g4, -⟩ := okBatch_good hb
  have hh3 := allB_iff.1 hh
  have h4 : l.length ≤ 4 := by have := hg.n4; simpa [rws] using this
  have h6 : ∀ s ∈ l, 1 ≤ s.zs.length ∧ s.zs.length ≤ 6 := fun s hs => by
    have := hg.rows s.zs (by simp only [rws, List.mem_map]; exact ⟨s, hs, rfl⟩)
    exact ⟨this.l1, this.l6⟩
  have hck := fun W (hW : Below w.heap.size w W) => check_any t A cap l B W (Nat.le_trans hB hW.size) (hz.below (hW.mono hB)) hl
  simp only [checkE, hb, if_true] at hck
  have hho := fun W => validHours_any h W
  rw [hh] at hho
  have hat := fun W (hW : Below w.heap.size w W) => atWork_any t A cap l B W (Nat.le_trans hB hW.size) (hz.below (hW.mono hB)) h4 h6
  have htr := fun W (hW : Below w.heap.size w W) => treated_any t A cap l h B W (Nat.le_trans hB hW.size) (hz.below (hW.mono hB)) hb (by omega)
  unfold TreatPost at htr
  rw [← hLL] at htr
  generalize bs t (.slice A l.length cap) (t.borax, rws l) = V0 at hat htr
  have HF := Lib.hid (And.intro hck (And.intro hho (And.intro hat htr)))
  have HE := Lib.hid hE
  clear hck hLL hz hl hb hat htr hho hh hg g1 g2 g3 g4 hh3 h4 h6 hE
  have h0 : (w.alloc (.cells (btcells t (.slice A l.length cap)) 28)).heap[w.heap.size]? = _ := alloc_at0 _ _
  have HB0 := Lib.hid h0
  clear h0
  unfold btcells at HB0 HF ⊢
  go_enter Try.func18, Try.ntmps18
  go_wp2_with (first
    | (go_at_call 23; refine (HF.out.1 _ (grow1 w _)).mono ?_; rintro e w1 ⟨rfl, hB1⟩
       have hb1 := (hB1.block _ (by simp)).trans HB0.out
       have H1 := Lib.hid (And.intro ((grow1 w _).trans (hB1.mono (by simp))) hb1); clear hB1 hb1)
    | (go_at_call 46; refine (HF.out.2.1 _).mono ?_; rintro e w3 ⟨rfl, hB3⟩
       have hc3 := fun i => cell_of_row w3 w.heap.size i _ _ _ ((hB3.block _ (lt_of_heap H1.out.2)).trans H1.out.2)
       have H3 := Lib.hid (H1.out.1.trans (hB3.mono H1.out.1.size)); clear hB3)
    | (go_at_call 47; refine (HF.out.2.2.1 _ H3.out).mono ?_; rintro e w4 ⟨rfl, hB4⟩; have H4 := Lib.hid (H3.out.trans (hB4.mono H3.out.size)); clear hB4 hc3)
    | (go_at_call 50; refine (HF.out.2.2.2 _ H4.out).mono ?_; rintro e w5 ⟨A5, c5, rfl, hO5, hB5⟩; have H5 := Lib.hid (And.intro (hO5.less H4.out.size) (H4.out.trans (hB5.mono H4.out.size))); clear hB5 hO5))
  go_ret2
  exact ⟨A5, c5, by rw [HE.out]; rfl, H5.out.1, H5.out.2⟩

theorem cureTreated_any (t : Bt) (A : Option Addr) (cap : Nat) (l : List Sl) (h : Int) (B : Nat) (w : World) (hB : B ≤ w.heap.size) (hz : Rows w B A l) (hl : shortL l) :
    Calls Try.prog 18 #[.agg (btcells t (.slice A l.length cap)), .int .i64 h] w (TrePost w t (rws l) h) := by
  by_cases hE : treatE t (rws l) h = 0
  · have hb : okBatch t (rws l) = true := by
      cases hb : okBatch t (rws l) with
      | true => rfl
      | false => simp [treatE, hb] at hE
    have hh : allB 0 300 [h] = true := by
      cases hh : allB 0 300 [h] with
      | true => rfl
      | false => simp [treatE, hb, hh] at hE
    have h0 := allB_iff.1 hh
    obtain ⟨n, rfl⟩ : ∃ n : Nat, h = (n : Int) := ⟨h.toNat, by omega⟩
    exact cureTreated_ok t A cap l n B w hB hz hl hb hh
  · exact cureTreated_bad t A cap l h B w hB hz hl hE

def RedPost (w : World) (t : Bt) (ws : List (List Int)) (e : Ending) (w' : World) : Prop :=
  e = .returned (.tuple #[.int .i64 ((readyV t ws : Nat) : Int), .int .i64 (readyE t ws)]) ∧ Below w.heap.size w w'

set_option maxRecDepth 100000 in
set_option maxHeartbeats 8000000 in
theorem cureReady_bad (t : Bt) (A : Option Addr) (cap : Nat) (l : List Sl) (B : Nat) (w : World) (hB : B ≤ w.heap.size) (hz : Rows w B A l) (hl : shortL l) (hb : okBatch t (rws l) = false) :
    Calls Try.prog 19 #[.agg (btcells t (.slice A l.length cap))] w (RedPost w t (rws l)) := by
  have hck := fun W (hW : Below w.heap.size w W) => check_any t A cap l B W (Nat.le_trans hB hW.size) (hz.below (hW.mono hB)) hl
  have hE : readyE t (rws l) = 40 := by simp [readyE, hb]
  have hV : readyV t (rws l) = 0 := by simp [readyV, hE]
  simp only [checkE, hb, Bool.false_eq_true, if_false] at hck
  have HCK := Lib.hid hck
  have HR := Lib.hid (And.intro hE hV)
  clear hck hE hV hz hl hb
  unfold btcells at HCK ⊢
  go_enter Try.func19, Try.ntmps19
  go_wp2_with (go_at_call 23; refine (HCK.out _ (grow1 w _)).mono ?_; rintro e w1 ⟨rfl, hB1⟩; have H1 := Lib.hid ((grow1 w _).trans (hB1.mono (by simp))); clear hB1)
  go_ret2
  exact ⟨by rw [HR.out.1, HR.out.2]; rfl, H1.out⟩

set_option maxRecDepth 100000 in
set_option maxHeartbeats 8000000 in
theorem cureReady_ok (t : Bt) (A : Option Addr) (cap : Nat) (l : List Sl) (B : Nat) (w : World) (hB : B ≤ w.heap.size) (hz : Rows w B A l) (hl : shortL l) (hb : okBatch t (rws l) = true) :
    Calls Try.prog 19 #[.agg (btcells t (.slice A l.length cap))] w (RedPost w t (rws l)) := by
  obtain ⟨hg, g1, g2, g3, g4, -⟩ := okBatch_good hb
  have h4 : l.length ≤ 4 := by have := hg.n4; simpa [rws] using this
  have h6 : ∀ s ∈ l, 1 ≤ s.zs.length ∧ s.zs.length ≤ 6 := fun s hs => by
    have := hg.rows s.zs (by simp only [rws, List.mem_map]; exact ⟨s, hs, rfl⟩)
    exact ⟨this.l1, this.l6⟩
  have hck := fun W (hW : Below w.heap.size w W) => check_any t A cap l B W (Nat.le_trans hB hW.size) (hz.below (hW.mono hB)) hl
  simp only [checkE, hb, if_true] at hck
  have hat := fun W (hW : Below w.heap.size w W) => atWork_any t A cap l B W (Nat.le_trans hB hW.size) (hz.below (hW.mono hB)) h4 h6
  have htr := fun W (hW : Below w.heap.size w W) => ready_any t A cap l B W (Nat.le_trans hB hW.size) (hz.below (hW.mono hB)) hb
  have hRE : readyE t (rws l) = if allN t (rws l) (spN t) = true then 0 else 6 := by simp [readyE, hb]
  have hRV : readyV t (rws l) = rdV t (rws l) := by
    unfold readyV rdV
    rw [hRE]
    cases allN t (rws l) (spN t) <;> rfl
  generalize rdV t (rws l) = rv at htr hRV
  generalize bs t (.slice A l.length cap) (t.borax, rws l) = V0 at hat htr
  have h0 : (w.alloc (.cells (btcells t (.slice A l.length cap)) 28)).heap[w.heap.size]? = _ := alloc_at0 _ _
  have HB0 := Lib.hid h0
  have hrv0 : allN t (rws l) (spN t) = false → readyV t (rws l) = 0 := fun e => by simp [readyV, hRE, e]
  have HRV := Lib.hid (And.intro hRV hrv0)
  cases hall : allN t (rws l) (spN t) <;> rw [hall] at htr hRE
  all_goals
    have HF := Lib.hid (And.intro hck (And.intro hat htr))
    have HE := Lib.hid (And.intro hRE hall)
    clear hck hz hl hb hat htr hg g1 g2 g3 g4 h4 h6 hRE hRV hall h0 hrv0
    unfold btcells at HB0 HF ⊢
    go_enter Try.func19, Try.ntmps19
    go_wp2_with (first
      | (go_at_call 23; refine (HF.out.1 _ (grow1 w _)).mono ?_; rintro e w1 ⟨rfl, hB1⟩
         have hb1 := (hB1.block _ (by simp)).trans HB0.out
         have hc3 := fun i => cell_of_row w1 w.heap.size i _ _ _ hb1
         have H1 := Lib.hid (And.intro ((grow1 w _).trans (hB1.mono (by simp))) hb1); clear hB1 hb1)
      | (go_at_call 47; refine (HF.out.2.1 _ H1.out.1).mono ?_; rintro e w4 ⟨rfl, hB4⟩; have H4 := Lib.hid (H1.out.1.trans (hB4.mono H1.out.1.size)); clear hB4 hc3)
      | (go_at_call 51; refine (HF.out.2.2 _ H4.out).mono ?_; rintro e w5 ⟨rfl, hB5⟩; have H5 := Lib.hid (H4.out.trans (hB5.mono H4.out.size)); clear hB5))
    go_ret2
  · exact ⟨by rw [HRV.out.2 HE.out.2, HE.out.1]; rfl, H5.out⟩
  · exact ⟨by rw [HRV.out.1, HE.out.1]; rfl, H5.out⟩

theorem cureReady_any (t : Bt) (A : Option Addr) (cap : Nat) (l : List Sl) (B : Nat) (w : World) (hB : B ≤ w.heap.size) (hz : Rows w B A l) (hl : shortL l) :
    Calls Try.prog 19 #[.agg (btcells t (.slice A l.length cap))] w (RedPost w t (rws l)) := by
  cases hb : okBatch t (rws l) with
  | false => exact cureReady_bad t A cap l B w hB hz hl hb
  | true => exact cureReady_ok t A cap l B w hB hz hl hb

end Go.Proofs.Ytfampdiompjmeaa
