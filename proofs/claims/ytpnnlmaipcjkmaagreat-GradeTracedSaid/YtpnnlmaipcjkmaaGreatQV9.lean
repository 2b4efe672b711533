/-
  The program: sums, spans and habits, ripe and later, cuts.
-/
import Derived.Deep.QuietTactic
import Derived.BigQuiet
import Derived.Deep.RegionHeld3
import Derived.Deep.DrawnRows
import Derived.Outline
import Derived.RegionTactic
import Derived.ChangeAlike
import Derived.Test.YtpnnlmaipcjkmaaGreatQV1
import Derived.Test.YtpnnlmaipcjkmaaGreatQV8
set_option linter.all false
namespace Go.Proofs.YtpnnlmaipcjkmaaGreat
open Go.RowKit

set_option maxHeartbeats 400000 in
theorem sum_any (A : Option Addr) (cap : Nat) (zs : List Int) (B : Nat) (w : World) (h : Ints w B A zs) (hl : zs.length ≤ 1000) (hb : Bnd 0 1000000 zs) :
    Calls Tryz.prog 176 #[.slice A zs.length cap] w fun e w' => e = .returned (.int .i64 zs.sum) ∧ w = w' := by
  have hbd := sum_take_bnd hb
  have hbd' := Lib.hid hbd
  have hb' := Lib.hid hb
  have h' := Lib.hid h
  clear h hb hbd
  go_enter Tryz.func176, Tryz.ntmps176
  go_wp2
  go_loop [3, 8] (fun t i => ∃ k : Nat, k ≤ zs.length ∧ i = .int .i64 k ∧ t = .int .i64 (zs.take k).sum) (fun _ i => zs.length - (intOf i).toNat)
  case atStart => exact ⟨0, Nat.zero_le _, rfl, by simp⟩
  case round =>
    obtain ⟨k, hk, rfl, rfl⟩ := hrel
    by_cases hlt : k < zs.length
    · obtain ⟨b, off, hA, _, hc⟩ := h'.out (by omega)
      subst hA
      have hcell := hc k hlt
      clear hc
      have hbk := hbd'.out k (by omega)
      have hbb := hb'.out k hlt
      have hs := sum_take_succ zs k hlt
      generalize zs[k]?.getD 0 = x at hcell hbb hs
      have hs' := Lib.hid hs
      clear hs
      go_wp2
      go_round
      case rel => exact ⟨k + 1, by omega, by go_num, by rw [hs'.out]⟩
      case measure => simp [intOf]; omega
    · go_wp2
      go_ret
      exact ⟨ret_int (by rw [List.take_of_length_le (by omega)]), rfl⟩

theorem Bnd.drop {lo hi : Int} {c : List Int} (h : Bnd lo hi c) (r : Nat) : Bnd lo hi (c.drop r) := fun k hk => by
  simp only [List.length_drop] at hk
  have := h (r + k) (by omega)
  simpa [List.getElem?_drop] using this
end Go.Proofs.YtpnnlmaipcjkmaaGreat

namespace Go.Proofs.YtpnnlmaipcjkmaaGreat
open Go.RowKit

def allIn (lo hi : Int) (l : List Int) : Bool := l.all fun x => inR x lo hi
theorem allIn_at {lo hi : Int} {l : List Int} (h : ∀ k, k < l.length → inR (l[k]?.getD 0) lo hi = true) : allIn lo hi l = true := by
  simp only [allIn, List.all_eq_true]
  intro x hx
  obtain ⟨k, hk, rfl⟩ := List.mem_iff_getElem.1 hx
  simpa [hk] using h k hk
theorem allIn_not {lo hi : Int} {l : List Int} {k : Nat} (hk : k < l.length) (h : inR (l[k]?.getD 0) lo hi = false) : allIn lo hi l = false := by
  simp only [allIn, List.all_eq_false]
  exact ⟨l[k], List.getElem_mem hk, by simpa [hk] using h⟩

set_option maxHeartbeats 1000000 in
theorem within_anyL1 (lo hi : Int) (A : Option Addr) (cap : Nat) (zs : List Int) (B : Nat) (w : World) (hB : B ≤ w.heap.size) (hI : Ints w B A zs) (hl : zs.length ≤ 9223372036854775807) :
    Calls Tryz.prog 164 #[.agg #[.int .i64 lo, .int .i64 hi], .slice A zs.length cap] w fun e w' => e = .returned (.bool (allIn lo hi zs)) ∧ Below w.heap.size w w' := by
  have H := Lib.hid hI
  clear hI
  go_enter Tryz.func164, Tryz.ntmps164
  go_wp2
  go_loop [9] (fun i => ∃ k : Nat, k ≤ zs.length ∧ i = .int .i64 k ∧ Hid (∀ j, j < k → inR (zs[j]?.getD 0) lo hi = true)) (fun i => zs.length - (intOf i).toNat)
  case atStart => exact ⟨0, Nat.zero_le _, rfl, fun j hj => absurd hj (by omega)⟩
  case round =>
    obtain ⟨k, hk, rfl, hall⟩ := hrel
    by_cases hlt : k < zs.length
    · obtain ⟨b, off, hA, hbB, hc⟩ := H.out (by omega)
      subst hA
      have hcell : (w.alloc (.cells #[.int .i64 lo, .int .i64 hi] 50)).cell? ⟨b, off + k, none⟩ = _ := (World.cell?_alloc_lt _ _ _ (by simp; omega)).trans (hc k hlt)
      have hno := fun h => allIn_not (lo := lo) (hi := hi) hlt h
      clear hc
      generalize hx : zs[k]?.getD 0 = x at hcell hno
      have Hx := Lib.hid hx
      have Hno := Lib.hid hno
      clear hx hno
      by_cases h1 : x < lo
      · have hf := Lib.hid (Hno.out (by rw [inR_not]; omega))
        go_wp2
        go_ret
        exact ⟨by rw [hf.out]; rfl, (Below.refl _ _).alloc (Nat.le_refl _) _⟩
      · by_cases h2 : hi < x
        · have hf := Lib.hid (Hno.out (by rw [inR_not]; omega))
          go_wp2
          go_ret
          exact ⟨by rw [hf.out]; rfl, (Below.refl _ _).alloc (Nat.le_refl _) _⟩
        · have hin := Lib.hid (show inR x lo hi = true from inR_iff.2 (by omega))
          go_wp2
          go_round
          case rel => exact ⟨k + 1, by omega, by go_num, fun j hj => by
            rcases Nat.lt_or_ge j k with h | h
            · exact hall.out j h
            · obtain rfl : j = k := by omega
              rw [Hx.out]; exact hin.out⟩
          case measure => simp [intOf] <;> omega
    · obtain rfl : k = zs.length := by omega
      have hf := Lib.hid (allIn_at hall.out)
      clear hall
      go_wp2
      go_ret
      exact ⟨by rw [hf.out]; rfl, (Below.refl _ _).alloc (Nat.le_refl _) _⟩

set_option maxHeartbeats 400000 in
theorem upTo_anyL1 (m : Int) (w : World) :
    Calls Tryz.prog 165 #[.int .i64 m] w fun e w' => e = .returned (.agg #[.int .i64 0, .int .i64 m]) ∧ Below w.heap.size w w' := by
  go_enter Tryz.func165, Tryz.ntmps165
  go_wp2
  refine bodyPost_ret (v := .agg #[.int .i64 0, .int .i64 m]) (by simp [results, Tryz.results165, go_sem]) rfl ⟨rfl, ?_⟩
  exact (Below.refl _ _).alloc (Nat.le_refl _) _

def okSpan (lo hi m : Int) : Bool := decide (lo ≤ hi) && allIn 0 m [lo, hi]

theorem ints_litL1 {w : World} {g : Nat} {cs : Array Value} (zs : List Int) (h : w.heap[g]? = some (.cells cs 3 (0, 0))) (he : cs = (ints zs).toArray) : Ints w w.heap.size (some ⟨g, 0, none⟩) zs := fun _ =>
  ⟨g, 0, rfl, (Array.getElem?_eq_some_iff.1 h).1, fun k hk => by subst he; rw [Nat.zero_add]; exact (cell_of_row w g k _ _ _ h).trans (ints_at zs k hk)⟩

theorem drew_size' (w : World) : w.drew.heap.size = w.heap.size := rfl

set_option maxHeartbeats 2000000 in
theorem validSpan_anyL1 (lo hi m : Int) (w : World) :
    Calls Tryz.prog 180 #[.agg #[.int .i64 lo, .int .i64 hi], .int .i64 m] w fun e w' => e = .returned (.bool (okSpan lo hi m)) ∧ Below w.heap.size w w' := by
  by_cases h1 : lo ≤ hi
  · go_enter Tryz.func180, Tryz.ntmps180
    go_wp2
    go_region_held3 (fun W => W.cell? ⟨w.heap.size, 0, none⟩ = some (.int .i64 lo) ∧ W.cell? ⟨w.heap.size, 1, none⟩ = some (.int .i64 hi))
      (first | go_keep | exact ⟨k0, k1⟩ | exact ⟨k2, k3⟩)
      (first
        | (go_at_call 165; refine (upTo_anyL1 _ _).mono ?_; rintro e w1 ⟨rfl, hB1⟩
           have hs1 := hB1.size
           have hw : w.heap.size < w1.heap.size := by have := hB1.size; (try simp at this); omega
           have k0 := (hB1.cell (p := ⟨w.heap.size, 0, none⟩) (by simp; try omega)).trans (by simp : _ = some (Value.int .i64 lo))
           have k1 := (hB1.cell (p := ⟨w.heap.size, 1, none⟩) (by simp; try omega)).trans (by simp : _ = some (Value.int .i64 hi)))
        | (go_at_call 164; refine (within_anyL1 0 m _ 2 [lo, hi] _ _ (Nat.le_refl _) (by first | exact ints_litL1 _ (alloc_at0 _ _) rfl | exact ints_litL1 _ ((hB1.block _ (by simp)).trans (alloc2_at1 _ _ _)) rfl) (by simp)).mono ?_; rintro e w2 ⟨rfl, hB2⟩
           have k2 := (hB2.cell (p := ⟨w.heap.size, 0, none⟩) (by (try simp at hs1); (try simp); (try omega))).trans (by first | exact k0 | exact (World.cell?_alloc_lt _ _ _ hw).trans k0 : _ = some (Value.int .i64 lo))
           have k3 := (hB2.cell (p := ⟨w.heap.size, 1, none⟩) (by (try simp at hs1); (try simp); (try omega))).trans (by first | exact k1 | exact (World.cell?_alloc_lt _ _ _ hw).trans k1 : _ = some (Value.int .i64 hi))))
    all_goals
      have hs2 := hB2.size
      simp only [World.size_alloc, drew_size'] at hs1 hs2
      go_wp2
      go_ret
      first
        | exact ⟨by simp [okSpan, h1], ((((Below.refl _ w).alloc (Nat.le_refl _) _).drew.trans (hB1.mono (by rw [drew_size']; simp))).alloc (by omega) _).trans (hB2.mono (by simp; omega))⟩
        | exact ⟨by simp [okSpan, h1], ((((Below.refl _ w).alloc (Nat.le_refl _) _).alloc (by simp) _).drew.trans (hB1.mono (by rw [drew_size']; simp; omega))).trans (hB2.mono (by omega))⟩
  · have hd : decide (lo ≤ hi) = false := by simpa using h1
    go_enter Tryz.func180, Tryz.ntmps180
    go_wp2
    go_quiet (fail)
    go_wp2
    go_ret
    exact ⟨by simp [okSpan, hd], below_drewN ((Below.refl _ w).alloc (Nat.le_refl _) _) _⟩

end Go.Proofs.YtpnnlmaipcjkmaaGreat

namespace Go.Proofs.YtpnnlmaipcjkmaaGreat
open Go.RowKit

attribute [local go_sem] gives

theorem below_next {B : Nat} {w W W' : World} (h : Below B w W) (hB : B ≤ w.heap.size) (hg : Grows W W') : Below B w W' := h.trans (hg.mono (Nat.le_trans hB h.size))

theorem chain5 (a b c d e : Bool) : a = false ∨ (a = true ∧ b = false) ∨ (a = true ∧ b = true ∧ c = false) ∨ (a = true ∧ b = true ∧ c = true ∧ d = false) ∨
    (a = true ∧ b = true ∧ c = true ∧ d = true ∧ e = false) ∨ (a = true ∧ b = true ∧ c = true ∧ d = true ∧ e = true) := by
  cases a <;> cases b <;> cases c <;> cases d <;> cases e <;> simp

def okHabP (h : Hab) : Bool := okSpan h.lo h.hi 1000 && allIn 1 6 [h.dies] && allIn 0 h.dies [h.bears] && allIn 1 h.dies [h.ripe] && allIn 0 200 [h.keep]
theorem okHabP_eq (h : Hab) : okHabP h = okHab h := by
  simp only [okHabP, okHab, okSpan, allIn, inR, List.all_cons, List.all_nil, Bool.and_true]
  rw [Bool.eq_iff_iff]
  simp only [Bool.and_eq_true, decide_eq_true_eq]
  omega

set_option maxRecDepth 100000 in
set_option maxHeartbeats 4000000 in
theorem validHabit_any (h : Hab) (w : World) :
    Calls Tryz.prog 163 #[hv h] w fun e w' => e = .returned (.bool (okHab h)) ∧ Below w.heap.size w w' := by
  rw [← okHabP_eq]
  unfold okHabP hv
  rcases chain5 (okSpan h.lo h.hi 1000) (allIn 1 6 [h.dies]) (allIn 0 h.dies [h.bears]) (allIn 1 h.dies [h.ripe]) (allIn 0 200 [h.keep]) with
    h1 | ⟨h1, h2⟩ | ⟨h1, h2, h3⟩ | ⟨h1, h2, h3, h4⟩ | ⟨h1, h2, h3, h4, h5⟩ | ⟨h1, h2, h3, h4, h5⟩
  all_goals
    go_enter Tryz.func163, Tryz.ntmps163
    go_wp2
    have hcell : ∀ W, Below (w.heap.size + 1) (w.alloc (.cells #[.int .i64 h.lo, .int .i64 h.hi, .int .i64 h.bears, .int .i64 h.ripe, .int .i64 h.dies, .int .i64 h.keep] 71)) W → ∀ i, W.cell? ⟨w.heap.size, i, none⟩ = _ :=
      fun W hW i => (hW.cell (p := ⟨w.heap.size, i, none⟩) (by simp)).trans (cell_of_row _ w.heap.size i _ _ _ (alloc_at0 w _))
    refine wp_walk (C := Below (w.heap.size + 1) (w.alloc (.cells #[.int .i64 h.lo, .int .i64 h.hi, .int .i64 h.bears, .int .i64 h.ripe, .int .i64 h.dies, .int .i64 h.keep] 71))) (S := Grows) 38 (by kernel_rfl) (by kernel_rfl) rfl Grows.refl (Below.refl _ _).drew ?_
    simp only []
    repeat (first
      | (refine WalkR.un (fun _ => rfl) ?_
         simp only [Act.put, List.setIfInBounds_toArray, List.set_cons_succ, List.set_cons_zero])
      | (refine' WalkR.det (fun _ => rfl) rfl (fun ρ W hW hH => ?_) ?_
         rotate_left
         · clear hH
           have hc := hcell W hW
           go_simp
           first
             | exact ⟨rfl, Grows.refl _⟩
             | exact ⟨rfl, Grows.refl _, hW⟩
             | (go_at_call 180; refine (validSpan_anyL1 _ _ _ _).mono ?_; rintro e W1 ⟨rfl, hB1⟩; rw [h1]; exact ⟨_, rfl, rfl, hB1, below_next hW (by simp) hB1⟩)
             | (go_at_call 165; refine (upTo_anyL1 _ _).mono ?_; rintro e W1 ⟨rfl, hB1⟩; exact ⟨_, rfl, rfl, hB1, below_next hW (by simp) hB1⟩)
         simp only [Act.put, List.setIfInBounds_toArray, List.set_cons_succ, List.set_cons_zero])
      | (refine' WalkR.det (fun _ => rfl) rfl (fun ρ W hW hH => ?_) ?_
         rotate_left
         · obtain ⟨g, hv, hgm⟩ := hH _ (.head _) (by dsimp only; decide +kernel)
           clear hH
           go_simp
           go_at_call 164
           first
             | (refine (within_anyL1 _ _ _ 1 [h.dies] _ _ (Nat.le_refl _) (ints_litL1 [h.dies] hgm rfl) (by simp)).mono ?_; rintro e W1 ⟨rfl, hB1⟩; rw [h2]; exact ⟨_, rfl, rfl, hB1, below_next hW (by simp) hB1⟩)
             | (refine (within_anyL1 _ _ _ 1 [h.bears] _ _ (Nat.le_refl _) (ints_litL1 [h.bears] hgm rfl) (by simp)).mono ?_; rintro e W1 ⟨rfl, hB1⟩; rw [h3]; exact ⟨_, rfl, rfl, hB1, below_next hW (by simp) hB1⟩)
             | (refine (within_anyL1 _ _ _ 1 [h.ripe] _ _ (Nat.le_refl _) (ints_litL1 [h.ripe] hgm rfl) (by simp)).mono ?_; rintro e W1 ⟨rfl, hB1⟩; rw [h4]; exact ⟨_, rfl, rfl, hB1, below_next hW (by simp) hB1⟩)
             | (refine (within_anyL1 _ _ _ 1 [h.keep] _ _ (Nat.le_refl _) (ints_litL1 [h.keep] hgm rfl) (by simp)).mono ?_; rintro e W1 ⟨rfl, hB1⟩; rw [h5]; exact ⟨_, rfl, rfl, hB1, below_next hW (by simp) hB1⟩)
         simp only [Act.put, List.setIfInBounds_toArray, List.set_cons_succ, List.set_cons_zero])
      | (refine' WalkR.nd (NewSl _ _ _) (fun _ => rfl) rfl rfl (fun v W W' hv hg _ => hv.keep v W W' hg) (fun ρ W hW hH => ?_) ?_
         rotate_left
         rotate_left
         rotate_left
         · clear hH
           go_simp
           exact ⟨⟨_, rfl, alloc_at0 _ _⟩, (Below.refl _ _).alloc (Nat.le_refl _) _, hW.alloc (by have := hW.size; simp at this; omega) _⟩
         simp only [Act.put, List.setIfInBounds_toArray, List.set_cons_succ, List.set_cons_zero]))
    refine WalkR.nil (fun ρ W hW hH => ?_)
    clear hH
    go_wp2
    go_ret
    exact ⟨by simp [*], ((Below.refl _ _).alloc (Nat.le_refl _) _).trans (hW.mono (by simp))⟩

end Go.Proofs.YtpnnlmaipcjkmaaGreat

namespace Go.Proofs.YtpnnlmaipcjkmaaGreat
open Go.RowKit

set_option maxHeartbeats 400000 in
theorem ripe_any (h : Hab) (r : Nat) (hr : h.ripe = r) (hr6 : r ≤ 6) (c : List Int) (hc : c.length = 7) (hb : Bnd 0 1000000 c) (w : World) :
    Calls Tryz.prog 152 #[gv h c] w fun e w' => e = .returned (.int .i64 (c.drop r).sum) ∧ Below w.heap.size w w' := by
  obtain ⟨lo, hi, be, ri, di, ke⟩ := h
  simp only at hr
  subst hr
  have hI := ints_of_block (B := w.heap.size + 1) (r := r) (heap_alloc_new w (.cells (gcells ⟨lo, hi, be, r, di, ke⟩ c) 232)) (by omega) (7 - r) (by omega)
  have e7 : (c.drop r).take (7 - r) = c.drop r := List.take_of_length_le (by simp [hc])
  rw [e7] at hI
  have H := sum_any (some ⟨w.heap.size, 6 + r, none⟩) (7 - r) (c.drop r) (w.heap.size + 1) _ hI (by simp; omega) (hb.drop r)
  rw [List.length_drop, hc] at H
  have HH := Lib.hid H
  have hgv : gv ⟨lo, hi, be, r, di, ke⟩ c = .agg (gcells ⟨lo, hi, be, r, di, ke⟩ c) := rfl
  rw [hgv]
  clear H hI e7 hgv
  obtain ⟨c0, c1, c2, c3, c4, c5, c6, rfl⟩ := len7 hc
  have hg : gcells ⟨lo, hi, be, r, di, ke⟩ [c0, c1, c2, c3, c4, c5, c6] = #[.int .i64 lo, .int .i64 hi, .int .i64 be, .int .i64 r, .int .i64 di, .int .i64 ke, .int .i64 c0, .int .i64 c1, .int .i64 c2, .int .i64 c3, .int .i64 c4, .int .i64 c5, .int .i64 c6] := rfl
  rw [hg] at HH ⊢
  generalize (List.drop r [c0, c1, c2, c3, c4, c5, c6]).sum = S at HH ⊢
  have b1 : (0 : Int) ≤ (r : Int) := by omega
  have b2 : (r : Int) ≤ 7 := by omega
  have b3 : ¬ (7 : Nat) = r := by omega
  clear hg hb hc
  go_enter Tryz.func152, Tryz.ntmps152
  go_wp2_with (go_at_call 176; refine (HH.out).mono ?_; rintro e w' ⟨rfl, rfl⟩)
  go_ret
  exact ⟨rfl, (Below.refl _ _).alloc (Nat.le_refl _) _⟩

set_option maxHeartbeats 1000000 in
theorem later_anyL1 (h : Hab) (d : Nat) (hd : h.dies = d) (hd6 : d ≤ 6) (c : List Int) (hc : c.length = 7) (s : Int) (w : World) :
    Calls Tryz.prog 151 #[gv h c, .int .i64 s] w fun e w' => e = .returned (gv h (laterP d c s)) ∧ Below w.heap.size w w' := by
  obtain ⟨lo, hi, be, ri, di, ke⟩ := h
  simp only at hd
  subst hd
  have hc0 := Lib.hid hc
  obtain ⟨c0, c1, c2, c3, c4, c5, c6, hc7⟩ := len7 hc
  clear hc
  rw [show gv ⟨lo, hi, be, ri, (d : Int), ke⟩ c = .agg #[.int .i64 lo, .int .i64 hi, .int .i64 be, .int .i64 ri, .int .i64 d, .int .i64 ke, .int .i64 c0, .int .i64 c1, .int .i64 c2, .int .i64 c3, .int .i64 c4, .int .i64 c5, .int .i64 c6] from by rw [hc7]; rfl]
  go_enter Tryz.func151, Tryz.ntmps151
  go_wp2
  go_loopw [12] (fun i wr => ∃ k : Nat, k ≤ d ∧ i = .int .i64 k ∧ Hid (wr.heap[w.heap.size]? = some (.cells (gcells ⟨lo, hi, be, ri, d, ke⟩ c) 232 (0, 0))) ∧
      Hid (wr.heap[w.heap.size + 1]? = some (.cells (gcells ⟨0, 0, 0, 0, 0, 0⟩ [0, 0, 0, 0, 0, 0, 0]) 232 (0, 0))) ∧
      Hid (wr.heap[w.heap.size + 1 + 1]? = some (.cells (ints (laterP k c s)).toArray 137 (0, 0))) ∧ Hid (Below w.heap.size w wr))
    (fun i _ => d - (intOf i).toNat)
  case atStart =>
    refine ⟨0, Nat.zero_le _, rfl, ?_, ?_, ?_, ?_⟩
    · show _ = _
      first | (rw [alloc3_at0, hc7]; rfl) | (rw [heap_setCell_other _ _ _ _ (by simp), alloc3_at0, hc7]; rfl)
    · show _ = _
      first | (rw [alloc3_at1]; rfl) | (rw [heap_setCell_other _ _ _ _ (by simp), alloc3_at1]; rfl)
    · show _ = _
      rw [alloc3_at2]; rfl
    · exact (((Below.refl _ _).alloc (Nat.le_refl _) _).alloc (by simp) _).alloc (by simp; omega) _
  case round =>
    obtain ⟨k, hk, rfl, hP, hR, hG, hBel⟩ := hrel
    by_cases hlt : k < d
    · have cx : wr.cell? ⟨w.heap.size, 6 + k, none⟩ = _ := (cell_of_row wr _ _ _ _ _ hP.out).trans (gcells_at _ _ k (by rw [hc0.out]; omega))
      have hlen := laterP_len s (show k ≤ 6 by omega) hc0.out
      have cg : wr.cell? ⟨w.heap.size + 1 + 1, k + 1, none⟩ = _ := (cell_of_row wr _ _ _ _ _ hG.out).trans (ints_at _ (k + 1) (by omega))
      have fg := frozen_of_row wr _ (k + 1) _ _ hG.out
      have hs := laterP_succ s (show k < 6 by omega) hc0.out
      generalize c[k]?.getD 0 = x at cx hs
      have hst := heap_setCell_same wr (w.heap.size + 1 + 1) (k + 1) _ _ (.int .i64 x) hG.out
      rw [ints_set, hs] at hst
      have HS := Lib.hid (And.intro hst (And.intro (heap_setCell_other wr ⟨w.heap.size + 1 + 1, k + 1, none⟩ w.heap.size (.int .i64 x) (by simp; omega)) (heap_setCell_other wr ⟨w.heap.size + 1 + 1, k + 1, none⟩ (w.heap.size + 1) (.int .i64 x) (by simp))))
      have HB := Lib.hid (hBel.out.setCell (p := ⟨w.heap.size + 1 + 1, k + 1, none⟩) (by simp; omega) (.int .i64 x))
      have b1 : (k : Int) < 6 := by omega
      have b2 : (0 : Int) ≤ (k : Int) := by omega
      clear hs hlen hst hc7
      go_wp2
      go_roundw
      case rel => exact ⟨k + 1, by omega, by go_num, HS.out.2.1.trans hP.out, HS.out.2.2.trans hR.out, HS.out.1, HB.out⟩
      case measure => simp [intOf] <;> omega
    · obtain rfl : k = d := by omega
      have hlen := laterP_len s hd6 hc0.out
      generalize hst : laterP k c s = l at hG hlen ⊢
      obtain ⟨p0, p1, p2, p3, p4, p5, p6, hp⟩ := len7 hlen
      have cP := fun i => cell_of_row wr w.heap.size i _ _ _ hP.out
      have fP := fun i => frozen_of_row wr w.heap.size i _ _ hP.out
      have cG := fun i => cell_of_row wr (w.heap.size + 1 + 1) i _ _ _ hG.out
      have fR := fun i => frozen_of_row wr (w.heap.size + 1) i _ _ hR.out
      have cR := fun i => cell_of_row wr (w.heap.size + 1) i _ _ _ hR.out
      rw [hc7] at cP
      rw [hp] at cG
      simp only [gcells, hcells, ints, List.map_cons, List.map_nil, List.cons_append, List.nil_append] at cP cG cR
      have HL := Lib.hid (And.intro hst hp)
      clear hlen hst hp hc7
      go_wp2
      refine bodyPost_ret (v := .agg #[.int .i64 lo, .int .i64 hi, .int .i64 be, .int .i64 ri, .int .i64 k, .int .i64 ke, .int .i64 p0, .int .i64 p1, .int .i64 p2, .int .i64 p3, .int .i64 p4, .int .i64 p5, .int .i64 p6]) (by simp [results, Tryz.results151, go_sem, cR]) rfl ⟨?_, ?_⟩
      · rw [HL.out.1, HL.out.2]; rfl
      · have hBel := hBel.out
        repeat (first | with_reducible assumption | with_reducible refine Below.drew ?_ | (with_reducible refine Below.setCell ?_ ?hp _; case hp => simp; try omega))

end Go.Proofs.YtpnnlmaipcjkmaaGreat

namespace Go.Proofs.YtpnnlmaipcjkmaaGreat
open Go.RowKit

set_option maxHeartbeats 1000000 in
theorem cut_any (h : Hab) (d r : Nat) (hd : h.dies = d) (hr : h.ripe = r) (hr1 : 1 ≤ r) (hrd : r ≤ d) (hd6 : d ≤ 6) (c : List Int) (hc : c.length = 7) (M : Int) (hM : M ≤ 1000000) (hb : Bnd 0 M c) (n : Int) (hn : 0 ≤ n) (hn2 : n ≤ M) (w : World) :
    Calls Tryz.prog 153 #[gv h c, .int .i64 n] w fun e w' => e = .returned (.tuple #[gv h (cutTo c n d (d - r + 1)).1, .agg (ints (cutTo c n d (d - r + 1)).2.1).toArray]) ∧ Below w.heap.size w w' := by
  obtain ⟨lo, hi, be, ri, di, ke⟩ := h
  simp only at hd hr
  subst hd hr
  have hc0 := Lib.hid hc
  obtain ⟨c0, c1, c2, c3, c4, c5, c6, hc7⟩ := len7 hc
  clear hc
  rw [show gv ⟨lo, hi, be, (r : Int), (d : Int), ke⟩ c = .agg #[.int .i64 lo, .int .i64 hi, .int .i64 be, .int .i64 r, .int .i64 d, .int .i64 ke, .int .i64 c0, .int .i64 c1, .int .i64 c2, .int .i64 c3, .int .i64 c4, .int .i64 c5, .int .i64 c6] from by rw [hc7]; rfl]
  go_enter Tryz.func153, Tryz.ntmps153
  go_wp2
  go_loopw [1, 6] (fun m i wr => ∃ k : Nat, k ≤ d - r + 1 ∧ i = .int .i64 ((d : Int) - k) ∧ m = .int .i64 (cutTo c n d k).2.2 ∧
      wr.heap[w.heap.size]? = some (.cells (gcells ⟨lo, hi, be, r, d, ke⟩ (cutTo c n d k).1) 232 (0, 0)) ∧
      wr.heap[w.heap.size + 1]? = some (.cells (gcells ⟨0, 0, 0, 0, 0, 0⟩ [0, 0, 0, 0, 0, 0, 0]) 232 (0, 0)) ∧
      wr.heap[w.heap.size + 1 + 1]? = some (.cells (ints (cutTo c n d k).2.1).toArray 137 (0, 0)) ∧ Below w.heap.size w wr)
    (fun _ i _ => (intOf i - r + 1).toNat)
  case atStart =>
    refine ⟨0, Nat.zero_le _, by simp, rfl, ?_, ?_, ?_, (((Below.refl _ _).alloc (Nat.le_refl _) _).alloc (by simp) _).alloc (by simp; omega) _⟩
    · rw [alloc3_at0, hc7]; rfl
    · rw [alloc3_at1]; rfl
    · rw [alloc3_at2, hc7]; rfl
  case round =>
    obtain ⟨k, hk, rfl, rfl, hP, hR, hG, hBel⟩ := hrel
    by_cases hlt : k ≤ d - r
    · obtain ⟨a, ha⟩ : ∃ a : Nat, a = d - k := ⟨_, rfl⟩
      have e1 : ((d : Int) - k) = (a : Int) := by omega
      have hlen := cutTo_len c n d k
      rw [hc0.out] at hlen
      have hbk := cutTo_bnd hb hn hn2 d (by rw [hc0.out]; omega) k (by omega)
      have hx := hbk.1 a (by omega)
      have cx : wr.cell? ⟨w.heap.size, 6 + a, none⟩ = _ := (cell_of_row wr _ _ _ _ _ hP).trans (gcells_at _ _ a (by omega))
      have cr : wr.cell? ⟨w.heap.size, 3, none⟩ = some (.int .i64 r) := (cell_of_row wr _ _ _ _ _ hP).trans rfl
      have cg : wr.cell? ⟨w.heap.size + 1 + 1, a, none⟩ = _ := (cell_of_row wr _ _ _ _ _ hG).trans (ints_at _ a (by omega))
      have fx := frozen_of_row wr _ (6 + a) _ _ hP
      have fg := frozen_of_row wr _ a _ _ hG
      have hm := hbk.2.2
      have hstep := fun t u v => @cutTo_succ c n d k a ha _ _ rfl rfl t u v
      generalize hmm : (cutTo c n d k).2.2 = m at hm hstep ⊢
      generalize (cutTo c n d k).1[a]?.getD 0 = x at cx hx hstep
      generalize (cutTo c n d k).2.1[a]?.getD 0 = y at cg
      rw [e1]
      have Hs := Lib.hid hstep
      have HP := Lib.hid hP
      have HR := Lib.hid hR
      have HG := Lib.hid hG
      have HBel := Lib.hid hBel
      have Ha := Lib.hid ha
      have H7 := Lib.hid hc7
      clear hstep hP hR hG hBel e1 hbk hlen ha hmm hc7
      have hr' : (r : Int) ≤ a := by have := Ha.out; omega
      have ha7 : a < 7 := by have := Ha.out; omega
      have hak : (a : Int) - 1 = (d : Int) - ((k + 1 : Nat) : Int) := by have := Ha.out; omega
      have Hak := Lib.hid hak
      clear hak
      rcases Int.lt_or_le x m with hmx | hmx
      · have hs := set2 (i := 6 + a) (j := a) HP.out HG.out (by omega) (.int .i64 x) (.int .i64 0)
        have hBel2 := (HBel.out.setCell (p := ⟨w.heap.size + 1 + 1, a, none⟩) (by simp; omega) (.int .i64 x)).setCell (p := ⟨w.heap.size, 6 + a, none⟩) (Nat.le_refl _) (.int .i64 0)
        have e2 := Hs.out x 0 (m - x) (by omega) (by omega) rfl
        rw [gcells_set, ints_set] at hs
        have HS := Lib.hid hs
        have HB := Lib.hid hBel2
        have HE := Lib.hid e2
        clear hs hBel2 e2
        go_wp2
        go_region
        go_wp2
        go_roundw
        case rel =>
          have e2 := HE.out
          exact ⟨k + 1, by have := Ha.out; omega, by rw [Hak.out], by rw [e2], by rw [e2]; exact HS.out.1, by exact (HS.out.2.2 _ (by omega) (by omega)).trans HR.out, by rw [e2]; exact HS.out.2.1, HB.out.drew⟩
        case measure => simp [intOf]; omega
      · have hs := set2 (i := 6 + a) (j := a) HP.out HG.out (by omega) (.int .i64 m) (.int .i64 (x - m))
        have hBel2 := (HBel.out.setCell (p := ⟨w.heap.size + 1 + 1, a, none⟩) (by simp; omega) (.int .i64 m)).setCell (p := ⟨w.heap.size, 6 + a, none⟩) (Nat.le_refl _) (.int .i64 (x - m))
        have e2 := Hs.out m (x - m) 0 (by omega) rfl (by omega)
        rw [gcells_set, ints_set] at hs
        have HS := Lib.hid hs
        have HB := Lib.hid hBel2
        have HE := Lib.hid e2
        clear hs hBel2 e2
        go_wp2
        go_region
        go_wp2
        go_roundw
        case rel =>
          have e2 := HE.out
          exact ⟨k + 1, by have := Ha.out; omega, by rw [Hak.out], by rw [e2], by rw [e2]; exact HS.out.1, by exact (HS.out.2.2 _ (by omega) (by omega)).trans HR.out, by rw [e2]; exact HS.out.2.1, HB.out.drew⟩
        case measure => simp [intOf]; omega
    · obtain rfl : k = d - r + 1 := by omega
      have e1 : ((d : Int) - ((d - r + 1 : Nat) : Int)) = (r : Int) - 1 := by omega
      have hlen := cutTo_len c n d (d - r + 1)
      rw [hc0.out] at hlen
      rw [e1]
      have cr : wr.cell? ⟨w.heap.size, 3, none⟩ = some (.int .i64 r) := (cell_of_row wr _ _ _ _ _ hP).trans rfl
      generalize hst : cutTo c n d (d - r + 1) = st at hP hG hlen ⊢
      obtain ⟨c', g', m'⟩ := st
      simp only at hP hG hlen ⊢
      obtain ⟨p0, p1, p2, p3, p4, p5, p6, hp⟩ := len7 hlen.1
      obtain ⟨q0, q1, q2, q3, q4, q5, q6, hq⟩ := len7 hlen.2
      have cP := fun i => cell_of_row wr w.heap.size i _ _ _ hP
      have cG := fun i => cell_of_row wr (w.heap.size + 1 + 1) i _ _ _ hG
      have fG := fun i => frozen_of_row wr (w.heap.size + 1 + 1) i _ _ hG
      have fR := fun i => frozen_of_row wr (w.heap.size + 1) i _ _ hR
      have cR := fun i => cell_of_row wr (w.heap.size + 1) i _ _ _ hR
      rw [hp] at cP
      rw [hq] at cG
      simp only [gcells, hcells, ints, List.map_cons, List.map_nil, List.cons_append, List.nil_append] at cP cG cR
      have HP := Lib.hid hP
      have HR := Lib.hid hR
      have HG := Lib.hid hG
      have HBel := Lib.hid hBel
      have H7 := Lib.hid hc7
      have Hp := Lib.hid hp
      have Hq := Lib.hid hq
      have Hst := Lib.hid hst
      clear hP hR hG hBel e1 hlen hc7 hp hq hst
      go_wp2
      go_region
      go_wp2
      refine bodyPost_ret (v := .tuple #[.agg #[.int .i64 lo, .int .i64 hi, .int .i64 be, .int .i64 r, .int .i64 d, .int .i64 ke, .int .i64 p0, .int .i64 p1, .int .i64 p2, .int .i64 p3, .int .i64 p4, .int .i64 p5, .int .i64 p6], .agg #[.int .i64 q0, .int .i64 q1, .int .i64 q2, .int .i64 q3, .int .i64 q4, .int .i64 q5, .int .i64 q6]]) (by simp [results, Tryz.results153, go_sem, cR, cG]) rfl ⟨?_, ?_⟩
      · have e2 := Hst.out
        rw [e2, Hp.out, Hq.out]; rfl
      · have hBel := HBel.out
        repeat (first | with_reducible assumption | with_reducible refine Below.drew ?_ | (with_reducible refine Below.setCell ?_ ?hp _; case hp => simp; try omega))

end Go.Proofs.YtpnnlmaipcjkmaaGreat
