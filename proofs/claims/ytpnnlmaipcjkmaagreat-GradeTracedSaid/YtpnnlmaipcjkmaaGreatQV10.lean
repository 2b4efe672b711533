/-
  The program's look at the bounds of a grove.
-/
import Derived.Test.YtpnnlmaipcjkmaaGreatQV1
import Derived.Test.YtpnnlmaipcjkmaaGreatQV9
import Derived.Test.YtpnnlmaipcjkmaaGreatQV8
set_option linter.all false
namespace Go.Proofs.YtpnnlmaipcjkmaaGreat
open Go.RowKit

attribute [local go_sem] gives

def seasR (ss : List (Int × Int)) : Bool := ss.all fun p => inR p.1 0 30 && inR p.2 0 30
theorem allIn_one (lo hi x : Int) : allIn lo hi [x] = inR x lo hi := by simp [allIn]
theorem okStart_eq (g : Gr) : okStart g = allIn 0 9 g.start := rfl
theorem seasR_not {ss : List (Int × Int)} {k : Nat} (hk : k < ss.length) (h : allIn 0 30 [(ss[k]?.getD (0, 0)).1, (ss[k]?.getD (0, 0)).2] = false) : seasR ss = false := by
  simp only [seasR, List.all_eq_false]
  refine ⟨ss[k], List.getElem_mem hk, ?_⟩
  simpa [hk, allIn] using h
theorem seasR_all {ss : List (Int × Int)} (h : ∀ k, k < ss.length → allIn 0 30 [(ss[k]?.getD (0, 0)).1, (ss[k]?.getD (0, 0)).2] = true) : seasR ss = true := by
  simp only [seasR, List.all_eq_true]
  intro x hx
  obtain ⟨k, hk, rfl⟩ := List.mem_iff_getElem.1 hx
  simpa [hk, allIn] using h k hk

theorem chain3 (a b c : Bool) : a = false ∨ (a = true ∧ b = false) ∨ (a = true ∧ b = true ∧ c = false) ∨ (a = true ∧ b = true ∧ c = true) := by
  cases a <;> cases b <;> cases c <;> simp

theorem okPre_not1 {g : Gr} (h : okHab g.hab = false ∨ allIn 0 9999 [g.id] = false ∨ allIn 0 3000 [g.first] = false ∨ (g.start.length : Int) < g.hab.dies + 1 ∨ g.hab.dies + 1 < (g.start.length : Int) ∨ 60 < g.seas.length ∨ 3000 < g.first + g.seas.length) : okPre g = false := by
  simp only [allIn_one] at h
  have : ¬ okPre g = true := fun hp => by
    simp only [okPre, Bool.and_eq_true, decide_eq_true_eq] at hp
    obtain ⟨⟨⟨⟨⟨h1, h2⟩, h3⟩, h4⟩, h5⟩, h6⟩ := hp
    rcases h with h | h | h | h | h | h | h
    · rw [h2] at h; cases h
    · rw [h1] at h; cases h
    · rw [h3] at h; cases h
    · omega
    · omega
    · omega
    · omega
  simpa using this

set_option maxRecDepth 100000 in
set_option maxHeartbeats 4000000 in
theorem validBounds_1 (g : Gr) (A1 : Option Addr) (c1 : Nat) (A2 : Option Addr) (c2 : Nat) (B : Nat) (w : World) (_ : B ≤ w.heap.size) (hG : GrAt w B g A1 c1 A2 c2) (h : okHab g.hab = false ∨ allIn 0 9999 [g.id] = false ∨ allIn 0 3000 [g.first] = false) :
    Calls Tryz.prog 122 #[grv g A1 c1 A2 c2] w fun e w' => e = .returned (.bool false) ∧ Below w.heap.size w w' := by
  have HG := Lib.hid hG
  have Hh := Lib.hid h
  clear hG h
  unfold grv
  rcases chain3 (okHab g.hab) (allIn 0 9999 [g.id]) (allIn 0 3000 [g.first]) with h1 | ⟨h1, h2⟩ | ⟨h1, h2, h3⟩ | ⟨h1, h2, h3⟩
  case inr.inr.inr => exfalso; have := Hh.out; simp [h1, h2, h3] at this
  all_goals
    go_enter Tryz.func122, Tryz.ntmps122
    go_wp2
    have hcell : ∀ W, Below (w.heap.size + 1) (w.alloc (.cells #[.int .i64 g.id, .int .i64 g.hab.lo, .int .i64 g.hab.hi, .int .i64 g.hab.bears, .int .i64 g.hab.ripe, .int .i64 g.hab.dies, .int .i64 g.hab.keep, .int .i64 g.first, .slice A1 g.start.length c1, .slice A2 g.seas.length c2] 74)) W → ∀ i, W.cell? ⟨w.heap.size, i, none⟩ = _ :=
      fun W hW i => (hW.cell (p := ⟨w.heap.size, i, none⟩) (by simp)).trans (cell_of_row _ w.heap.size i _ _ _ (alloc_at0 w _))
    refine wp_walk (C := Below (w.heap.size + 1) (w.alloc (.cells #[.int .i64 g.id, .int .i64 g.hab.lo, .int .i64 g.hab.hi, .int .i64 g.hab.bears, .int .i64 g.hab.ripe, .int .i64 g.hab.dies, .int .i64 g.hab.keep, .int .i64 g.first, .slice A1 g.start.length c1, .slice A2 g.seas.length c2] 74))) (S := Grows) 69 (by kernel_rfl) (by kernel_rfl) rfl Grows.refl (Below.refl _ _).drew ?_
    simp only []
    repeat (first
      | (refine WalkR.un (fun _ => rfl) ?_
         simp only [Act.put, List.setIfInBounds_toArray, List.set_cons_succ, List.set_cons_zero])
      | (refine' WalkR.det (fun _ => rfl) rfl (fun ρ W hW hH => ?_) ?_
         rotate_left
         · clear hH
           have hc := hcell W hW
           go_simp
           first
             | exact ⟨rfl, Grows.refl _⟩
             | exact ⟨rfl, Grows.refl _, hW⟩
             | (go_at_call 163; refine (validHabit_any g.hab _).mono ?_; rintro e W1 ⟨rfl, hB1⟩; rw [h1]; exact ⟨_, rfl, rfl, hB1, below_next hW (by simp) hB1⟩)
             | (go_at_call 165; refine (upTo_anyL1 _ _).mono ?_; rintro e W1 ⟨rfl, hB1⟩; exact ⟨_, rfl, rfl, hB1, below_next hW (by simp) hB1⟩)
         simp only [Act.put, List.setIfInBounds_toArray, List.set_cons_succ, List.set_cons_zero])
      | (refine' WalkR.det (fun _ => rfl) rfl (fun ρ W hW hH => ?_) ?_
         rotate_left
         · obtain ⟨gg, hv, hgm⟩ := hH _ (.head _) (by dsimp only; decide +kernel)
           clear hH
           go_simp
           first
             | (go_at_call 164; refine (within_anyL1 _ _ _ 1 [g.id] _ _ (Nat.le_refl _) (ints_litL1 [g.id] hgm rfl) (by simp)).mono ?_; rintro e W1 ⟨rfl, hB1⟩; rw [h2]; exact ⟨_, rfl, rfl, hB1, below_next hW (by simp) hB1⟩)
             | (go_at_call 164; refine (within_anyL1 _ _ _ 1 [g.first] _ _ (Nat.le_refl _) (ints_litL1 [g.first] hgm rfl) (by simp)).mono ?_; rintro e W1 ⟨rfl, hB1⟩; rw [h3]; exact ⟨_, rfl, rfl, hB1, below_next hW (by simp) hB1⟩)
         simp only [Act.put, List.setIfInBounds_toArray, List.set_cons_succ, List.set_cons_zero])
      | (refine' WalkR.nd (NewSl _ _ _) (fun _ => rfl) rfl rfl (fun v W W' hv hg _ => hv.keep v W W' hg) (fun ρ W hW hH => ?_) ?_
         rotate_left
         rotate_left
         rotate_left
         · clear hH
           have hc := hcell W hW
           go_simp
           exact ⟨⟨_, rfl, alloc_at0 _ _⟩, (Below.refl _ _).alloc (Nat.le_refl _) _, hW.alloc (by have := hW.size; simp at this; omega) _⟩
         simp only [Act.put, List.setIfInBounds_toArray, List.set_cons_succ, List.set_cons_zero]))
    refine WalkR.nil (fun ρ W hW hH => ?_)
    clear hH
    go_wp2
    go_ret
    exact ⟨rfl, ((Below.refl _ _).alloc (Nat.le_refl _) _).trans (hW.mono (by simp))⟩

set_option maxRecDepth 100000 in
set_option maxHeartbeats 4000000 in
theorem validBounds_2 (g : Gr) (A1 : Option Addr) (c1 : Nat) (A2 : Option Addr) (c2 : Nat) (B : Nat) (w : World) (hB : B ≤ w.heap.size) (hG : GrAt w B g A1 c1 A2 c2) (h1 : okHab g.hab = true) (h2 : allIn 0 9999 [g.id] = true) (h3 : allIn 0 3000 [g.first] = true)
    (h : (g.start.length : Int) < g.hab.dies + 1 ∨ g.hab.dies + 1 < (g.start.length : Int) ∨ (((g.start.length : Int) ≤ g.hab.dies + 1 ∧ g.hab.dies + 1 ≤ (g.start.length : Int)) ∧ allIn 0 9 g.start = false)) :
    Calls Tryz.prog 122 #[grv g A1 c1 A2 c2] w fun e w' => e = .returned (.bool false) ∧ Below w.heap.size w w' := by
  have HG := Lib.hid hG
  clear hG
  have k2 := (okHab_iff.1 h1).2.2.1
  have hl1 := HG.out.len1
  unfold grv
  rcases h with h4 | h4 | ⟨⟨h4, h4'⟩, h5⟩
  all_goals
    go_enter Tryz.func122, Tryz.ntmps122
    go_wp2
    have hcell : ∀ W, Below (w.heap.size + 1) (w.alloc (.cells #[.int .i64 g.id, .int .i64 g.hab.lo, .int .i64 g.hab.hi, .int .i64 g.hab.bears, .int .i64 g.hab.ripe, .int .i64 g.hab.dies, .int .i64 g.hab.keep, .int .i64 g.first, .slice A1 g.start.length c1, .slice A2 g.seas.length c2] 74)) W → ∀ i, W.cell? ⟨w.heap.size, i, none⟩ = _ :=
      fun W hW i => (hW.cell (p := ⟨w.heap.size, i, none⟩) (by simp)).trans (cell_of_row _ w.heap.size i _ _ _ (alloc_at0 w _))
    refine wp_walk (C := Below (w.heap.size + 1) (w.alloc (.cells #[.int .i64 g.id, .int .i64 g.hab.lo, .int .i64 g.hab.hi, .int .i64 g.hab.bears, .int .i64 g.hab.ripe, .int .i64 g.hab.dies, .int .i64 g.hab.keep, .int .i64 g.first, .slice A1 g.start.length c1, .slice A2 g.seas.length c2] 74))) (S := Grows) 69 (by kernel_rfl) (by kernel_rfl) rfl Grows.refl (Below.refl _ _).drew ?_
    simp only []
    repeat (first
      | (refine WalkR.un (fun _ => rfl) ?_
         simp only [Act.put, List.setIfInBounds_toArray, List.set_cons_succ, List.set_cons_zero])
      | (refine' WalkR.det (fun _ => rfl) rfl (fun ρ W hW hH => ?_) ?_
         rotate_left
         · clear hH
           have hc := hcell W hW
           go_simp
           first
             | exact ⟨rfl, Grows.refl _⟩
             | exact ⟨rfl, Grows.refl _, hW⟩
             | (go_at_call 163; refine (validHabit_any g.hab _).mono ?_; rintro e W1 ⟨rfl, hB1⟩; rw [h1]; exact ⟨_, rfl, rfl, hB1, below_next hW (by simp) hB1⟩)
             | (go_at_call 165; refine (upTo_anyL1 _ _).mono ?_; rintro e W1 ⟨rfl, hB1⟩; exact ⟨_, rfl, rfl, hB1, below_next hW (by simp) hB1⟩)
         simp only [Act.put, List.setIfInBounds_toArray, List.set_cons_succ, List.set_cons_zero])
      | (refine' WalkR.det (fun _ => rfl) rfl (fun ρ W hW hH => ?_) ?_
         rotate_left
         · obtain ⟨gg, hv, hgm⟩ := hH _ (.head _) (by dsimp only; decide +kernel)
           clear hH
           go_simp
           first
             | (go_at_call 164; refine (within_anyL1 _ _ _ 1 [g.id] _ _ (Nat.le_refl _) (ints_litL1 [g.id] hgm rfl) (by simp)).mono ?_; rintro e W1 ⟨rfl, hB1⟩; rw [h2]; exact ⟨_, rfl, rfl, hB1, below_next hW (by simp) hB1⟩)
             | (go_at_call 164; refine (within_anyL1 _ _ _ 1 [g.first] _ _ (Nat.le_refl _) (ints_litL1 [g.first] hgm rfl) (by simp)).mono ?_; rintro e W1 ⟨rfl, hB1⟩; rw [h3]; exact ⟨_, rfl, rfl, hB1, below_next hW (by simp) hB1⟩)
         simp only [Act.put, List.setIfInBounds_toArray, List.set_cons_succ, List.set_cons_zero])
      | (refine' WalkR.nd (NewSl _ _ _) (fun _ => rfl) rfl rfl (fun v W W' hv hg _ => hv.keep v W W' hg) (fun ρ W hW hH => ?_) ?_
         rotate_left
         rotate_left
         rotate_left
         · clear hH
           have hc := hcell W hW
           go_simp
           exact ⟨⟨_, rfl, alloc_at0 _ _⟩, (Below.refl _ _).alloc (Nat.le_refl _) _, hW.alloc (by have := hW.size; simp at this; omega) _⟩
         simp only [Act.put, List.setIfInBounds_toArray, List.set_cons_succ, List.set_cons_zero]))
    refine WalkR.nil (fun ρ W hW hH => ?_)
    clear hH
    go_wp2
    have hW0 := hW
    clear hW
    have hw1 : IntKind.i64.wrap (g.hab.dies + 1) = g.hab.dies + 1 := IntWalk.i64_in _ (by omega)
    first
      | have hne : ((g.start.length : Int) != g.hab.dies + 1) = true := by rw [bne_iff_ne]; omega
      | have hne : ((g.start.length : Int) != g.hab.dies + 1) = false := by rw [bne_eq_false_iff_eq]; omega
    refine wp_walk (C := Below (w.heap.size + 1) (w.alloc (.cells #[.int .i64 g.id, .int .i64 g.hab.lo, .int .i64 g.hab.hi, .int .i64 g.hab.bears, .int .i64 g.hab.ripe, .int .i64 g.hab.dies, .int .i64 g.hab.keep, .int .i64 g.first, .slice A1 g.start.length c1, .slice A2 g.seas.length c2] 74))) (S := Grows) 69 (by kernel_rfl) (by kernel_rfl) rfl Grows.refl hW0.drew ?_
    simp only []
    repeat (first
      | (refine WalkR.un (fun _ => rfl) ?_
         simp only [Act.put, List.setIfInBounds_toArray, List.set_cons_succ, List.set_cons_zero])
      | (refine' WalkR.det (fun _ => rfl) rfl (fun ρ W hW hH => ?_) ?_
         rotate_left
         · clear hH
           have hc := hcell W hW
           go_simp
           first
             | exact ⟨rfl, Grows.refl _⟩
             | exact ⟨rfl, Grows.refl _, hW⟩
             | (go_at_call 165; refine (upTo_anyL1 _ _).mono ?_; rintro e W1 ⟨rfl, hB1⟩; exact ⟨_, rfl, rfl, hB1, below_next hW (by simp) hB1⟩)
             | (go_at_call 164; refine (within_anyL1 _ _ A1 c1 g.start B W (by have := hW.size; simp at this; omega) (HG.out.st.below (((Below.refl _ _).alloc hB _).trans (hW.mono (by omega)))) HG.out.len1).mono ?_; rintro e W1 ⟨rfl, hB1⟩; rw [h5]; exact ⟨_, rfl, rfl, hB1, below_next hW (by simp) hB1⟩)
         simp only [Act.put, List.setIfInBounds_toArray, List.set_cons_succ, List.set_cons_zero]))
    refine WalkR.nil (fun ρ W hW hH => ?_)
    clear hH
    go_wp2
    go_ret
    exact ⟨rfl, ((Below.refl _ _).alloc (Nat.le_refl _) _).trans (hW.mono (by simp))⟩

set_option maxRecDepth 100000 in
set_option maxHeartbeats 4000000 in
theorem validBounds_3 (g : Gr) (A1 : Option Addr) (c1 : Nat) (A2 : Option Addr) (c2 : Nat) (B : Nat) (w : World) (hB : B ≤ w.heap.size) (hG : GrAt w B g A1 c1 A2 c2) (h1 : okHab g.hab = true) (h2 : allIn 0 9999 [g.id] = true) (h3 : allIn 0 3000 [g.first] = true) (h4 : (g.start.length : Int) ≤ g.hab.dies + 1) (h4' : g.hab.dies + 1 ≤ (g.start.length : Int)) (h5 : allIn 0 9 g.start = true) :
    Calls Tryz.prog 122 #[grv g A1 c1 A2 c2] w fun e w' => e = .returned (.bool (decide (g.seas.length ≤ 60) && decide (g.first + g.seas.length ≤ 3000) && seasR g.seas)) ∧ Below w.heap.size w w' := by
  have HG := Lib.hid hG
  clear hG
  have k2 := (okHab_iff.1 h1).2.2.1
  have hl1 := HG.out.len1
  have hl2 := HG.out.len2
  have k3 := inR_iff.1 (by rw [← allIn_one]; exact h3 : inR g.first 0 3000 = true)
  unfold grv
  go_enter Tryz.func122, Tryz.ntmps122
  go_wp2
  have hcell : ∀ W, Below (w.heap.size + 1) (w.alloc (.cells #[.int .i64 g.id, .int .i64 g.hab.lo, .int .i64 g.hab.hi, .int .i64 g.hab.bears, .int .i64 g.hab.ripe, .int .i64 g.hab.dies, .int .i64 g.hab.keep, .int .i64 g.first, .slice A1 g.start.length c1, .slice A2 g.seas.length c2] 74)) W → ∀ i, W.cell? ⟨w.heap.size, i, none⟩ = _ :=
    fun W hW i => (hW.cell (p := ⟨w.heap.size, i, none⟩) (by simp)).trans (cell_of_row _ w.heap.size i _ _ _ (alloc_at0 w _))
  refine wp_walk (C := Below (w.heap.size + 1) (w.alloc (.cells #[.int .i64 g.id, .int .i64 g.hab.lo, .int .i64 g.hab.hi, .int .i64 g.hab.bears, .int .i64 g.hab.ripe, .int .i64 g.hab.dies, .int .i64 g.hab.keep, .int .i64 g.first, .slice A1 g.start.length c1, .slice A2 g.seas.length c2] 74))) (S := Grows) 69 (by kernel_rfl) (by kernel_rfl) rfl Grows.refl (Below.refl _ _).drew ?_
  simp only []
  repeat (first
    | (refine WalkR.un (fun _ => rfl) ?_
       simp only [Act.put, List.setIfInBounds_toArray, List.set_cons_succ, List.set_cons_zero])
    | (refine' WalkR.det (fun _ => rfl) rfl (fun ρ W hW hH => ?_) ?_
       rotate_left
       · clear hH
         have hc := hcell W hW
         go_simp
         first
           | exact ⟨rfl, Grows.refl _⟩
           | exact ⟨rfl, Grows.refl _, hW⟩
           | (go_at_call 163; refine (validHabit_any g.hab _).mono ?_; rintro e W1 ⟨rfl, hB1⟩; rw [h1]; exact ⟨_, rfl, rfl, hB1, below_next hW (by simp) hB1⟩)
           | (go_at_call 165; refine (upTo_anyL1 _ _).mono ?_; rintro e W1 ⟨rfl, hB1⟩; exact ⟨_, rfl, rfl, hB1, below_next hW (by simp) hB1⟩)
       simp only [Act.put, List.setIfInBounds_toArray, List.set_cons_succ, List.set_cons_zero])
    | (refine' WalkR.det (fun _ => rfl) rfl (fun ρ W hW hH => ?_) ?_
       rotate_left
       · obtain ⟨gg, hv, hgm⟩ := hH _ (.head _) (by dsimp only; decide +kernel)
         clear hH
         go_simp
         first
           | (go_at_call 164; refine (within_anyL1 _ _ _ 1 [g.id] _ _ (Nat.le_refl _) (ints_litL1 [g.id] hgm rfl) (by simp)).mono ?_; rintro e W1 ⟨rfl, hB1⟩; rw [h2]; exact ⟨_, rfl, rfl, hB1, below_next hW (by simp) hB1⟩)
           | (go_at_call 164; refine (within_anyL1 _ _ _ 1 [g.first] _ _ (Nat.le_refl _) (ints_litL1 [g.first] hgm rfl) (by simp)).mono ?_; rintro e W1 ⟨rfl, hB1⟩; rw [h3]; exact ⟨_, rfl, rfl, hB1, below_next hW (by simp) hB1⟩)
       simp only [Act.put, List.setIfInBounds_toArray, List.set_cons_succ, List.set_cons_zero])
    | (refine' WalkR.nd (NewSl _ _ _) (fun _ => rfl) rfl rfl (fun v W W' hv hg _ => hv.keep v W W' hg) (fun ρ W hW hH => ?_) ?_
       rotate_left
       rotate_left
       rotate_left
       · clear hH
         have hc := hcell W hW
         go_simp
         exact ⟨⟨_, rfl, alloc_at0 _ _⟩, (Below.refl _ _).alloc (Nat.le_refl _) _, hW.alloc (by have := hW.size; simp at this; omega) _⟩
       simp only [Act.put, List.setIfInBounds_toArray, List.set_cons_succ, List.set_cons_zero]))
  refine WalkR.nil (fun ρ W hW hH => ?_)
  clear hH
  go_wp2
  have hW0 := hW
  clear hW
  have hw1 : IntKind.i64.wrap (g.hab.dies + 1) = g.hab.dies + 1 := IntWalk.i64_in _ (by omega)
  have hne : ((g.start.length : Int) != g.hab.dies + 1) = false := by rw [bne_eq_false_iff_eq]; omega
  refine wp_walk (C := Below (w.heap.size + 1) (w.alloc (.cells #[.int .i64 g.id, .int .i64 g.hab.lo, .int .i64 g.hab.hi, .int .i64 g.hab.bears, .int .i64 g.hab.ripe, .int .i64 g.hab.dies, .int .i64 g.hab.keep, .int .i64 g.first, .slice A1 g.start.length c1, .slice A2 g.seas.length c2] 74))) (S := Grows) 69 (by kernel_rfl) (by kernel_rfl) rfl Grows.refl hW0.drew ?_
  simp only []
  repeat (first
    | (refine WalkR.un (fun _ => rfl) ?_
       simp only [Act.put, List.setIfInBounds_toArray, List.set_cons_succ, List.set_cons_zero])
    | (refine' WalkR.det (fun _ => rfl) rfl (fun ρ W hW hH => ?_) ?_
       rotate_left
       · clear hH
         have hc := hcell W hW
         go_simp
         first
           | exact ⟨rfl, Grows.refl _⟩
           | exact ⟨rfl, Grows.refl _, hW⟩
           | (go_at_call 165; refine (upTo_anyL1 _ _).mono ?_; rintro e W1 ⟨rfl, hB1⟩; exact ⟨_, rfl, rfl, hB1, below_next hW (by simp) hB1⟩)
           | (go_at_call 164; refine (within_anyL1 _ _ A1 c1 g.start B W (by have := hW.size; simp at this; omega) (HG.out.st.below (((Below.refl _ _).alloc hB _).trans (hW.mono (by omega)))) HG.out.len1).mono ?_; rintro e W1 ⟨rfl, hB1⟩; rw [h5]; exact ⟨_, rfl, rfl, hB1, below_next hW (by simp) hB1⟩)
       simp only [Act.put, List.setIfInBounds_toArray, List.set_cons_succ, List.set_cons_zero]))
  refine WalkR.nil (fun ρ W hW hH => ?_)
  clear hH
  have hc := hcell W hW
  have hWs : w.heap.size < W.heap.size := by have := hW.size; simp at this; omega
  have HW := Lib.hid hW
  clear hw1 hne hW hW0
  by_cases h6 : 60 < g.seas.length
  · go_wp2
    go_ret
    exact ⟨by simp; omega, ((Below.refl _ _).alloc (Nat.le_refl _) _).trans (HW.out.mono (by simp))⟩
  · by_cases h7 : 3000 < g.first + g.seas.length
    · go_wp2
      go_ret
      exact ⟨by simp; omega, ((Below.refl _ _).alloc (Nat.le_refl _) _).trans (HW.out.mono (by simp))⟩
    · have e6 : decide (g.seas.length ≤ 60) = true := by simp; omega
      have e7 : decide (g.first + g.seas.length ≤ 3000) = true := by simp; omega
      have E6 := Lib.hid (And.intro e6 e7)
      clear e6 e7
      have hbW := Lib.hid (((Below.refl _ _).alloc (Nat.le_refl w.heap.size) _).trans (HW.out.mono (by simp)))
      go_wp2
      go_loopw [56] (fun i wr => ∃ k : Nat, k ≤ g.seas.length ∧ i = .int .i64 k ∧ Hid (∀ j, j < k → allIn 0 30 [(g.seas[j]?.getD (0, 0)).1, (g.seas[j]?.getD (0, 0)).2] = true) ∧ Hid (Below W.heap.size W wr)) (fun i _ => g.seas.length - (intOf i).toNat)
      case atStart => exact ⟨0, Nat.zero_le _, rfl, fun j hj => absurd hj (by omega), Below.refl _ _⟩
      case round =>
        obtain ⟨k, hk, rfl, hall, hBr⟩ := hrel
        by_cases hlt : k < g.seas.length
        · obtain ⟨b, off, hA, hbB, hcs⟩ := HG.out.se (by rw [pairs_len]; omega)
          subst hA
          have hpa := pairs_at g.seas k hlt
          have hbb : Below B w wr := (hbW.out.mono hB).trans (hBr.out.mono (by omega))
          have hc0 : wr.cell? ⟨b, off + k * 2, none⟩ = _ := (hbb.cell (p := ⟨b, off + k * 2, none⟩) hbB).trans (hcs _ _ hpa.1)
          have hc1 : wr.cell? ⟨b, off + k * 2 + 1, none⟩ = _ := (hbb.cell (p := ⟨b, off + k * 2 + 1, none⟩) hbB).trans (hcs _ _ hpa.2)
          have hno := fun h => seasR_not (ss := g.seas) hlt h
          have hwr := hBr.out.size
          clear hcs hpa hbb
          generalize hx : g.seas[k]?.getD (0, 0) = x at hc0 hc1 hno
          obtain ⟨s, n⟩ := x
          simp only at hc0 hc1 hno
          have Hx := Lib.hid hx
          have Hno := Lib.hid hno
          clear hx hno
          have hcell10 : ∀ W', Below (wr.heap.size + 1) (wr.alloc (.cells #[.int .i64 s, .int .i64 n] 130)) W' → ∀ i, W'.cell? ⟨wr.heap.size, i, none⟩ = _ :=
            fun W' hW i => (hW.cell (p := ⟨wr.heap.size, i, none⟩) (by simp)).trans (cell_of_row _ wr.heap.size i _ _ _ (alloc_at0 wr _))
          rcases Bool.eq_false_or_eq_true (allIn 0 30 [s, n]) with hin | hin
          · go_wp2
            refine wp_walk (C := Below (wr.heap.size + 1) (wr.alloc (.cells #[.int .i64 s, .int .i64 n] 130))) (S := Grows) 69 (by kernel_rfl) (by kernel_rfl) rfl Grows.refl (Below.refl _ _).drew ?_
            simp only []
            repeat (first
              | (refine WalkR.un (fun _ => rfl) ?_
                 simp only [Act.put, List.setIfInBounds_toArray, List.set_cons_succ, List.set_cons_zero])
              | (refine' WalkR.det (fun _ => rfl) rfl (fun ρ W hW hH => ?_) ?_
                 rotate_left
                 · clear hH
                   have hc := hcell10 W hW
                   go_simp
                   first
                     | exact ⟨rfl, Grows.refl _⟩
                     | exact ⟨rfl, Grows.refl _, hW⟩
                     | (go_at_call 165; refine (upTo_anyL1 _ _).mono ?_; rintro e W1 ⟨rfl, hB1⟩; exact ⟨_, rfl, rfl, hB1, below_next hW (by simp) hB1⟩)
                 simp only [Act.put, List.setIfInBounds_toArray, List.set_cons_succ, List.set_cons_zero])
              | (refine' WalkR.det (fun _ => rfl) rfl (fun ρ W hW hH => ?_) ?_
                 rotate_left
                 · obtain ⟨gg, hv, hgm⟩ := hH _ (.head _) (by dsimp only; decide +kernel)
                   clear hH
                   go_simp
                   first
                     | (go_at_call 164; refine (within_anyL1 _ _ _ 2 [s, n] _ _ (Nat.le_refl _) (ints_litL1 [s, n] hgm rfl) (by simp)).mono ?_; rintro e W1 ⟨rfl, hB1⟩; rw [hin]; exact ⟨_, rfl, rfl, hB1, below_next hW (by simp) hB1⟩)
                 simp only [Act.put, List.setIfInBounds_toArray, List.set_cons_succ, List.set_cons_zero])
              | (refine' WalkR.nd (NewSl _ _ _) (fun _ => rfl) rfl rfl (fun v W W' hv hg _ => hv.keep v W W' hg) (fun ρ W hW hH => ?_) ?_
                 rotate_left
                 rotate_left
                 rotate_left
                 · clear hH
                   have hc := hcell10 W hW
                   go_simp
                   exact ⟨⟨_, rfl, alloc_at0 _ _⟩, (Below.refl _ _).alloc (Nat.le_refl _) _, hW.alloc (by have := hW.size; simp at this; omega) _⟩
                 simp only [Act.put, List.setIfInBounds_toArray, List.set_cons_succ, List.set_cons_zero]))
            refine WalkR.nil (fun ρ W hW hH => ?_)
            clear hH
            have HWr := Lib.hid (hBr.out.trans (((Below.refl _ _).alloc (Nat.le_refl _) _).trans (hW.mono (by simp)) |>.mono hwr))
            clear hW
            go_wp2
            go_roundw
            case rel => exact ⟨k + 1, by omega, by go_num, fun j hj => by
              rcases Nat.lt_or_ge j k with h | h
              · exact hall.out j h
              · obtain rfl : j = k := by omega
                rw [Hx.out]; exact hin, HWr.out⟩
            case measure => simp [intOf] <;> omega
          · go_wp2
            refine wp_walk (C := Below (wr.heap.size + 1) (wr.alloc (.cells #[.int .i64 s, .int .i64 n] 130))) (S := Grows) 69 (by kernel_rfl) (by kernel_rfl) rfl Grows.refl (Below.refl _ _).drew ?_
            simp only []
            repeat (first
              | (refine WalkR.un (fun _ => rfl) ?_
                 simp only [Act.put, List.setIfInBounds_toArray, List.set_cons_succ, List.set_cons_zero])
              | (refine' WalkR.det (fun _ => rfl) rfl (fun ρ W hW hH => ?_) ?_
                 rotate_left
                 · clear hH
                   have hc := hcell10 W hW
                   go_simp
                   first
                     | exact ⟨rfl, Grows.refl _⟩
                     | exact ⟨rfl, Grows.refl _, hW⟩
                     | (go_at_call 165; refine (upTo_anyL1 _ _).mono ?_; rintro e W1 ⟨rfl, hB1⟩; exact ⟨_, rfl, rfl, hB1, below_next hW (by simp) hB1⟩)
                 simp only [Act.put, List.setIfInBounds_toArray, List.set_cons_succ, List.set_cons_zero])
              | (refine' WalkR.det (fun _ => rfl) rfl (fun ρ W hW hH => ?_) ?_
                 rotate_left
                 · obtain ⟨gg, hv, hgm⟩ := hH _ (.head _) (by dsimp only; decide +kernel)
                   clear hH
                   go_simp
                   first
                     | (go_at_call 164; refine (within_anyL1 _ _ _ 2 [s, n] _ _ (Nat.le_refl _) (ints_litL1 [s, n] hgm rfl) (by simp)).mono ?_; rintro e W1 ⟨rfl, hB1⟩; rw [hin]; exact ⟨_, rfl, rfl, hB1, below_next hW (by simp) hB1⟩)
                 simp only [Act.put, List.setIfInBounds_toArray, List.set_cons_succ, List.set_cons_zero])
              | (refine' WalkR.nd (NewSl _ _ _) (fun _ => rfl) rfl rfl (fun v W W' hv hg _ => hv.keep v W W' hg) (fun ρ W hW hH => ?_) ?_
                 rotate_left
                 rotate_left
                 rotate_left
                 · clear hH
                   have hc := hcell10 W hW
                   go_simp
                   exact ⟨⟨_, rfl, alloc_at0 _ _⟩, (Below.refl _ _).alloc (Nat.le_refl _) _, hW.alloc (by have := hW.size; simp at this; omega) _⟩
                 simp only [Act.put, List.setIfInBounds_toArray, List.set_cons_succ, List.set_cons_zero]))
            refine WalkR.nil (fun ρ W hW hH => ?_)
            clear hH
            have HWr := Lib.hid (hBr.out.trans (((Below.refl _ _).alloc (Nat.le_refl _) _).trans (hW.mono (by simp)) |>.mono hwr))
            clear hW
            go_wp2
            go_ret
            exact ⟨by rw [Hno.out hin]; simp, hbW.out.trans (HWr.out.mono (by omega))⟩
        · obtain rfl : k = g.seas.length := by omega
          have hs := Lib.hid (seasR_all hall.out)
          clear hall
          go_wp2
          go_ret
          exact ⟨by rw [hs.out, E6.out.1, E6.out.2]; rfl, hbW.out.trans (hBr.out.mono (by omega))⟩

theorem validBounds_any (g : Gr) (A1 : Option Addr) (c1 : Nat) (A2 : Option Addr) (c2 : Nat) (B : Nat) (w : World) (hB : B ≤ w.heap.size) (hG : GrAt w B g A1 c1 A2 c2) :
    Calls Tryz.prog 122 #[grv g A1 c1 A2 c2] w fun e w' => e = .returned (.bool (okPre g && okStart g && seasR g.seas)) ∧ Below w.heap.size w w' := by
  rcases chain3 (okHab g.hab) (allIn 0 9999 [g.id]) (allIn 0 3000 [g.first]) with h1 | ⟨h1, h2⟩ | ⟨h1, h2, h3⟩ | ⟨h1, h2, h3⟩
  · rw [okPre_not1 (.inl h1)]
    exact validBounds_1 g A1 c1 A2 c2 B w hB hG (.inl h1)
  · rw [okPre_not1 (.inr (.inl h2))]
    exact validBounds_1 g A1 c1 A2 c2 B w hB hG (.inr (.inl h2))
  · rw [okPre_not1 (.inr (.inr (.inl h3)))]
    exact validBounds_1 g A1 c1 A2 c2 B w hB hG (.inr (.inr h3))
  · by_cases h4 : (g.start.length : Int) < g.hab.dies + 1
    · rw [okPre_not1 (.inr (.inr (.inr (.inl h4))))]
      exact validBounds_2 g A1 c1 A2 c2 B w hB hG h1 h2 h3 (.inl h4)
    · by_cases h4' : g.hab.dies + 1 < (g.start.length : Int)
      · rw [okPre_not1 (.inr (.inr (.inr (.inr (.inl h4')))))]
        exact validBounds_2 g A1 c1 A2 c2 B w hB hG h1 h2 h3 (.inr (.inl h4'))
      · rcases Bool.eq_false_or_eq_true (allIn 0 9 g.start) with h5 | h5
        · have e : (okPre g && okStart g && seasR g.seas) = (decide (g.seas.length ≤ 60) && decide (g.first + g.seas.length ≤ 3000) && seasR g.seas) := by
            have hd : decide ((g.start.length : Int) = g.hab.dies + 1) = true := by simp; omega
            rw [allIn_one] at h2 h3
            simp [okPre, okStart_eq, h1, h2, h3, h5, hd]
          rw [e]
          exact validBounds_3 g A1 c1 A2 c2 B w hB hG h1 h2 h3 (by omega) (by omega) h5
        · have e : (okPre g && okStart g && seasR g.seas) = false := by simp [okStart_eq, h5]
          rw [e]
          exact validBounds_2 g A1 c1 A2 c2 B w hB hG h1 h2 h3 (.inr (.inr ⟨⟨by omega, by omega⟩, h5⟩))

end Go.Proofs.YtpnnlmaipcjkmaaGreat
