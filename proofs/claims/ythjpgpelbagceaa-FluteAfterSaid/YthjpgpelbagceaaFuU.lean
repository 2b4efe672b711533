/-
  The tones up to a place, as the search asks for them.
-/
import Derived.Test.YthjpgpelbagceaaFuT
import Derived.Test.YthjpgpelbagceaaFuK
set_option linter.all false
namespace Go.Proofs.Ythjpgpelbagceaa
open Go.RowKit Go.Maps
open R6 (done done_ne done_me upd_ne upd_me)

attribute [local go_sem] gives

def airB (b : Bk) (first : Bool) (p : Int) : Int × Int := if first = true then (p + b.e0, p + b.e1) else (p + b.f0, p + b.f1)
def tonB (b : Bk) (first : Bool) (p : Int) : Int × Int := tonA b.s0 b.s1 (airB b first p)
/-- What of a blank is not great. -/
def bndB (b : Bk) : Prop := (0 ≤ b.e0 ∧ b.e0 ≤ b.e1 ∧ b.e1 ≤ 60) ∧ (0 ≤ b.f0 ∧ b.f0 ≤ b.f1 ∧ b.f1 ≤ 60) ∧ (100000 ≤ b.s0 ∧ b.s0 ≤ b.s1 ∧ b.s1 ≤ 500000)

set_option maxRecDepth 100000 in
set_option maxHeartbeats 4000000 in
theorem dril1_any (b : Bk) (hb : bndB b) (bb pb : Nat) (A : Option Addr) (n cap : Nat) (hn : n ≤ 1000000) (p : Int) (hp : 50 ≤ p ∧ p ≤ 20000) (w : World) (hbb : w.heap[bb]? = some (.cells (bkc b).toArray 34 (0, 0))) (hpb : w.heap[pb]? = some (.cells #[.slice A n cap] 32 (0, 0))) :
    Calls Try.prog 80 #[.int .i64 p, .pointer (some ⟨bb, 0, none⟩), .pointer (some ⟨pb, 0, none⟩)] w fun e w' => e = .returned (.agg #[.int .i64 (tonB b (n == 0) p).1, .int .i64 (tonB b (n == 0) p).2]) ∧ Below w.heap.size w w' := by
  have HUP := Lib.hid (fun W => upTo9_any b A n cap hn p W)
  have hai : 50 ≤ (airB b (n == 0) p).1 ∧ (airB b (n == 0) p).1 ≤ (airB b (n == 0) p).2 ∧ (airB b (n == 0) p).2 ≤ 30000 := by
    obtain ⟨h1, h2, h3⟩ := hb
    unfold airB
    split <;> dsimp only <;> omega
  have HTO := Lib.hid (fun W => tones_any (airB b (n == 0) p) (b.s0, b.s1) hai (by have := hb.2.2; dsimp only; omega) W)
  have HCA := Lib.hid (fun W => closedAir_any p b.e0 b.e1 (by omega) (by have := hb.1; omega) (by have := hb.1; omega) W)
  have HOA := Lib.hid (fun W => openAir_any ⟨p, b.f0, b.f1⟩ 0 0 0 (by omega) (by dsimp only; omega) (by have := hb.2.1; dsimp only; omega) (by have := hb.2.1; dsimp only; omega) (by omega) (by omega) none 0 W.heap.size W (Nat.le_refl _) (fun h => absurd h (by simp [pairs])))
  have htb : tonB b (n == 0) p = tonA b.s0 b.s1 (airB b (n == 0) p) := rfl
  rw [htb]
  obtain ⟨w1, hw1⟩ : ∃ w1, w.alloc (.cells #[.int .i64 0, .int .i64 0] 25) = w1 := ⟨_, rfl⟩
  have hb1 : Below w.heap.size w w1 := by rw [← hw1]; exact grow1 _ _
  have m1 : w1.heap[w.heap.size]? = some (.cells #[.int .i64 0, .int .i64 0] 25 (0, 0)) := by rw [← hw1]; exact alloc_at0 _ _
  have mb : w1.heap[bb]? = _ := (hb1.block _ (lt_of_heap hbb)).trans hbb
  have mp : w1.heap[pb]? = _ := (hb1.block _ (lt_of_heap hpb)).trans hpb
  have hbl := lt_of_heap hbb
  have hpl := lt_of_heap hpb
  have HM := Lib.hid (And.intro hb1 (And.intro m1 (And.intro mb (And.intro mp (And.intro hbl hpl)))))
  clear hb1 m1 mb mp hbl hpl hbb hpb htb hp hai
  unfold bkc at HM HUP
  generalize (tonA b.s0 b.s1 (airB b (n == 0) p)).1 = t0 at HTO ⊢
  generalize (tonA b.s0 b.s1 (airB b (n == 0) p)).2 = t1 at HTO ⊢
  rcases Nat.eq_zero_or_pos n with hn0 | hn0
  · subst hn0
    have hua : airB b ((0 : Nat) == 0) p = (p + b.e0, p + b.e1) := rfl
    have huv : uptV b ((0 : Nat) == 0) p = .iface 115 (.agg #[.int .i64 p, .int .i64 b.e0, .int .i64 b.e1]) := rfl
    rw [huv] at HUP
    rw [hua] at HTO
    dsimp only at HTO
    clear hua huv
    go_enter Try.func80, Try.ntmps80
    go_wp2
    refine R6.wp_walk (C := OneW w1 w.heap.size (.cells #[.int .i64 0, .int .i64 0] 25 (0, 0)) (.cells #[.int .i64 t0, .int .i64 t1] 25 (0, 0)) 8) 13 (by kernel_rfl) (by kernel_rfl) rfl (OneW.start HM.out.2.1 rfl) ?_
    simp only []
    iterate 8
      (refine' R6.WalkR.det (fun _ => rfl) (fun D ρ W hK hC => ?_) ?_
       rotate_left
       · have f0 := fun i => cell_of_row W bb i _ _ _ ((hC.other (lt_of_heap HM.out.2.2.1) (Nat.ne_of_lt HM.out.2.2.2.2.1)).trans HM.out.2.2.1)
         have f1 := fun i => cell_of_row W pb i _ _ _ ((hC.other (lt_of_heap HM.out.2.2.2.1) (Nat.ne_of_lt HM.out.2.2.2.2.2)).trans HM.out.2.2.2.1)
         have HC := Lib.hid hC
         clear hC hK
         have hmt := method_closed p b.e0 b.e1
         go_simp
         first
           | with_reducible exact ⟨rfl, HC.out.move rfl⟩
           | (go_at_call 81; refine (HUP.out W).mono ?_; rintro e W1 ⟨rfl, hB1⟩; exact ⟨_, rfl, rfl, (HC.out.move rfl).next hB1⟩)
           | (go_at_call 113; refine (HCA.out W).mono ?_; rintro e W1 ⟨rfl, hB1⟩; exact ⟨_, rfl, rfl, (HC.out.move rfl).next hB1⟩)
           | (go_at_call 73; refine (HTO.out W).mono ?_; rintro e W1 ⟨rfl, hB1⟩; exact ⟨_, rfl, rfl, (HC.out.move rfl).next hB1⟩)
       simp only [Act.put, List.setIfInBounds_toArray, List.set_cons_succ, List.set_cons_zero])
    refine' R6.WalkR.det (c := undef) (fun _ => rfl) (fun D ρ W hK hC => ?_) ?_
    · have h7 := hC.no hK.me
      refine gives_store_blk 25 (.tmp 4) (.tmp 12) rfl rfl (cs := [.int .i64 t0, .int .i64 t1]) (L := [.int .i64 0, .int .i64 0]) rfl h7 (Nat.le_refl 2) (by simp [Value.oneCell']) rowSpan ?_
      intro W1 hP hM
      exact ⟨rfl, hC.put hP hM⟩
    simp only [Act.put]
    refine R6.WalkR.nil (fun D ρ W hD hC => ?_)
    have hM7 := hC.yes (hD 8 (by decide))
    have hB7 := HM.out.1.grown hC.gb HM.out.1.size (fun k e => by cases e; omega)
    have H7 := Lib.hid (And.intro hM7 hB7)
    have hc7 := fun i => cell_of_row W w.heap.size i _ _ _ hM7
    clear hC hD hM7 hB7
    go_wp2
    exact bodyPost_ret (v := .agg #[.int .i64 t0, .int .i64 t1]) (by simp [results, Try.results80, go_sem, hc7]) rfl ⟨rfl, H7.out.2⟩
  · have hne : (n == 0) = false := by simpa using (show n ≠ 0 by omega)
    rw [hne] at HUP HTO
    have hua : airB b false p = (p + b.f0, p + b.f1) := rfl
    have huv : uptV b false p = .iface 119 (.agg #[.int .i64 p, .int .i64 b.f0, .int .i64 b.f1, .slice none 0 0]) := rfl
    rw [huv] at HUP
    rw [hua] at HTO
    dsimp only at HTO HOA
    have hmz0 : p + b.f0 + ((0 : Nat) : Int) * 0 = p + b.f0 := by omega
    have hmz1 : p + b.f1 + ((0 : Nat) : Int) * 0 = p + b.f1 := by omega
    rw [hmz0, hmz1] at HOA
    clear hua huv hne hmz0 hmz1
    go_enter Try.func80, Try.ntmps80
    go_wp2
    refine R6.wp_walk (C := OneW w1 w.heap.size (.cells #[.int .i64 0, .int .i64 0] 25 (0, 0)) (.cells #[.int .i64 t0, .int .i64 t1] 25 (0, 0)) 8) 13 (by kernel_rfl) (by kernel_rfl) rfl (OneW.start HM.out.2.1 rfl) ?_
    simp only []
    iterate 8
      (refine' R6.WalkR.det (fun _ => rfl) (fun D ρ W hK hC => ?_) ?_
       rotate_left
       · have f0 := fun i => cell_of_row W bb i _ _ _ ((hC.other (lt_of_heap HM.out.2.2.1) (Nat.ne_of_lt HM.out.2.2.2.2.1)).trans HM.out.2.2.1)
         have f1 := fun i => cell_of_row W pb i _ _ _ ((hC.other (lt_of_heap HM.out.2.2.2.1) (Nat.ne_of_lt HM.out.2.2.2.2.2)).trans HM.out.2.2.2.1)
         have HC := Lib.hid hC
         clear hC hK
         have hmt := method_open p b.f0 b.f1
         go_simp
         first
           | with_reducible exact ⟨rfl, HC.out.move rfl⟩
           | (go_at_call 81; refine (HUP.out W).mono ?_; rintro e W1 ⟨rfl, hB1⟩; exact ⟨_, rfl, rfl, (HC.out.move rfl).next hB1⟩)
           | (go_at_call 116; refine (HOA.out W).mono ?_; rintro e W1 ⟨rfl, hB1⟩; exact ⟨_, rfl, rfl, (HC.out.move rfl).next hB1⟩)
           | (go_at_call 73; refine (HTO.out W).mono ?_; rintro e W1 ⟨rfl, hB1⟩; exact ⟨_, rfl, rfl, (HC.out.move rfl).next hB1⟩)
       simp only [Act.put, List.setIfInBounds_toArray, List.set_cons_succ, List.set_cons_zero])
    refine' R6.WalkR.det (c := undef) (fun _ => rfl) (fun D ρ W hK hC => ?_) ?_
    · have h7 := hC.no hK.me
      refine gives_store_blk 25 (.tmp 4) (.tmp 12) rfl rfl (cs := [.int .i64 t0, .int .i64 t1]) (L := [.int .i64 0, .int .i64 0]) rfl h7 (Nat.le_refl 2) (by simp [Value.oneCell']) rowSpan ?_
      intro W1 hP hM
      exact ⟨rfl, hC.put hP hM⟩
    simp only [Act.put]
    refine R6.WalkR.nil (fun D ρ W hD hC => ?_)
    have hM7 := hC.yes (hD 8 (by decide))
    have hB7 := HM.out.1.grown hC.gb HM.out.1.size (fun k e => by cases e; omega)
    have H7 := Lib.hid (And.intro hM7 hB7)
    have hc7 := fun i => cell_of_row W w.heap.size i _ _ _ hM7
    clear hC hD hM7 hB7
    go_wp2
    exact bodyPost_ret (v := .agg #[.int .i64 t0, .int .i64 t1]) (by simp [results, Try.results80, go_sem, hc7]) rfl ⟨rfl, H7.out.2⟩

set_option maxRecDepth 100000 in
theorem dril2_any (b : Bk) (hb : bndB b) (bb pb tb nb : Nat) (A : Option Addr) (n cap : Nat) (hn : n ≤ 1000000) (o : Int × Int) (p : Int) (hp : 50 ≤ p ∧ p ≤ 20000) (w : World) (hbb : w.heap[bb]? = some (.cells (bkc b).toArray 34 (0, 0))) (hpb : w.heap[pb]? = some (.cells #[.slice A n cap] 32 (0, 0)))
    (htb : w.heap[tb]? = some (.cells #[.func (.func 80) #[] #[.pointer (some ⟨bb, 0, none⟩), .pointer (some ⟨pb, 0, none⟩)]] 103 (0, 0))) (hnb : w.heap[nb]? = some (.cells #[.int .i64 o.1, .int .i64 o.2] 25 (0, 0))) :
    Calls Try.prog 82 #[.int .i64 p, .pointer (some ⟨tb, 0, none⟩), .pointer (some ⟨nb, 0, none⟩)] w fun e w' => e = .returned (.bool (decide (o.1 ≤ (tonB b (n == 0) p).1))) ∧ Below w.heap.size w w' := by
  have HD1 := Lib.hid (fun W (hW : Below w.heap.size w W) => dril1_any b hb bb pb A n cap hn p hp W ((hW.block _ (lt_of_heap hbb)).trans hbb) ((hW.block _ (lt_of_heap hpb)).trans hpb))
  have hcf := fun (W : World) (hW : Below w.heap.size w W) => And.intro (fun i => cell_of_row W tb i _ _ _ ((hW.block _ (lt_of_heap htb)).trans htb)) (fun i => cell_of_row W nb i _ _ _ ((hW.block _ (lt_of_heap hnb)).trans hnb))
  have HCF := Lib.hid hcf
  obtain ⟨hc0, hc1⟩ := hcf w (Below.refl _ _)
  clear hcf hbb hpb htb hnb hp hb
  obtain ⟨o0, o1⟩ := o
  dsimp only at HCF hc1 ⊢
  generalize (tonB b (n == 0) p).1 = t0 at HD1 ⊢
  generalize (tonB b (n == 0) p).2 = t1 at HD1
  go_enter Try.func82, Try.ntmps82
  go_wp2
  refine R6.wp_walk (C := fun _ _ W => Below w.heap.size w W) 12 (by kernel_rfl) (by kernel_rfl) rfl (Below.refl _ _).drew ?_
  simp only []
  repeat
    (refine' R6.WalkR.det (fun _ => rfl) (fun D ρ W hK hC => ?_) ?_
     rotate_left
     · obtain ⟨f0, f1⟩ := HCF.out W hC
       have hfd : (Instr.field 25 (.agg #[.int .i64 t0, .int .i64 t1]) 0).run Try.prog W = .ok (.int .i64 t0) W := by kernel_rfl
       have HC := Lib.hid hC
       clear hC hK
       go_simp
       first
         | with_reducible exact ⟨rfl, HC.out⟩
         | (go_at_call 80; refine (HD1.out W HC.out).mono ?_; rintro e W1 ⟨rfl, hB1⟩; exact ⟨_, rfl, rfl, HC.out.trans (hB1.mono HC.out.size)⟩)
     simp only [Act.put, List.setIfInBounds_toArray, List.set_cons_succ, List.set_cons_zero])
  refine R6.WalkR.nil (fun D ρ W hD hC => ?_)
  have H9 := Lib.hid hC
  clear hC hD
  go_wp2
  go_ret
  exact ⟨by first | rfl | simp [ge_iff_le], H9.out⟩

end Go.Proofs.Ythjpgpelbagceaa
