/-
  Texts laid together: FuQ.
-/
import Derived.Test.YtjjipkgconmfcaaB96
import Derived.Test.YtjjipkgconmfcaaB93
set_option linter.all false
namespace Go.Proofs.Ytjjipkgconmfcaa
open Go.RowKit
open R6 (done done_ne done_me upd_ne upd_me)

attribute [local go_sem] gives

def noL (len : Int) : List Int → Int → Bool
  | [], _ => true
  | z :: l, least => allB least len [z] && noL len l (z + 1)
def loZ (zs : List Int) (k : Nat) : Int := if k = 0 then 0 else (zs[k - 1]?).getD 0 + 1
theorem noL_step {len : Int} {zs : List Int} {k : Nat} (hk : k < zs.length) : noL len (zs.drop k) (loZ zs k) = (allB (loZ zs k) len [zs[k]] && noL len (zs.drop (k + 1)) (loZ zs (k + 1))) := by
  have e : loZ zs (k + 1) = zs[k] + 1 := by simp [loZ, hk]
  rw [List.drop_eq_getElem_cons hk, e]
  rfl
def okBk (b : Bk) : Bool := allB 50 20000 [b.len] && okS b.e0 b.e1 0 60 && okS b.f0 b.f1 0 60 && okS b.s0 b.s1 100000 500000 && allB 1 20000 [b.gap] && allB 0 20000 [b.near] && decide (b.zs.length ≤ 10) && noL b.len b.zs 0
def okNo1 (o : Int × Int) : Bool := okS o.1 o.2 1 10000000
def okNos (l : List (Int × Int)) : Bool := decide (1 ≤ l.length) && decide (l.length ≤ 9) && l.all okNo1
/-- A blank as it lies. -/
def BkAt (w : World) (B : Nat) (b : Bk) : Prop := Ints w B b.A b.zs
theorem BkAt.below {w w' : World} {B : Nat} {b : Bk} (h : BkAt w B b) (hb : Below B w w') : BkAt w' B b := Ints.below h hb

set_option maxRecDepth 100000 in
set_option maxHeartbeats 4000000 in
theorem validNodes_any (b : Bk) (hln : 50 ≤ b.len ∧ b.len ≤ 20000) (hl : b.zs.length ≤ 1000000) (B : Nat) (w : World) (hB : B ≤ w.heap.size) (hz : BkAt w B b) :
    Calls Try.prog 67 #[.agg (bkc b).toArray] w fun e w' => e = .returned (.bool (noL b.len b.zs 0)) ∧ Below w.heap.size w w' := by
  obtain ⟨w1, hw1⟩ : ∃ w1, w.alloc (.cells (bkc b).toArray 34) = w1 := ⟨_, rfl⟩
  have hb1 : Below w.heap.size w w1 := by rw [← hw1]; exact grow1 _ _
  have m1 : w1.heap[w.heap.size]? = some (.cells (bkc b).toArray 34 (0, 0)) := by rw [← hw1]; exact alloc_at0 _ _
  have hcf := fun (W : World) (hW : Below w1.heap.size w1 W) i => cell_of_row W w.heap.size i _ _ _ ((hW.block _ (lt_of_heap m1)).trans m1)
  have hz' : Ints w B b.A b.zs := hz
  have HZ := Lib.hid hz'
  have hln1 := hln.1
  have hln2 := hln.2
  obtain ⟨X, hX⟩ : ∃ X, X = noL b.len b.zs 0 := ⟨_, rfl⟩
  rw [← hX]
  have hX0 : noL b.len (b.zs.drop 0) (loZ b.zs 0) = X := by rw [hX]; rfl
  have HX := Lib.hid hX0
  have HID := Lib.hid (fun (k : Nat) (hk : k < b.zs.length) => noL_step (len := b.len) hk)
  have H1 := Lib.hid hb1
  unfold bkc at hw1 hcf ⊢
  have HCF := Lib.hid hcf
  have hc1 := HCF.out w1 (Below.refl _ _)
  clear hz hz' hX hX0 hcf hb1 m1 hln
  generalize b.len = len at hln1 hln2 hw1 hc1 HX HID HCF ⊢
  generalize b.A = A at hw1 hc1 HCF HZ ⊢
  go_enter Try.func67, Try.ntmps67
  go_wp2
  go_loopg [3, 9] b.zs.length (fun gg s3 s9 wx => ∃ k : Nat, k + gg = b.zs.length ∧ s3 = .int .i64 (loZ b.zs k) ∧ s9 = .int .i64 k ∧ Hid (0 ≤ loZ b.zs k ∧ loZ b.zs k ≤ 20001) ∧ Hid (noL len (b.zs.drop k) (loZ b.zs k) = X) ∧ Hid (Below w1.heap.size w1 wx))
  case atStart => exact ⟨0, by omega, rfl, rfl, ⟨by simp [loZ], by simp [loZ]⟩, HX.out, Below.refl _ _⟩
  case round =>
    obtain ⟨k, hkg, rfl, rfl, hLB, hI, hBr⟩ := hrel
    have hws := hBr.out.size
    cases gk with
    | zero =>
      obtain rfl : k = b.zs.length := by omega
      have hI' := hI.out
      rw [List.drop_length] at hI'
      have HI := Lib.hid hI'
      clear hI'
      go_wp2
      go_ret
      exact ⟨by rw [← HI.out]; rfl, H1.out.trans (hBr.out.mono H1.out.size)⟩
    | succ gg =>
      have hk : k < b.zs.length := by omega
      have hkz : (k : Int) < b.zs.length := by omega
      obtain ⟨c, off, hA, hcB, hc⟩ := HZ.out (by omega)
      subst hA
      have hst := HID.out k hk
      rw [hI.out] at hst
      have hlo : loZ b.zs (k + 1) = b.zs[k] + 1 := by simp [loZ, hk]
      have hy := ((H1.out.trans (hBr.out.mono H1.out.size)).cell (p := ⟨c, off + k, none⟩) (by simp; omega)).trans (hc k hk)
      rw [show b.zs[k]?.getD 0 = b.zs[k] by simp [hk]] at hy
      rw [hlo] at hst
      have HLO := Lib.hid hlo
      clear hc1 hc hlo
      generalize b.zs[k] = y at hy hst HLO
      have HST := Lib.hid hst
      obtain ⟨least, hle⟩ : ∃ m, m = loZ b.zs k := ⟨_, rfl⟩
      have hlb := hLB.out
      rw [← hle] at HST hlb
      simp only [← hle]
      have HLE := Lib.hid hle
      have hl1 := hlb.1
      have hl2 := hlb.2
      have hcr := HCF.out wr hBr.out
      have H5 := Lib.hid (fun W b hb => within_new least len [y] W b 1 1 rfl hb (by simp))
      clear hst hlb hle
      cases hv1 : allB least len [y]
      · have HV1 := Lib.hid hv1
        clear hv1
        go_wp2_with (go_at_call 64
                     refine (H5.out _ _ (alloc_at0 _ _)).mono ?_
                     rintro e W5 ⟨rfl, hB5⟩
                     rw [HV1.out]
                     have HB5 := Lib.hid ((grow1 wr _).trans (hB5.mono (grow1 wr _).size))
                     clear hB5)
        go_ret
        exact ⟨by rw [HST.out, HV1.out]; rfl, H1.out.trans ((hBr.out.trans (HB5.out.mono hws)).mono H1.out.size)⟩
      · have hy0 : least ≤ y ∧ y ≤ len := by rw [allB_one, inR_iff] at hv1; exact hv1
        have HV1 := Lib.hid hv1
        have hya1 : 0 ≤ y := by omega
        have hya2 : y ≤ 20000 := by omega
        clear hv1 hy0
        go_wp2_with (go_at_call 64
                     refine (H5.out _ _ (alloc_at0 _ _)).mono ?_
                     rintro e W5 ⟨rfl, hB5⟩
                     rw [HV1.out]
                     have HB5 := Lib.hid ((grow1 wr _).trans (hB5.mono (grow1 wr _).size))
                     clear hB5)
        go_roundg gg
        case measure => omega
        case rel => exact ⟨k + 1, by omega, by rw [HLO.out], by go_num, by rw [HLO.out]; exact ⟨by omega, by omega⟩, by rw [HLO.out, HST.out, HV1.out]; rfl, hBr.out.trans (HB5.out.mono hws)⟩


/-- One operation waits for another one at once. -/
def edgeU (ops : Array Oper) (i j : Nat) : Bool := match ops[i]? with
  | none => false
  | some o => o.after.any fun e => Region.binds .any e && e.on == j
theorem needs_edgeU {ops : Array Oper} {i j : Nat} (h : edgeU ops i j = true) : R6.needsI ops ops.size i j = true := by
  unfold edgeU at h
  cases ho : ops[i]? with
  | none => rw [ho] at h; cases h
  | some o =>
    rw [ho] at h
    have hs : ops.size ≠ 0 := fun e => by
      have := (Array.getElem?_eq_some_iff.1 ho).1
      omega
    obtain ⟨f, hf⟩ := Nat.exists_eq_succ_of_ne_zero hs
    rw [hf]
    unfold R6.needsI
    simp only [ho]
    simp only [Array.any_eq_true] at h ⊢
    obtain ⟨x, hx, hb⟩ := h
    refine ⟨x, hx, ?_⟩
    simp only [Bool.and_eq_true] at hb ⊢
    exact ⟨hb.1, by simp [hb.2]⟩

def blkK (g n : Int) : Nat → Value → World → Prop
  | 0, v, W => ∃ b, v = .slice (some ⟨b, 0, none⟩) 1 1 ∧ W.heap[b]? = some (.cells #[.int .i64 g] 3 (0, 0))
  | _, v, W => ∃ b, v = .slice (some ⟨b, 0, none⟩) 1 1 ∧ W.heap[b]? = some (.cells #[.int .i64 n] 3 (0, 0))
theorem blkK_stab (g n : Int) : Stab (blkK g n) := by
  intro k v W W' hg hk
  unfold blkK at hk ⊢
  split at hk
  all_goals
    obtain ⟨b, e, hb⟩ := hk
    exact ⟨b, e, (hg.block _ (lt_of_heap hb)).trans hb⟩

set_option maxRecDepth 100000 in
set_option maxHeartbeats 8000000 in
theorem validBlank_any (b : Bk) (hl : b.zs.length ≤ 1000000) (B : Nat) (w : World) (hB : B ≤ w.heap.size) (hz : BkAt w B b) :
    Calls Try.prog 42 #[.agg (bkc b).toArray] w fun e w' => e = .returned (.bool (okBk b)) ∧ Below w.heap.size w w' := by
  obtain ⟨w1, hw1⟩ : ∃ w1, w.alloc (.cells (bkc b).toArray 34) = w1 := ⟨_, rfl⟩
  have hb1 : Below w.heap.size w w1 := by rw [← hw1]; exact grow1 _ _
  have m1 : w1.heap[w.heap.size]? = some (.cells (bkc b).toArray 34 (0, 0)) := by rw [← hw1]; exact alloc_at0 _ _
  have hh := fun (h : allB 50 20000 [b.len] = true) W (hW : Below w1.heap.size w1 W) => validNodes_any b (by rw [allB_one, inR_iff] at h; exact h) hl B W (Nat.le_trans hB (Nat.le_trans hb1.size hW.size)) ((hz.below (hb1.mono hB)).below (hW.mono (Nat.le_trans hB hb1.size)))
  have hx : okBk b = (allB 50 20000 [b.len] && okS b.e0 b.e1 0 60 && okS b.f0 b.f1 0 60 && okS b.s0 b.s1 100000 500000 && allB 1 20000 [b.gap] && allB 0 20000 [b.near] && decide (b.zs.length ≤ 10) && noL b.len b.zs 0) := rfl
  rw [hx]
  have HL := Lib.hid (fun W => validLength_any b.len W)
  have HE := Lib.hid (fun W => validFix_any b.e0 b.e1 W)
  have HF := Lib.hid (fun W => validFix_any b.f0 b.f1 W)
  have HS := Lib.hid (fun W => validSpeed_any b.s0 b.s1 W)
  have HG := Lib.hid (fun W g hg => within_new 1 20000 [b.gap] W g 1 1 rfl hg (by simp))
  have HN := Lib.hid (fun W g hg => within_new 0 20000 [b.near] W g 1 1 rfl hg (by simp))
  have H1 := Lib.hid (And.intro hb1 m1)
  clear hz hb1 m1 hx
  unfold bkc at hw1 H1 hh ⊢
  have HH := Lib.hid hh
  clear hh
  generalize noL b.len b.zs 0 = v8 at HH ⊢
  generalize allB 0 20000 [b.near] = v6 at HN ⊢
  generalize allB 1 20000 [b.gap] = v5 at HG ⊢
  generalize okS b.s0 b.s1 100000 500000 = v4 at HS ⊢
  generalize okS b.f0 b.f1 0 60 = v3 at HF ⊢
  generalize okS b.e0 b.e1 0 60 = v2 at HE ⊢
  generalize allB 50 20000 [b.len] = v1 at HL HH ⊢
  cases v1
  · go_enter Try.func42, Try.ntmps42
    go_wp2
    refine R6.wp_walk (C := ResF w1 [(w.heap.size, .cells #[.int .i64 b.len, .int .i64 b.e0, .int .i64 b.e1, .int .i64 b.f0, .int .i64 b.f1, .int .i64 b.s0, .int .i64 b.s1, .int .i64 b.gap, .int .i64 b.near, .slice b.A b.zs.length b.cap] 34 (0, 0))] (blkK b.gap b.near) []) 45 (by kernel_rfl) (by kernel_rfl) rfl (ResF.start (Below.refl _ _) ⟨H1.out.2, trivial⟩ (fun _ => rfl)) ?_
    simp only []
    repeat (first
      | (refine' R6.WalkR.det (fun _ => rfl) (fun D ρ W hK hC => ?_) ?_
         rotate_left
         · have f0 := fun i => cell_of_row W w.heap.size i _ _ _ hC.keep.1
           have HC := Lib.hid hC
           clear hC hK
           go_simp
           first
             | with_reducible exact ⟨rfl, HC.out.move (by decide)⟩
             | (go_at_call 67; refine (HH.out (by first | trivial | rfl) W HC.out.bel).mono ?_; rintro e W1 ⟨rfl, hB1⟩; exact ⟨_, rfl, rfl, HC.out.next (blkK_stab _ _) hB1 (by decide)⟩)
             | (go_at_call 66; refine (upTo_any _ W).mono ?_; rintro e W1 ⟨rfl, hB1⟩; exact ⟨_, rfl, rfl, HC.out.next (blkK_stab _ _) hB1 (by decide)⟩)
             | (go_at_call 65; refine (fromOne_any _ W).mono ?_; rintro e W1 ⟨rfl, hB1⟩; exact ⟨_, rfl, rfl, HC.out.next (blkK_stab _ _) hB1 (by decide)⟩)
             | (go_at_call 63; refine (HS.out W).mono ?_; rintro e W1 ⟨rfl, hB1⟩; exact ⟨_, rfl, rfl, HC.out.next (blkK_stab _ _) hB1 (by decide)⟩)
             | (go_at_call 62; (with_reducible show Calls _ _ #[.agg #[.int .i64 b.f0, _]] _ _); refine (HF.out W).mono ?_; rintro e W1 ⟨rfl, hB1⟩; exact ⟨_, rfl, rfl, HC.out.next (blkK_stab _ _) hB1 (by decide)⟩)
             | (go_at_call 62; (with_reducible show Calls _ _ #[.agg #[.int .i64 b.e0, _]] _ _); refine (HE.out W).mono ?_; rintro e W1 ⟨rfl, hB1⟩; exact ⟨_, rfl, rfl, HC.out.next (blkK_stab _ _) hB1 (by decide)⟩)
             | (go_at_call 61; refine (HL.out W).mono ?_; rintro e W1 ⟨rfl, hB1⟩; exact ⟨_, rfl, rfl, HC.out.next (blkK_stab _ _) hB1 (by decide)⟩)
         simp only [Act.put, List.setIfInBounds_toArray, List.set_cons_succ, List.set_cons_zero])
      | (refine R6.WalkR.un (fun _ => rfl) (fun D ρ W hK hC => hC.move (by decide)) ?_
         simp only [Act.put, List.setIfInBounds_toArray, List.set_cons_succ, List.set_cons_zero]))
    refine R6.WalkR.nil (fun D ρ W hD hC => ?_)
    have H9 := Lib.hid (H1.out.1.trans (hC.bel.mono H1.out.1.size))
    clear hC hD
    go_wp2
    go_ret
    exact ⟨rfl, H9.out⟩
  cases v2
  · go_enter Try.func42, Try.ntmps42
    go_wp2
    refine R6.wp_walk (C := ResF w1 [(w.heap.size, .cells #[.int .i64 b.len, .int .i64 b.e0, .int .i64 b.e1, .int .i64 b.f0, .int .i64 b.f1, .int .i64 b.s0, .int .i64 b.s1, .int .i64 b.gap, .int .i64 b.near, .slice b.A b.zs.length b.cap] 34 (0, 0))] (blkK b.gap b.near) []) 45 (by kernel_rfl) (by kernel_rfl) rfl (ResF.start (Below.refl _ _) ⟨H1.out.2, trivial⟩ (fun _ => rfl)) ?_
    simp only []
    repeat (first
      | (refine' R6.WalkR.det (fun _ => rfl) (fun D ρ W hK hC => ?_) ?_
         rotate_left
         · have f0 := fun i => cell_of_row W w.heap.size i _ _ _ hC.keep.1
           have HC := Lib.hid hC
           clear hC hK
           go_simp
           first
             | with_reducible exact ⟨rfl, HC.out.move (by decide)⟩
             | (go_at_call 67; refine (HH.out (by first | trivial | rfl) W HC.out.bel).mono ?_; rintro e W1 ⟨rfl, hB1⟩; exact ⟨_, rfl, rfl, HC.out.next (blkK_stab _ _) hB1 (by decide)⟩)
             | (go_at_call 66; refine (upTo_any _ W).mono ?_; rintro e W1 ⟨rfl, hB1⟩; exact ⟨_, rfl, rfl, HC.out.next (blkK_stab _ _) hB1 (by decide)⟩)
             | (go_at_call 65; refine (fromOne_any _ W).mono ?_; rintro e W1 ⟨rfl, hB1⟩; exact ⟨_, rfl, rfl, HC.out.next (blkK_stab _ _) hB1 (by decide)⟩)
             | (go_at_call 63; refine (HS.out W).mono ?_; rintro e W1 ⟨rfl, hB1⟩; exact ⟨_, rfl, rfl, HC.out.next (blkK_stab _ _) hB1 (by decide)⟩)
             | (go_at_call 62; (with_reducible show Calls _ _ #[.agg #[.int .i64 b.f0, _]] _ _); refine (HF.out W).mono ?_; rintro e W1 ⟨rfl, hB1⟩; exact ⟨_, rfl, rfl, HC.out.next (blkK_stab _ _) hB1 (by decide)⟩)
             | (go_at_call 62; (with_reducible show Calls _ _ #[.agg #[.int .i64 b.e0, _]] _ _); refine (HE.out W).mono ?_; rintro e W1 ⟨rfl, hB1⟩; exact ⟨_, rfl, rfl, HC.out.next (blkK_stab _ _) hB1 (by decide)⟩)
             | (go_at_call 61; refine (HL.out W).mono ?_; rintro e W1 ⟨rfl, hB1⟩; exact ⟨_, rfl, rfl, HC.out.next (blkK_stab _ _) hB1 (by decide)⟩)
         simp only [Act.put, List.setIfInBounds_toArray, List.set_cons_succ, List.set_cons_zero])
      | (refine R6.WalkR.un (fun _ => rfl) (fun D ρ W hK hC => hC.move (by decide)) ?_
         simp only [Act.put, List.setIfInBounds_toArray, List.set_cons_succ, List.set_cons_zero]))
    refine R6.WalkR.nil (fun D ρ W hD hC => ?_)
    have H9 := Lib.hid (H1.out.1.trans (hC.bel.mono H1.out.1.size))
    clear hC hD
    go_wp2
    go_ret
    exact ⟨rfl, H9.out⟩
  cases v3
  · go_enter Try.func42, Try.ntmps42
    go_wp2
    refine R6.wp_walk (C := ResF w1 [(w.heap.size, .cells #[.int .i64 b.len, .int .i64 b.e0, .int .i64 b.e1, .int .i64 b.f0, .int .i64 b.f1, .int .i64 b.s0, .int .i64 b.s1, .int .i64 b.gap, .int .i64 b.near, .slice b.A b.zs.length b.cap] 34 (0, 0))] (blkK b.gap b.near) []) 45 (by kernel_rfl) (by kernel_rfl) rfl (ResF.start (Below.refl _ _) ⟨H1.out.2, trivial⟩ (fun _ => rfl)) ?_
    simp only []
    repeat (first
      | (refine' R6.WalkR.det (fun _ => rfl) (fun D ρ W hK hC => ?_) ?_
         rotate_left
         · have f0 := fun i => cell_of_row W w.heap.size i _ _ _ hC.keep.1
           have HC := Lib.hid hC
           clear hC hK
           go_simp
           first
             | with_reducible exact ⟨rfl, HC.out.move (by decide)⟩
             | (go_at_call 67; refine (HH.out (by first | trivial | rfl) W HC.out.bel).mono ?_; rintro e W1 ⟨rfl, hB1⟩; exact ⟨_, rfl, rfl, HC.out.next (blkK_stab _ _) hB1 (by decide)⟩)
             | (go_at_call 66; refine (upTo_any _ W).mono ?_; rintro e W1 ⟨rfl, hB1⟩; exact ⟨_, rfl, rfl, HC.out.next (blkK_stab _ _) hB1 (by decide)⟩)
             | (go_at_call 65; refine (fromOne_any _ W).mono ?_; rintro e W1 ⟨rfl, hB1⟩; exact ⟨_, rfl, rfl, HC.out.next (blkK_stab _ _) hB1 (by decide)⟩)
             | (go_at_call 63; refine (HS.out W).mono ?_; rintro e W1 ⟨rfl, hB1⟩; exact ⟨_, rfl, rfl, HC.out.next (blkK_stab _ _) hB1 (by decide)⟩)
             | (go_at_call 62; (with_reducible show Calls _ _ #[.agg #[.int .i64 b.f0, _]] _ _); refine (HF.out W).mono ?_; rintro e W1 ⟨rfl, hB1⟩; exact ⟨_, rfl, rfl, HC.out.next (blkK_stab _ _) hB1 (by decide)⟩)
             | (go_at_call 62; (with_reducible show Calls _ _ #[.agg #[.int .i64 b.e0, _]] _ _); refine (HE.out W).mono ?_; rintro e W1 ⟨rfl, hB1⟩; exact ⟨_, rfl, rfl, HC.out.next (blkK_stab _ _) hB1 (by decide)⟩)
             | (go_at_call 61; refine (HL.out W).mono ?_; rintro e W1 ⟨rfl, hB1⟩; exact ⟨_, rfl, rfl, HC.out.next (blkK_stab _ _) hB1 (by decide)⟩)
         simp only [Act.put, List.setIfInBounds_toArray, List.set_cons_succ, List.set_cons_zero])
      | (refine R6.WalkR.un (fun _ => rfl) (fun D ρ W hK hC => hC.move (by decide)) ?_
         simp only [Act.put, List.setIfInBounds_toArray, List.set_cons_succ, List.set_cons_zero]))
    refine R6.WalkR.nil (fun D ρ W hD hC => ?_)
    have H9 := Lib.hid (H1.out.1.trans (hC.bel.mono H1.out.1.size))
    clear hC hD
    go_wp2
    go_ret
    exact ⟨rfl, H9.out⟩
  cases v4
  · go_enter Try.func42, Try.ntmps42
    go_wp2
    refine R6.wp_walk (C := ResF w1 [(w.heap.size, .cells #[.int .i64 b.len, .int .i64 b.e0, .int .i64 b.e1, .int .i64 b.f0, .int .i64 b.f1, .int .i64 b.s0, .int .i64 b.s1, .int .i64 b.gap, .int .i64 b.near, .slice b.A b.zs.length b.cap] 34 (0, 0))] (blkK b.gap b.near) []) 45 (by kernel_rfl) (by kernel_rfl) rfl (ResF.start (Below.refl _ _) ⟨H1.out.2, trivial⟩ (fun _ => rfl)) ?_
    simp only []
    repeat (first
      | (refine' R6.WalkR.det (fun _ => rfl) (fun D ρ W hK hC => ?_) ?_
         rotate_left
         · have f0 := fun i => cell_of_row W w.heap.size i _ _ _ hC.keep.1
           have HC := Lib.hid hC
           clear hC hK
           go_simp
           first
             | with_reducible exact ⟨rfl, HC.out.move (by decide)⟩
             | (go_at_call 67; refine (HH.out (by first | trivial | rfl) W HC.out.bel).mono ?_; rintro e W1 ⟨rfl, hB1⟩; exact ⟨_, rfl, rfl, HC.out.next (blkK_stab _ _) hB1 (by decide)⟩)
             | (go_at_call 66; refine (upTo_any _ W).mono ?_; rintro e W1 ⟨rfl, hB1⟩; exact ⟨_, rfl, rfl, HC.out.next (blkK_stab _ _) hB1 (by decide)⟩)
             | (go_at_call 65; refine (fromOne_any _ W).mono ?_; rintro e W1 ⟨rfl, hB1⟩; exact ⟨_, rfl, rfl, HC.out.next (blkK_stab _ _) hB1 (by decide)⟩)
             | (go_at_call 63; refine (HS.out W).mono ?_; rintro e W1 ⟨rfl, hB1⟩; exact ⟨_, rfl, rfl, HC.out.next (blkK_stab _ _) hB1 (by decide)⟩)
             | (go_at_call 62; (with_reducible show Calls _ _ #[.agg #[.int .i64 b.f0, _]] _ _); refine (HF.out W).mono ?_; rintro e W1 ⟨rfl, hB1⟩; exact ⟨_, rfl, rfl, HC.out.next (blkK_stab _ _) hB1 (by decide)⟩)
             | (go_at_call 62; (with_reducible show Calls _ _ #[.agg #[.int .i64 b.e0, _]] _ _); refine (HE.out W).mono ?_; rintro e W1 ⟨rfl, hB1⟩; exact ⟨_, rfl, rfl, HC.out.next (blkK_stab _ _) hB1 (by decide)⟩)
             | (go_at_call 61; refine (HL.out W).mono ?_; rintro e W1 ⟨rfl, hB1⟩; exact ⟨_, rfl, rfl, HC.out.next (blkK_stab _ _) hB1 (by decide)⟩)
         simp only [Act.put, List.setIfInBounds_toArray, List.set_cons_succ, List.set_cons_zero])
      | (refine R6.WalkR.un (fun _ => rfl) (fun D ρ W hK hC => hC.move (by decide)) ?_
         simp only [Act.put, List.setIfInBounds_toArray, List.set_cons_succ, List.set_cons_zero]))
    refine R6.WalkR.nil (fun D ρ W hD hC => ?_)
    have H9 := Lib.hid (H1.out.1.trans (hC.bel.mono H1.out.1.size))
    clear hC hD
    go_wp2
    go_ret
    exact ⟨rfl, H9.out⟩
  cases v5
  · go_enter Try.func42, Try.ntmps42
    go_wp2
    refine R6.wp_walk (C := ResF w1 [(w.heap.size, .cells #[.int .i64 b.len, .int .i64 b.e0, .int .i64 b.e1, .int .i64 b.f0, .int .i64 b.f1, .int .i64 b.s0, .int .i64 b.s1, .int .i64 b.gap, .int .i64 b.near, .slice b.A b.zs.length b.cap] 34 (0, 0))] (blkK b.gap b.near) [(22, 25, 0)]) 45 (by kernel_rfl) (by kernel_rfl) rfl (ResF.start (Below.refl _ _) ⟨H1.out.2, trivial⟩ (fun _ => rfl)) ?_
    simp only []
    iterate 22
      (first
        | (refine' R6.WalkR.det (fun _ => rfl) (fun D ρ W hK hC => ?_) ?_
           rotate_left
           · have f0 := fun i => cell_of_row W w.heap.size i _ _ _ hC.keep.1
             have HC := Lib.hid hC
             clear hC hK
             go_simp
             first
               | with_reducible exact ⟨rfl, HC.out.move (by decide)⟩
               | (go_at_call 67; refine (HH.out (by first | trivial | rfl) W HC.out.bel).mono ?_; rintro e W1 ⟨rfl, hB1⟩; exact ⟨_, rfl, rfl, HC.out.next (blkK_stab _ _) hB1 (by decide)⟩)
               | (go_at_call 66; refine (upTo_any _ W).mono ?_; rintro e W1 ⟨rfl, hB1⟩; exact ⟨_, rfl, rfl, HC.out.next (blkK_stab _ _) hB1 (by decide)⟩)
               | (go_at_call 65; refine (fromOne_any _ W).mono ?_; rintro e W1 ⟨rfl, hB1⟩; exact ⟨_, rfl, rfl, HC.out.next (blkK_stab _ _) hB1 (by decide)⟩)
               | (go_at_call 63; refine (HS.out W).mono ?_; rintro e W1 ⟨rfl, hB1⟩; exact ⟨_, rfl, rfl, HC.out.next (blkK_stab _ _) hB1 (by decide)⟩)
               | (go_at_call 62; (with_reducible show Calls _ _ #[.agg #[.int .i64 b.f0, _]] _ _); refine (HF.out W).mono ?_; rintro e W1 ⟨rfl, hB1⟩; exact ⟨_, rfl, rfl, HC.out.next (blkK_stab _ _) hB1 (by decide)⟩)
               | (go_at_call 62; (with_reducible show Calls _ _ #[.agg #[.int .i64 b.e0, _]] _ _); refine (HE.out W).mono ?_; rintro e W1 ⟨rfl, hB1⟩; exact ⟨_, rfl, rfl, HC.out.next (blkK_stab _ _) hB1 (by decide)⟩)
               | (go_at_call 61; refine (HL.out W).mono ?_; rintro e W1 ⟨rfl, hB1⟩; exact ⟨_, rfl, rfl, HC.out.next (blkK_stab _ _) hB1 (by decide)⟩)
           simp only [Act.put, List.setIfInBounds_toArray, List.set_cons_succ, List.set_cons_zero]))
    refine' R6.WalkR.nd (fun _ => rfl) rfl (fun D ρ W hK hC => ?_) ?_
    · have f0 := fun i => cell_of_row W w.heap.size i _ _ _ hC.keep.1
      have HC := Lib.hid hC
      clear hC hK
      go_simp
      exact HC.out.made (c := 0) (blkK_stab _ _) (grow1 _ _) (by decide) ⟨_, rfl, alloc_at0 _ _⟩
    simp only [Act.put, List.setIfInBounds_toArray, List.set_cons_succ, List.set_cons_zero]
    refine' R6.WalkR.det (fun _ => rfl) (fun D ρ W hK hC => ?_) ?_
    rotate_left
    · obtain ⟨g, hv, hm⟩ := hC.get (k := 22) (d := 25) (c := 0) (by simp) (hK.pre 22 (needs_edgeU (by decide +kernel)))
      have HC := Lib.hid hC
      have HMb := Lib.hid hm
      clear hC hK hm
      go_simp
      go_at_call 64
      refine (HG.out W g HMb.out).mono ?_
      rintro e W1 ⟨rfl, hB1⟩
      exact ⟨_, rfl, rfl, HC.out.next (blkK_stab _ _) hB1 (by decide)⟩
    simp only [Act.put, List.setIfInBounds_toArray, List.set_cons_succ, List.set_cons_zero]
    repeat (first
      | (refine' R6.WalkR.det (fun _ => rfl) (fun D ρ W hK hC => ?_) ?_
         rotate_left
         · have f0 := fun i => cell_of_row W w.heap.size i _ _ _ hC.keep.1
           have HC := Lib.hid hC
           clear hC hK
           go_simp
           first
             | with_reducible exact ⟨rfl, HC.out.move (by decide)⟩
             | (go_at_call 67; refine (HH.out (by first | trivial | rfl) W HC.out.bel).mono ?_; rintro e W1 ⟨rfl, hB1⟩; exact ⟨_, rfl, rfl, HC.out.next (blkK_stab _ _) hB1 (by decide)⟩)
             | (go_at_call 66; refine (upTo_any _ W).mono ?_; rintro e W1 ⟨rfl, hB1⟩; exact ⟨_, rfl, rfl, HC.out.next (blkK_stab _ _) hB1 (by decide)⟩)
             | (go_at_call 65; refine (fromOne_any _ W).mono ?_; rintro e W1 ⟨rfl, hB1⟩; exact ⟨_, rfl, rfl, HC.out.next (blkK_stab _ _) hB1 (by decide)⟩)
             | (go_at_call 63; refine (HS.out W).mono ?_; rintro e W1 ⟨rfl, hB1⟩; exact ⟨_, rfl, rfl, HC.out.next (blkK_stab _ _) hB1 (by decide)⟩)
             | (go_at_call 62; (with_reducible show Calls _ _ #[.agg #[.int .i64 b.f0, _]] _ _); refine (HF.out W).mono ?_; rintro e W1 ⟨rfl, hB1⟩; exact ⟨_, rfl, rfl, HC.out.next (blkK_stab _ _) hB1 (by decide)⟩)
             | (go_at_call 62; (with_reducible show Calls _ _ #[.agg #[.int .i64 b.e0, _]] _ _); refine (HE.out W).mono ?_; rintro e W1 ⟨rfl, hB1⟩; exact ⟨_, rfl, rfl, HC.out.next (blkK_stab _ _) hB1 (by decide)⟩)
             | (go_at_call 61; refine (HL.out W).mono ?_; rintro e W1 ⟨rfl, hB1⟩; exact ⟨_, rfl, rfl, HC.out.next (blkK_stab _ _) hB1 (by decide)⟩)
         simp only [Act.put, List.setIfInBounds_toArray, List.set_cons_succ, List.set_cons_zero])
      | (refine R6.WalkR.un (fun _ => rfl) (fun D ρ W hK hC => hC.move (by decide)) ?_
         simp only [Act.put, List.setIfInBounds_toArray, List.set_cons_succ, List.set_cons_zero]))
    refine R6.WalkR.nil (fun D ρ W hD hC => ?_)
    have H9 := Lib.hid (H1.out.1.trans (hC.bel.mono H1.out.1.size))
    clear hC hD
    go_wp2
    go_ret
    exact ⟨rfl, H9.out⟩
  cases v6
  · go_enter Try.func42, Try.ntmps42
    go_wp2
    refine R6.wp_walk (C := ResF w1 [(w.heap.size, .cells #[.int .i64 b.len, .int .i64 b.e0, .int .i64 b.e1, .int .i64 b.f0, .int .i64 b.f1, .int .i64 b.s0, .int .i64 b.s1, .int .i64 b.gap, .int .i64 b.near, .slice b.A b.zs.length b.cap] 34 (0, 0))] (blkK b.gap b.near) [(22, 25, 0), (29, 32, 1)]) 45 (by kernel_rfl) (by kernel_rfl) rfl (ResF.start (Below.refl _ _) ⟨H1.out.2, trivial⟩ (fun _ => rfl)) ?_
    simp only []
    iterate 22
      (first
        | (refine' R6.WalkR.det (fun _ => rfl) (fun D ρ W hK hC => ?_) ?_
           rotate_left
           · have f0 := fun i => cell_of_row W w.heap.size i _ _ _ hC.keep.1
             have HC := Lib.hid hC
             clear hC hK
             go_simp
             first
               | with_reducible exact ⟨rfl, HC.out.move (by decide)⟩
               | (go_at_call 67; refine (HH.out (by first | trivial | rfl) W HC.out.bel).mono ?_; rintro e W1 ⟨rfl, hB1⟩; exact ⟨_, rfl, rfl, HC.out.next (blkK_stab _ _) hB1 (by decide)⟩)
               | (go_at_call 66; refine (upTo_any _ W).mono ?_; rintro e W1 ⟨rfl, hB1⟩; exact ⟨_, rfl, rfl, HC.out.next (blkK_stab _ _) hB1 (by decide)⟩)
               | (go_at_call 65; refine (fromOne_any _ W).mono ?_; rintro e W1 ⟨rfl, hB1⟩; exact ⟨_, rfl, rfl, HC.out.next (blkK_stab _ _) hB1 (by decide)⟩)
               | (go_at_call 63; refine (HS.out W).mono ?_; rintro e W1 ⟨rfl, hB1⟩; exact ⟨_, rfl, rfl, HC.out.next (blkK_stab _ _) hB1 (by decide)⟩)
               | (go_at_call 62; (with_reducible show Calls _ _ #[.agg #[.int .i64 b.f0, _]] _ _); refine (HF.out W).mono ?_; rintro e W1 ⟨rfl, hB1⟩; exact ⟨_, rfl, rfl, HC.out.next (blkK_stab _ _) hB1 (by decide)⟩)
               | (go_at_call 62; (with_reducible show Calls _ _ #[.agg #[.int .i64 b.e0, _]] _ _); refine (HE.out W).mono ?_; rintro e W1 ⟨rfl, hB1⟩; exact ⟨_, rfl, rfl, HC.out.next (blkK_stab _ _) hB1 (by decide)⟩)
               | (go_at_call 61; refine (HL.out W).mono ?_; rintro e W1 ⟨rfl, hB1⟩; exact ⟨_, rfl, rfl, HC.out.next (blkK_stab _ _) hB1 (by decide)⟩)
           simp only [Act.put, List.setIfInBounds_toArray, List.set_cons_succ, List.set_cons_zero]))
    refine' R6.WalkR.nd (fun _ => rfl) rfl (fun D ρ W hK hC => ?_) ?_
    · have f0 := fun i => cell_of_row W w.heap.size i _ _ _ hC.keep.1
      have HC := Lib.hid hC
      clear hC hK
      go_simp
      exact HC.out.made (c := 0) (blkK_stab _ _) (grow1 _ _) (by decide) ⟨_, rfl, alloc_at0 _ _⟩
    simp only [Act.put, List.setIfInBounds_toArray, List.set_cons_succ, List.set_cons_zero]
    refine' R6.WalkR.det (fun _ => rfl) (fun D ρ W hK hC => ?_) ?_
    rotate_left
    · obtain ⟨g, hv, hm⟩ := hC.get (k := 22) (d := 25) (c := 0) (by simp) (hK.pre 22 (needs_edgeU (by decide +kernel)))
      have HC := Lib.hid hC
      have HMb := Lib.hid hm
      clear hC hK hm
      go_simp
      go_at_call 64
      refine (HG.out W g HMb.out).mono ?_
      rintro e W1 ⟨rfl, hB1⟩
      exact ⟨_, rfl, rfl, HC.out.next (blkK_stab _ _) hB1 (by decide)⟩
    simp only [Act.put, List.setIfInBounds_toArray, List.set_cons_succ, List.set_cons_zero]
    iterate 5
      (first
        | (refine' R6.WalkR.det (fun _ => rfl) (fun D ρ W hK hC => ?_) ?_
           rotate_left
           · have f0 := fun i => cell_of_row W w.heap.size i _ _ _ hC.keep.1
             have HC := Lib.hid hC
             clear hC hK
             go_simp
             first
               | with_reducible exact ⟨rfl, HC.out.move (by decide)⟩
               | (go_at_call 67; refine (HH.out (by first | trivial | rfl) W HC.out.bel).mono ?_; rintro e W1 ⟨rfl, hB1⟩; exact ⟨_, rfl, rfl, HC.out.next (blkK_stab _ _) hB1 (by decide)⟩)
               | (go_at_call 66; refine (upTo_any _ W).mono ?_; rintro e W1 ⟨rfl, hB1⟩; exact ⟨_, rfl, rfl, HC.out.next (blkK_stab _ _) hB1 (by decide)⟩)
               | (go_at_call 65; refine (fromOne_any _ W).mono ?_; rintro e W1 ⟨rfl, hB1⟩; exact ⟨_, rfl, rfl, HC.out.next (blkK_stab _ _) hB1 (by decide)⟩)
               | (go_at_call 63; refine (HS.out W).mono ?_; rintro e W1 ⟨rfl, hB1⟩; exact ⟨_, rfl, rfl, HC.out.next (blkK_stab _ _) hB1 (by decide)⟩)
               | (go_at_call 62; (with_reducible show Calls _ _ #[.agg #[.int .i64 b.f0, _]] _ _); refine (HF.out W).mono ?_; rintro e W1 ⟨rfl, hB1⟩; exact ⟨_, rfl, rfl, HC.out.next (blkK_stab _ _) hB1 (by decide)⟩)
               | (go_at_call 62; (with_reducible show Calls _ _ #[.agg #[.int .i64 b.e0, _]] _ _); refine (HE.out W).mono ?_; rintro e W1 ⟨rfl, hB1⟩; exact ⟨_, rfl, rfl, HC.out.next (blkK_stab _ _) hB1 (by decide)⟩)
               | (go_at_call 61; refine (HL.out W).mono ?_; rintro e W1 ⟨rfl, hB1⟩; exact ⟨_, rfl, rfl, HC.out.next (blkK_stab _ _) hB1 (by decide)⟩)
           simp only [Act.put, List.setIfInBounds_toArray, List.set_cons_succ, List.set_cons_zero]))
    refine' R6.WalkR.nd (fun _ => rfl) rfl (fun D ρ W hK hC => ?_) ?_
    · have f0 := fun i => cell_of_row W w.heap.size i _ _ _ hC.keep.1
      have HC := Lib.hid hC
      clear hC hK
      go_simp
      exact HC.out.made (c := 1) (blkK_stab _ _) (grow1 _ _) (by decide) ⟨_, rfl, alloc_at0 _ _⟩
    simp only [Act.put, List.setIfInBounds_toArray, List.set_cons_succ, List.set_cons_zero]
    refine' R6.WalkR.det (fun _ => rfl) (fun D ρ W hK hC => ?_) ?_
    rotate_left
    · obtain ⟨g, hv, hm⟩ := hC.get (k := 29) (d := 32) (c := 1) (by simp) (hK.pre 29 (needs_edgeU (by decide +kernel)))
      have HC := Lib.hid hC
      have HMb := Lib.hid hm
      clear hC hK hm
      go_simp
      go_at_call 64
      refine (HN.out W g HMb.out).mono ?_
      rintro e W1 ⟨rfl, hB1⟩
      exact ⟨_, rfl, rfl, HC.out.next (blkK_stab _ _) hB1 (by decide)⟩
    simp only [Act.put, List.setIfInBounds_toArray, List.set_cons_succ, List.set_cons_zero]
    repeat (first
      | (refine' R6.WalkR.det (fun _ => rfl) (fun D ρ W hK hC => ?_) ?_
         rotate_left
         · have f0 := fun i => cell_of_row W w.heap.size i _ _ _ hC.keep.1
           have HC := Lib.hid hC
           clear hC hK
           go_simp
           first
             | with_reducible exact ⟨rfl, HC.out.move (by decide)⟩
             | (go_at_call 67; refine (HH.out (by first | trivial | rfl) W HC.out.bel).mono ?_; rintro e W1 ⟨rfl, hB1⟩; exact ⟨_, rfl, rfl, HC.out.next (blkK_stab _ _) hB1 (by decide)⟩)
             | (go_at_call 66; refine (upTo_any _ W).mono ?_; rintro e W1 ⟨rfl, hB1⟩; exact ⟨_, rfl, rfl, HC.out.next (blkK_stab _ _) hB1 (by decide)⟩)
             | (go_at_call 65; refine (fromOne_any _ W).mono ?_; rintro e W1 ⟨rfl, hB1⟩; exact ⟨_, rfl, rfl, HC.out.next (blkK_stab _ _) hB1 (by decide)⟩)
             | (go_at_call 63; refine (HS.out W).mono ?_; rintro e W1 ⟨rfl, hB1⟩; exact ⟨_, rfl, rfl, HC.out.next (blkK_stab _ _) hB1 (by decide)⟩)
             | (go_at_call 62; (with_reducible show Calls _ _ #[.agg #[.int .i64 b.f0, _]] _ _); refine (HF.out W).mono ?_; rintro e W1 ⟨rfl, hB1⟩; exact ⟨_, rfl, rfl, HC.out.next (blkK_stab _ _) hB1 (by decide)⟩)
             | (go_at_call 62; (with_reducible show Calls _ _ #[.agg #[.int .i64 b.e0, _]] _ _); refine (HE.out W).mono ?_; rintro e W1 ⟨rfl, hB1⟩; exact ⟨_, rfl, rfl, HC.out.next (blkK_stab _ _) hB1 (by decide)⟩)
             | (go_at_call 61; refine (HL.out W).mono ?_; rintro e W1 ⟨rfl, hB1⟩; exact ⟨_, rfl, rfl, HC.out.next (blkK_stab _ _) hB1 (by decide)⟩)
         simp only [Act.put, List.setIfInBounds_toArray, List.set_cons_succ, List.set_cons_zero])
      | (refine R6.WalkR.un (fun _ => rfl) (fun D ρ W hK hC => hC.move (by decide)) ?_
         simp only [Act.put, List.setIfInBounds_toArray, List.set_cons_succ, List.set_cons_zero]))
    refine R6.WalkR.nil (fun D ρ W hD hC => ?_)
    have H9 := Lib.hid (H1.out.1.trans (hC.bel.mono H1.out.1.size))
    clear hC hD
    go_wp2
    go_ret
    exact ⟨rfl, H9.out⟩
  by_cases h7 : b.zs.length ≤ 10
  rotate_left
  · have h7z : decide ((b.zs.length : Int) ≤ 10) = false := decide_eq_false (by omega)
    have h7n : decide (b.zs.length ≤ 10) = false := decide_eq_false h7
    rw [h7n]
    clear h7n
    go_enter Try.func42, Try.ntmps42
    go_wp2
    refine R6.wp_walk (C := ResF w1 [(w.heap.size, .cells #[.int .i64 b.len, .int .i64 b.e0, .int .i64 b.e1, .int .i64 b.f0, .int .i64 b.f1, .int .i64 b.s0, .int .i64 b.s1, .int .i64 b.gap, .int .i64 b.near, .slice b.A b.zs.length b.cap] 34 (0, 0))] (blkK b.gap b.near) [(22, 25, 0), (29, 32, 1)]) 45 (by kernel_rfl) (by kernel_rfl) rfl (ResF.start (Below.refl _ _) ⟨H1.out.2, trivial⟩ (fun _ => rfl)) ?_
    simp only []
    iterate 22
      (first
        | (refine' R6.WalkR.det (fun _ => rfl) (fun D ρ W hK hC => ?_) ?_
           rotate_left
           · have f0 := fun i => cell_of_row W w.heap.size i _ _ _ hC.keep.1
             have HC := Lib.hid hC
             clear hC hK
             go_simp
             first
               | with_reducible exact ⟨rfl, HC.out.move (by decide)⟩
               | (go_at_call 67; refine (HH.out (by first | trivial | rfl) W HC.out.bel).mono ?_; rintro e W1 ⟨rfl, hB1⟩; exact ⟨_, rfl, rfl, HC.out.next (blkK_stab _ _) hB1 (by decide)⟩)
               | (go_at_call 66; refine (upTo_any _ W).mono ?_; rintro e W1 ⟨rfl, hB1⟩; exact ⟨_, rfl, rfl, HC.out.next (blkK_stab _ _) hB1 (by decide)⟩)
               | (go_at_call 65; refine (fromOne_any _ W).mono ?_; rintro e W1 ⟨rfl, hB1⟩; exact ⟨_, rfl, rfl, HC.out.next (blkK_stab _ _) hB1 (by decide)⟩)
               | (go_at_call 63; refine (HS.out W).mono ?_; rintro e W1 ⟨rfl, hB1⟩; exact ⟨_, rfl, rfl, HC.out.next (blkK_stab _ _) hB1 (by decide)⟩)
               | (go_at_call 62; (with_reducible show Calls _ _ #[.agg #[.int .i64 b.f0, _]] _ _); refine (HF.out W).mono ?_; rintro e W1 ⟨rfl, hB1⟩; exact ⟨_, rfl, rfl, HC.out.next (blkK_stab _ _) hB1 (by decide)⟩)
               | (go_at_call 62; (with_reducible show Calls _ _ #[.agg #[.int .i64 b.e0, _]] _ _); refine (HE.out W).mono ?_; rintro e W1 ⟨rfl, hB1⟩; exact ⟨_, rfl, rfl, HC.out.next (blkK_stab _ _) hB1 (by decide)⟩)
               | (go_at_call 61; refine (HL.out W).mono ?_; rintro e W1 ⟨rfl, hB1⟩; exact ⟨_, rfl, rfl, HC.out.next (blkK_stab _ _) hB1 (by decide)⟩)
           simp only [Act.put, List.setIfInBounds_toArray, List.set_cons_succ, List.set_cons_zero]))
    refine' R6.WalkR.nd (fun _ => rfl) rfl (fun D ρ W hK hC => ?_) ?_
    · have f0 := fun i => cell_of_row W w.heap.size i _ _ _ hC.keep.1
      have HC := Lib.hid hC
      clear hC hK
      go_simp
      exact HC.out.made (c := 0) (blkK_stab _ _) (grow1 _ _) (by decide) ⟨_, rfl, alloc_at0 _ _⟩
    simp only [Act.put, List.setIfInBounds_toArray, List.set_cons_succ, List.set_cons_zero]
    refine' R6.WalkR.det (fun _ => rfl) (fun D ρ W hK hC => ?_) ?_
    rotate_left
    · obtain ⟨g, hv, hm⟩ := hC.get (k := 22) (d := 25) (c := 0) (by simp) (hK.pre 22 (needs_edgeU (by decide +kernel)))
      have HC := Lib.hid hC
      have HMb := Lib.hid hm
      clear hC hK hm
      go_simp
      go_at_call 64
      refine (HG.out W g HMb.out).mono ?_
      rintro e W1 ⟨rfl, hB1⟩
      exact ⟨_, rfl, rfl, HC.out.next (blkK_stab _ _) hB1 (by decide)⟩
    simp only [Act.put, List.setIfInBounds_toArray, List.set_cons_succ, List.set_cons_zero]
    iterate 5
      (first
        | (refine' R6.WalkR.det (fun _ => rfl) (fun D ρ W hK hC => ?_) ?_
           rotate_left
           · have f0 := fun i => cell_of_row W w.heap.size i _ _ _ hC.keep.1
             have HC := Lib.hid hC
             clear hC hK
             go_simp
             first
               | with_reducible exact ⟨rfl, HC.out.move (by decide)⟩
               | (go_at_call 67; refine (HH.out (by first | trivial | rfl) W HC.out.bel).mono ?_; rintro e W1 ⟨rfl, hB1⟩; exact ⟨_, rfl, rfl, HC.out.next (blkK_stab _ _) hB1 (by decide)⟩)
               | (go_at_call 66; refine (upTo_any _ W).mono ?_; rintro e W1 ⟨rfl, hB1⟩; exact ⟨_, rfl, rfl, HC.out.next (blkK_stab _ _) hB1 (by decide)⟩)
               | (go_at_call 65; refine (fromOne_any _ W).mono ?_; rintro e W1 ⟨rfl, hB1⟩; exact ⟨_, rfl, rfl, HC.out.next (blkK_stab _ _) hB1 (by decide)⟩)
               | (go_at_call 63; refine (HS.out W).mono ?_; rintro e W1 ⟨rfl, hB1⟩; exact ⟨_, rfl, rfl, HC.out.next (blkK_stab _ _) hB1 (by decide)⟩)
               | (go_at_call 62; (with_reducible show Calls _ _ #[.agg #[.int .i64 b.f0, _]] _ _); refine (HF.out W).mono ?_; rintro e W1 ⟨rfl, hB1⟩; exact ⟨_, rfl, rfl, HC.out.next (blkK_stab _ _) hB1 (by decide)⟩)
               | (go_at_call 62; (with_reducible show Calls _ _ #[.agg #[.int .i64 b.e0, _]] _ _); refine (HE.out W).mono ?_; rintro e W1 ⟨rfl, hB1⟩; exact ⟨_, rfl, rfl, HC.out.next (blkK_stab _ _) hB1 (by decide)⟩)
               | (go_at_call 61; refine (HL.out W).mono ?_; rintro e W1 ⟨rfl, hB1⟩; exact ⟨_, rfl, rfl, HC.out.next (blkK_stab _ _) hB1 (by decide)⟩)
           simp only [Act.put, List.setIfInBounds_toArray, List.set_cons_succ, List.set_cons_zero]))
    refine' R6.WalkR.nd (fun _ => rfl) rfl (fun D ρ W hK hC => ?_) ?_
    · have f0 := fun i => cell_of_row W w.heap.size i _ _ _ hC.keep.1
      have HC := Lib.hid hC
      clear hC hK
      go_simp
      exact HC.out.made (c := 1) (blkK_stab _ _) (grow1 _ _) (by decide) ⟨_, rfl, alloc_at0 _ _⟩
    simp only [Act.put, List.setIfInBounds_toArray, List.set_cons_succ, List.set_cons_zero]
    refine' R6.WalkR.det (fun _ => rfl) (fun D ρ W hK hC => ?_) ?_
    rotate_left
    · obtain ⟨g, hv, hm⟩ := hC.get (k := 29) (d := 32) (c := 1) (by simp) (hK.pre 29 (needs_edgeU (by decide +kernel)))
      have HC := Lib.hid hC
      have HMb := Lib.hid hm
      clear hC hK hm
      go_simp
      go_at_call 64
      refine (HN.out W g HMb.out).mono ?_
      rintro e W1 ⟨rfl, hB1⟩
      exact ⟨_, rfl, rfl, HC.out.next (blkK_stab _ _) hB1 (by decide)⟩
    simp only [Act.put, List.setIfInBounds_toArray, List.set_cons_succ, List.set_cons_zero]
    repeat (first
      | (refine' R6.WalkR.det (fun _ => rfl) (fun D ρ W hK hC => ?_) ?_
         rotate_left
         · have f0 := fun i => cell_of_row W w.heap.size i _ _ _ hC.keep.1
           have HC := Lib.hid hC
           clear hC hK
           go_simp
           first
             | with_reducible exact ⟨rfl, HC.out.move (by decide)⟩
             | (go_at_call 67; refine (HH.out (by first | trivial | rfl) W HC.out.bel).mono ?_; rintro e W1 ⟨rfl, hB1⟩; exact ⟨_, rfl, rfl, HC.out.next (blkK_stab _ _) hB1 (by decide)⟩)
             | (go_at_call 66; refine (upTo_any _ W).mono ?_; rintro e W1 ⟨rfl, hB1⟩; exact ⟨_, rfl, rfl, HC.out.next (blkK_stab _ _) hB1 (by decide)⟩)
             | (go_at_call 65; refine (fromOne_any _ W).mono ?_; rintro e W1 ⟨rfl, hB1⟩; exact ⟨_, rfl, rfl, HC.out.next (blkK_stab _ _) hB1 (by decide)⟩)
             | (go_at_call 63; refine (HS.out W).mono ?_; rintro e W1 ⟨rfl, hB1⟩; exact ⟨_, rfl, rfl, HC.out.next (blkK_stab _ _) hB1 (by decide)⟩)
             | (go_at_call 62; (with_reducible show Calls _ _ #[.agg #[.int .i64 b.f0, _]] _ _); refine (HF.out W).mono ?_; rintro e W1 ⟨rfl, hB1⟩; exact ⟨_, rfl, rfl, HC.out.next (blkK_stab _ _) hB1 (by decide)⟩)
             | (go_at_call 62; (with_reducible show Calls _ _ #[.agg #[.int .i64 b.e0, _]] _ _); refine (HE.out W).mono ?_; rintro e W1 ⟨rfl, hB1⟩; exact ⟨_, rfl, rfl, HC.out.next (blkK_stab _ _) hB1 (by decide)⟩)
             | (go_at_call 61; refine (HL.out W).mono ?_; rintro e W1 ⟨rfl, hB1⟩; exact ⟨_, rfl, rfl, HC.out.next (blkK_stab _ _) hB1 (by decide)⟩)
         simp only [Act.put, List.setIfInBounds_toArray, List.set_cons_succ, List.set_cons_zero])
      | (refine R6.WalkR.un (fun _ => rfl) (fun D ρ W hK hC => hC.move (by decide)) ?_
         simp only [Act.put, List.setIfInBounds_toArray, List.set_cons_succ, List.set_cons_zero]))
    refine R6.WalkR.nil (fun D ρ W hD hC => ?_)
    have H9 := Lib.hid (H1.out.1.trans (hC.bel.mono H1.out.1.size))
    clear hC hD
    go_wp2
    go_ret
    exact ⟨rfl, H9.out⟩
  have h7z : decide ((b.zs.length : Int) ≤ 10) = true := decide_eq_true (by omega)
  have h7n : decide (b.zs.length ≤ 10) = true := decide_eq_true h7
  rw [h7n]
  clear h7n
  cases v8
  · go_enter Try.func42, Try.ntmps42
    go_wp2
    refine R6.wp_walk (C := ResF w1 [(w.heap.size, .cells #[.int .i64 b.len, .int .i64 b.e0, .int .i64 b.e1, .int .i64 b.f0, .int .i64 b.f1, .int .i64 b.s0, .int .i64 b.s1, .int .i64 b.gap, .int .i64 b.near, .slice b.A b.zs.length b.cap] 34 (0, 0))] (blkK b.gap b.near) [(22, 25, 0), (29, 32, 1)]) 45 (by kernel_rfl) (by kernel_rfl) rfl (ResF.start (Below.refl _ _) ⟨H1.out.2, trivial⟩ (fun _ => rfl)) ?_
    simp only []
    iterate 22
      (first
        | (refine' R6.WalkR.det (fun _ => rfl) (fun D ρ W hK hC => ?_) ?_
           rotate_left
           · have f0 := fun i => cell_of_row W w.heap.size i _ _ _ hC.keep.1
             have HC := Lib.hid hC
             clear hC hK
             go_simp
             first
               | with_reducible exact ⟨rfl, HC.out.move (by decide)⟩
               | (go_at_call 67; refine (HH.out (by first | trivial | rfl) W HC.out.bel).mono ?_; rintro e W1 ⟨rfl, hB1⟩; exact ⟨_, rfl, rfl, HC.out.next (blkK_stab _ _) hB1 (by decide)⟩)
               | (go_at_call 66; refine (upTo_any _ W).mono ?_; rintro e W1 ⟨rfl, hB1⟩; exact ⟨_, rfl, rfl, HC.out.next (blkK_stab _ _) hB1 (by decide)⟩)
               | (go_at_call 65; refine (fromOne_any _ W).mono ?_; rintro e W1 ⟨rfl, hB1⟩; exact ⟨_, rfl, rfl, HC.out.next (blkK_stab _ _) hB1 (by decide)⟩)
               | (go_at_call 63; refine (HS.out W).mono ?_; rintro e W1 ⟨rfl, hB1⟩; exact ⟨_, rfl, rfl, HC.out.next (blkK_stab _ _) hB1 (by decide)⟩)
               | (go_at_call 62; (with_reducible show Calls _ _ #[.agg #[.int .i64 b.f0, _]] _ _); refine (HF.out W).mono ?_; rintro e W1 ⟨rfl, hB1⟩; exact ⟨_, rfl, rfl, HC.out.next (blkK_stab _ _) hB1 (by decide)⟩)
               | (go_at_call 62; (with_reducible show Calls _ _ #[.agg #[.int .i64 b.e0, _]] _ _); refine (HE.out W).mono ?_; rintro e W1 ⟨rfl, hB1⟩; exact ⟨_, rfl, rfl, HC.out.next (blkK_stab _ _) hB1 (by decide)⟩)
               | (go_at_call 61; refine (HL.out W).mono ?_; rintro e W1 ⟨rfl, hB1⟩; exact ⟨_, rfl, rfl, HC.out.next (blkK_stab _ _) hB1 (by decide)⟩)
           simp only [Act.put, List.setIfInBounds_toArray, List.set_cons_succ, List.set_cons_zero]))
    refine' R6.WalkR.nd (fun _ => rfl) rfl (fun D ρ W hK hC => ?_) ?_
    · have f0 := fun i => cell_of_row W w.heap.size i _ _ _ hC.keep.1
      have HC := Lib.hid hC
      clear hC hK
      go_simp
      exact HC.out.made (c := 0) (blkK_stab _ _) (grow1 _ _) (by decide) ⟨_, rfl, alloc_at0 _ _⟩
    simp only [Act.put, List.setIfInBounds_toArray, List.set_cons_succ, List.set_cons_zero]
    refine' R6.WalkR.det (fun _ => rfl) (fun D ρ W hK hC => ?_) ?_
    rotate_left
    · obtain ⟨g, hv, hm⟩ := hC.get (k := 22) (d := 25) (c := 0) (by simp) (hK.pre 22 (needs_edgeU (by decide +kernel)))
      have HC := Lib.hid hC
      have HMb := Lib.hid hm
      clear hC hK hm
      go_simp
      go_at_call 64
      refine (HG.out W g HMb.out).mono ?_
      rintro e W1 ⟨rfl, hB1⟩
      exact ⟨_, rfl, rfl, HC.out.next (blkK_stab _ _) hB1 (by decide)⟩
    simp only [Act.put, List.setIfInBounds_toArray, List.set_cons_succ, List.set_cons_zero]
    iterate 5
      (first
        | (refine' R6.WalkR.det (fun _ => rfl) (fun D ρ W hK hC => ?_) ?_
           rotate_left
           · have f0 := fun i => cell_of_row W w.heap.size i _ _ _ hC.keep.1
             have HC := Lib.hid hC
             clear hC hK
             go_simp
             first
               | with_reducible exact ⟨rfl, HC.out.move (by decide)⟩
               | (go_at_call 67; refine (HH.out (by first | trivial | rfl) W HC.out.bel).mono ?_; rintro e W1 ⟨rfl, hB1⟩; exact ⟨_, rfl, rfl, HC.out.next (blkK_stab _ _) hB1 (by decide)⟩)
               | (go_at_call 66; refine (upTo_any _ W).mono ?_; rintro e W1 ⟨rfl, hB1⟩; exact ⟨_, rfl, rfl, HC.out.next (blkK_stab _ _) hB1 (by decide)⟩)
               | (go_at_call 65; refine (fromOne_any _ W).mono ?_; rintro e W1 ⟨rfl, hB1⟩; exact ⟨_, rfl, rfl, HC.out.next (blkK_stab _ _) hB1 (by decide)⟩)
               | (go_at_call 63; refine (HS.out W).mono ?_; rintro e W1 ⟨rfl, hB1⟩; exact ⟨_, rfl, rfl, HC.out.next (blkK_stab _ _) hB1 (by decide)⟩)
               | (go_at_call 62; (with_reducible show Calls _ _ #[.agg #[.int .i64 b.f0, _]] _ _); refine (HF.out W).mono ?_; rintro e W1 ⟨rfl, hB1⟩; exact ⟨_, rfl, rfl, HC.out.next (blkK_stab _ _) hB1 (by decide)⟩)
               | (go_at_call 62; (with_reducible show Calls _ _ #[.agg #[.int .i64 b.e0, _]] _ _); refine (HE.out W).mono ?_; rintro e W1 ⟨rfl, hB1⟩; exact ⟨_, rfl, rfl, HC.out.next (blkK_stab _ _) hB1 (by decide)⟩)
               | (go_at_call 61; refine (HL.out W).mono ?_; rintro e W1 ⟨rfl, hB1⟩; exact ⟨_, rfl, rfl, HC.out.next (blkK_stab _ _) hB1 (by decide)⟩)
           simp only [Act.put, List.setIfInBounds_toArray, List.set_cons_succ, List.set_cons_zero]))
    refine' R6.WalkR.nd (fun _ => rfl) rfl (fun D ρ W hK hC => ?_) ?_
    · have f0 := fun i => cell_of_row W w.heap.size i _ _ _ hC.keep.1
      have HC := Lib.hid hC
      clear hC hK
      go_simp
      exact HC.out.made (c := 1) (blkK_stab _ _) (grow1 _ _) (by decide) ⟨_, rfl, alloc_at0 _ _⟩
    simp only [Act.put, List.setIfInBounds_toArray, List.set_cons_succ, List.set_cons_zero]
    refine' R6.WalkR.det (fun _ => rfl) (fun D ρ W hK hC => ?_) ?_
    rotate_left
    · obtain ⟨g, hv, hm⟩ := hC.get (k := 29) (d := 32) (c := 1) (by simp) (hK.pre 29 (needs_edgeU (by decide +kernel)))
      have HC := Lib.hid hC
      have HMb := Lib.hid hm
      clear hC hK hm
      go_simp
      go_at_call 64
      refine (HN.out W g HMb.out).mono ?_
      rintro e W1 ⟨rfl, hB1⟩
      exact ⟨_, rfl, rfl, HC.out.next (blkK_stab _ _) hB1 (by decide)⟩
    simp only [Act.put, List.setIfInBounds_toArray, List.set_cons_succ, List.set_cons_zero]
    repeat (first
      | (refine' R6.WalkR.det (fun _ => rfl) (fun D ρ W hK hC => ?_) ?_
         rotate_left
         · have f0 := fun i => cell_of_row W w.heap.size i _ _ _ hC.keep.1
           have HC := Lib.hid hC
           clear hC hK
           go_simp
           first
             | with_reducible exact ⟨rfl, HC.out.move (by decide)⟩
             | (go_at_call 67; refine (HH.out (by first | trivial | rfl) W HC.out.bel).mono ?_; rintro e W1 ⟨rfl, hB1⟩; exact ⟨_, rfl, rfl, HC.out.next (blkK_stab _ _) hB1 (by decide)⟩)
             | (go_at_call 66; refine (upTo_any _ W).mono ?_; rintro e W1 ⟨rfl, hB1⟩; exact ⟨_, rfl, rfl, HC.out.next (blkK_stab _ _) hB1 (by decide)⟩)
             | (go_at_call 65; refine (fromOne_any _ W).mono ?_; rintro e W1 ⟨rfl, hB1⟩; exact ⟨_, rfl, rfl, HC.out.next (blkK_stab _ _) hB1 (by decide)⟩)
             | (go_at_call 63; refine (HS.out W).mono ?_; rintro e W1 ⟨rfl, hB1⟩; exact ⟨_, rfl, rfl, HC.out.next (blkK_stab _ _) hB1 (by decide)⟩)
             | (go_at_call 62; (with_reducible show Calls _ _ #[.agg #[.int .i64 b.f0, _]] _ _); refine (HF.out W).mono ?_; rintro e W1 ⟨rfl, hB1⟩; exact ⟨_, rfl, rfl, HC.out.next (blkK_stab _ _) hB1 (by decide)⟩)
             | (go_at_call 62; (with_reducible show Calls _ _ #[.agg #[.int .i64 b.e0, _]] _ _); refine (HE.out W).mono ?_; rintro e W1 ⟨rfl, hB1⟩; exact ⟨_, rfl, rfl, HC.out.next (blkK_stab _ _) hB1 (by decide)⟩)
             | (go_at_call 61; refine (HL.out W).mono ?_; rintro e W1 ⟨rfl, hB1⟩; exact ⟨_, rfl, rfl, HC.out.next (blkK_stab _ _) hB1 (by decide)⟩)
         simp only [Act.put, List.setIfInBounds_toArray, List.set_cons_succ, List.set_cons_zero])
      | (refine R6.WalkR.un (fun _ => rfl) (fun D ρ W hK hC => hC.move (by decide)) ?_
         simp only [Act.put, List.setIfInBounds_toArray, List.set_cons_succ, List.set_cons_zero]))
    refine R6.WalkR.nil (fun D ρ W hD hC => ?_)
    have H9 := Lib.hid (H1.out.1.trans (hC.bel.mono H1.out.1.size))
    clear hC hD
    go_wp2
    go_ret
    exact ⟨rfl, H9.out⟩
  · go_enter Try.func42, Try.ntmps42
    go_wp2
    refine R6.wp_walk (C := ResF w1 [(w.heap.size, .cells #[.int .i64 b.len, .int .i64 b.e0, .int .i64 b.e1, .int .i64 b.f0, .int .i64 b.f1, .int .i64 b.s0, .int .i64 b.s1, .int .i64 b.gap, .int .i64 b.near, .slice b.A b.zs.length b.cap] 34 (0, 0))] (blkK b.gap b.near) [(22, 25, 0), (29, 32, 1)]) 45 (by kernel_rfl) (by kernel_rfl) rfl (ResF.start (Below.refl _ _) ⟨H1.out.2, trivial⟩ (fun _ => rfl)) ?_
    simp only []
    iterate 22
      (first
        | (refine' R6.WalkR.det (fun _ => rfl) (fun D ρ W hK hC => ?_) ?_
           rotate_left
           · have f0 := fun i => cell_of_row W w.heap.size i _ _ _ hC.keep.1
             have HC := Lib.hid hC
             clear hC hK
             go_simp
             first
               | with_reducible exact ⟨rfl, HC.out.move (by decide)⟩
               | (go_at_call 67; refine (HH.out (by first | trivial | rfl) W HC.out.bel).mono ?_; rintro e W1 ⟨rfl, hB1⟩; exact ⟨_, rfl, rfl, HC.out.next (blkK_stab _ _) hB1 (by decide)⟩)
               | (go_at_call 66; refine (upTo_any _ W).mono ?_; rintro e W1 ⟨rfl, hB1⟩; exact ⟨_, rfl, rfl, HC.out.next (blkK_stab _ _) hB1 (by decide)⟩)
               | (go_at_call 65; refine (fromOne_any _ W).mono ?_; rintro e W1 ⟨rfl, hB1⟩; exact ⟨_, rfl, rfl, HC.out.next (blkK_stab _ _) hB1 (by decide)⟩)
               | (go_at_call 63; refine (HS.out W).mono ?_; rintro e W1 ⟨rfl, hB1⟩; exact ⟨_, rfl, rfl, HC.out.next (blkK_stab _ _) hB1 (by decide)⟩)
               | (go_at_call 62; (with_reducible show Calls _ _ #[.agg #[.int .i64 b.f0, _]] _ _); refine (HF.out W).mono ?_; rintro e W1 ⟨rfl, hB1⟩; exact ⟨_, rfl, rfl, HC.out.next (blkK_stab _ _) hB1 (by decide)⟩)
               | (go_at_call 62; (with_reducible show Calls _ _ #[.agg #[.int .i64 b.e0, _]] _ _); refine (HE.out W).mono ?_; rintro e W1 ⟨rfl, hB1⟩; exact ⟨_, rfl, rfl, HC.out.next (blkK_stab _ _) hB1 (by decide)⟩)
               | (go_at_call 61; refine (HL.out W).mono ?_; rintro e W1 ⟨rfl, hB1⟩; exact ⟨_, rfl, rfl, HC.out.next (blkK_stab _ _) hB1 (by decide)⟩)
           simp only [Act.put, List.setIfInBounds_toArray, List.set_cons_succ, List.set_cons_zero]))
    refine' R6.WalkR.nd (fun _ => rfl) rfl (fun D ρ W hK hC => ?_) ?_
    · have f0 := fun i => cell_of_row W w.heap.size i _ _ _ hC.keep.1
      have HC := Lib.hid hC
      clear hC hK
      go_simp
      exact HC.out.made (c := 0) (blkK_stab _ _) (grow1 _ _) (by decide) ⟨_, rfl, alloc_at0 _ _⟩
    simp only [Act.put, List.setIfInBounds_toArray, List.set_cons_succ, List.set_cons_zero]
    refine' R6.WalkR.det (fun _ => rfl) (fun D ρ W hK hC => ?_) ?_
    rotate_left
    · obtain ⟨g, hv, hm⟩ := hC.get (k := 22) (d := 25) (c := 0) (by simp) (hK.pre 22 (needs_edgeU (by decide +kernel)))
      have HC := Lib.hid hC
      have HMb := Lib.hid hm
      clear hC hK hm
      go_simp
      go_at_call 64
      refine (HG.out W g HMb.out).mono ?_
      rintro e W1 ⟨rfl, hB1⟩
      exact ⟨_, rfl, rfl, HC.out.next (blkK_stab _ _) hB1 (by decide)⟩
    simp only [Act.put, List.setIfInBounds_toArray, List.set_cons_succ, List.set_cons_zero]
    iterate 5
      (first
        | (refine' R6.WalkR.det (fun _ => rfl) (fun D ρ W hK hC => ?_) ?_
           rotate_left
           · have f0 := fun i => cell_of_row W w.heap.size i _ _ _ hC.keep.1
             have HC := Lib.hid hC
             clear hC hK
             go_simp
             first
               | with_reducible exact ⟨rfl, HC.out.move (by decide)⟩
               | (go_at_call 67; refine (HH.out (by first | trivial | rfl) W HC.out.bel).mono ?_; rintro e W1 ⟨rfl, hB1⟩; exact ⟨_, rfl, rfl, HC.out.next (blkK_stab _ _) hB1 (by decide)⟩)
               | (go_at_call 66; refine (upTo_any _ W).mono ?_; rintro e W1 ⟨rfl, hB1⟩; exact ⟨_, rfl, rfl, HC.out.next (blkK_stab _ _) hB1 (by decide)⟩)
               | (go_at_call 65; refine (fromOne_any _ W).mono ?_; rintro e W1 ⟨rfl, hB1⟩; exact ⟨_, rfl, rfl, HC.out.next (blkK_stab _ _) hB1 (by decide)⟩)
               | (go_at_call 63; refine (HS.out W).mono ?_; rintro e W1 ⟨rfl, hB1⟩; exact ⟨_, rfl, rfl, HC.out.next (blkK_stab _ _) hB1 (by decide)⟩)
               | (go_at_call 62; (with_reducible show Calls _ _ #[.agg #[.int .i64 b.f0, _]] _ _); refine (HF.out W).mono ?_; rintro e W1 ⟨rfl, hB1⟩; exact ⟨_, rfl, rfl, HC.out.next (blkK_stab _ _) hB1 (by decide)⟩)
               | (go_at_call 62; (with_reducible show Calls _ _ #[.agg #[.int .i64 b.e0, _]] _ _); refine (HE.out W).mono ?_; rintro e W1 ⟨rfl, hB1⟩; exact ⟨_, rfl, rfl, HC.out.next (blkK_stab _ _) hB1 (by decide)⟩)
               | (go_at_call 61; refine (HL.out W).mono ?_; rintro e W1 ⟨rfl, hB1⟩; exact ⟨_, rfl, rfl, HC.out.next (blkK_stab _ _) hB1 (by decide)⟩)
           simp only [Act.put, List.setIfInBounds_toArray, List.set_cons_succ, List.set_cons_zero]))
    refine' R6.WalkR.nd (fun _ => rfl) rfl (fun D ρ W hK hC => ?_) ?_
    · have f0 := fun i => cell_of_row W w.heap.size i _ _ _ hC.keep.1
      have HC := Lib.hid hC
      clear hC hK
      go_simp
      exact HC.out.made (c := 1) (blkK_stab _ _) (grow1 _ _) (by decide) ⟨_, rfl, alloc_at0 _ _⟩
    simp only [Act.put, List.setIfInBounds_toArray, List.set_cons_succ, List.set_cons_zero]
    refine' R6.WalkR.det (fun _ => rfl) (fun D ρ W hK hC => ?_) ?_
    rotate_left
    · obtain ⟨g, hv, hm⟩ := hC.get (k := 29) (d := 32) (c := 1) (by simp) (hK.pre 29 (needs_edgeU (by decide +kernel)))
      have HC := Lib.hid hC
      have HMb := Lib.hid hm
      clear hC hK hm
      go_simp
      go_at_call 64
      refine (HN.out W g HMb.out).mono ?_
      rintro e W1 ⟨rfl, hB1⟩
      exact ⟨_, rfl, rfl, HC.out.next (blkK_stab _ _) hB1 (by decide)⟩
    simp only [Act.put, List.setIfInBounds_toArray, List.set_cons_succ, List.set_cons_zero]
    repeat (first
      | (refine' R6.WalkR.det (fun _ => rfl) (fun D ρ W hK hC => ?_) ?_
         rotate_left
         · have f0 := fun i => cell_of_row W w.heap.size i _ _ _ hC.keep.1
           have HC := Lib.hid hC
           clear hC hK
           go_simp
           first
             | with_reducible exact ⟨rfl, HC.out.move (by decide)⟩
             | (go_at_call 67; refine (HH.out (by first | trivial | rfl) W HC.out.bel).mono ?_; rintro e W1 ⟨rfl, hB1⟩; exact ⟨_, rfl, rfl, HC.out.next (blkK_stab _ _) hB1 (by decide)⟩)
             | (go_at_call 66; refine (upTo_any _ W).mono ?_; rintro e W1 ⟨rfl, hB1⟩; exact ⟨_, rfl, rfl, HC.out.next (blkK_stab _ _) hB1 (by decide)⟩)
             | (go_at_call 65; refine (fromOne_any _ W).mono ?_; rintro e W1 ⟨rfl, hB1⟩; exact ⟨_, rfl, rfl, HC.out.next (blkK_stab _ _) hB1 (by decide)⟩)
             | (go_at_call 63; refine (HS.out W).mono ?_; rintro e W1 ⟨rfl, hB1⟩; exact ⟨_, rfl, rfl, HC.out.next (blkK_stab _ _) hB1 (by decide)⟩)
             | (go_at_call 62; (with_reducible show Calls _ _ #[.agg #[.int .i64 b.f0, _]] _ _); refine (HF.out W).mono ?_; rintro e W1 ⟨rfl, hB1⟩; exact ⟨_, rfl, rfl, HC.out.next (blkK_stab _ _) hB1 (by decide)⟩)
             | (go_at_call 62; (with_reducible show Calls _ _ #[.agg #[.int .i64 b.e0, _]] _ _); refine (HE.out W).mono ?_; rintro e W1 ⟨rfl, hB1⟩; exact ⟨_, rfl, rfl, HC.out.next (blkK_stab _ _) hB1 (by decide)⟩)
             | (go_at_call 61; refine (HL.out W).mono ?_; rintro e W1 ⟨rfl, hB1⟩; exact ⟨_, rfl, rfl, HC.out.next (blkK_stab _ _) hB1 (by decide)⟩)
         simp only [Act.put, List.setIfInBounds_toArray, List.set_cons_succ, List.set_cons_zero])
      | (refine R6.WalkR.un (fun _ => rfl) (fun D ρ W hK hC => hC.move (by decide)) ?_
         simp only [Act.put, List.setIfInBounds_toArray, List.set_cons_succ, List.set_cons_zero]))
    refine R6.WalkR.nil (fun D ρ W hD hC => ?_)
    have H9 := Lib.hid (H1.out.1.trans (hC.bel.mono H1.out.1.size))
    clear hC hD
    go_wp2
    go_ret
    exact ⟨rfl, H9.out⟩

end Go.Proofs.Ytjjipkgconmfcaa
