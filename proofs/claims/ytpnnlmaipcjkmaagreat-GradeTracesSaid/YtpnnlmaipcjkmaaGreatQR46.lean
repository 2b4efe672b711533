/-
  Which poles are fit by the books of vats (the program's Fit).
-/
import Derived.Test.YtpnnlmaipcjkmaaGreatQR45
import Derived.Test.YtpnnlmaipcjkmaaGreatQR23
set_option linter.all false
namespace Go.Proofs.YtpnnlmaipcjkmaaGreat
open Go.RowKit Go.Maps
open R6 (done done_ne done_me upd_ne upd_me)

attribute [local go_sem] gives

def treatS (l : List Sk) (k : Nat) : List Int := match l[k]? with
  | some x => treatL x.t (rws x.l) x.h
  | none => []
def fitP (l : List Sk) (p : Pol) : Int := if p.soak.toNat < l.length then (treatS l p.soak.toNat)[p.place.toNat]?.getD 0 else 0
def fitL (l : List Sk) (ps : List Pol) : List Int := ps.map (fitP l)
theorem treatS_at {l : List Sk} {k : Nat} (hk : k < l.length) : treatS l k = treatL l[k].t (rws l[k].l) l[k].h := by simp [treatS, hk]
theorem fillL_same {Z : List Int} {j : Nat} (hj : j < Z.length) (h : Z[j] = 0) : fillL Z (j + 1) = fillL Z j := by
  rw [← fillL_set Z hj, h]
  have hl : j < (fillL Z j).length := by rw [fillL_len Z (by omega)]; exact hj
  have e : (fillL Z j)[j] = 0 := by
    simp only [fillL]
    rw [List.getElem_append_right (by simp; omega)]
    simp
  rw [← e, List.set_getElem_self]
structure FtM (w : World) (mb kb m n : Nat) (T : Nat → List Int) (Y : List Int) (D : DataW Value) (W : World) : Prop where
  bel : Below w.heap.size w W
  map : MapT W mb (kb + 1) m n T D
  kn : W.heap[kb]? = some (.cells (u8s Y).toArray 5 (0, 0))
section
variable {w W W' : World} {mb kb m n : Nat} {T : Nat → List Int} {Y Y' : List Int} {D : DataW Value}
theorem FtM.grows (h : FtM w mb kb m n T Y D W) (hg : Grows W W') : FtM w mb kb m n T Y D W' := ⟨h.bel.trans (hg.mono h.bel.size), h.map.grows hg, (hg.block _ (lt_of_heap h.kn)).trans h.kn⟩
theorem FtM.set (h : FtM w mb kb m n T Y D W) (hP : Put W W' kb) (hM : W'.heap[kb]? = some (.cells (u8s Y').toArray 5 (0, 0))) (h0 : w.heap.size ≤ kb) (hne : mb ≠ kb) : FtM w mb kb m n T Y' D W' :=
  ⟨h.bel.trans (hP.below h0), h.map.same (hP.other _ hne) (fun k hk _ => hP.other k (by omega)), hM⟩
end
structure TrtC (wq : World) (L : List Int) (Ψ : World → Prop) (D : Nat → Bool) (σ : Nat → Value) (W : World) : Prop where
  bel : D 11 = false → Below wq.heap.size wq W
  res : D 7 = true → ∃ A c er, σ 51 = .tuple #[.slice A L.length c, .int .i64 er] ∧ (D 11 = false → OwnU W wq.heap.size (.slice A L.length c) L)
  post : D 11 = true → Ψ W
def trtK (k : Nat) (d : Option Nat) : Bool := !(k == 7 || k == 11 || d == some 51)
section
variable {wq W W' : World} {L : List Int} {Ψ : World → Prop} {D : Nat → Bool} {σ : Nat → Value}
theorem TrtC.move {k : Nat} {d : Option Nat} {v : Value} (h : TrtC wq L Ψ D σ W) (hk : trtK k d = true) : TrtC wq L Ψ (done D k) (R4.upd σ d v) W := by
  simp only [trtK, Bool.not_eq_true', Bool.or_eq_false_iff, beq_eq_false_iff_ne, ne_eq] at hk
  have e7 := done_ne (D := D) (k := k) (j := 7) (by omega)
  have e11 := done_ne (D := D) (k := k) (j := 11) (by omega)
  have u := upd_ne (ρ := σ) (v := v) hk.2
  exact ⟨by rw [e11]; exact h.bel, by rw [e7, e11, u]; exact h.res, by rw [e11]; exact h.post⟩
theorem TrtC.call {A : Option Addr} {c : Nat} {er : Int} (h : TrtC wq L Ψ D σ W) (h11 : D 11 = false) (hg : Grows W W') (hO : OwnU W' W.heap.size (.slice A L.length c) L) : TrtC wq L Ψ (done D 7) (R4.upd σ (some 51) (.tuple #[.slice A L.length c, .int .i64 er])) W' := by
  have e11 := done_ne (D := D) (k := 7) (j := 11) (by decide)
  have hb := h.bel h11
  exact ⟨fun _ => hb.trans (hg.mono hb.size), fun _ => ⟨A, c, er, upd_me, fun _ => ownU_weak hO hb.size⟩, fun e => by rw [e11, h11] at e; cases e⟩
theorem TrtC.fin (h : TrtC wq L Ψ D σ W) (h7 : D 7 = true) (hΨ : Ψ W') : TrtC wq L Ψ (done D 11) σ W' := by
  have e7 := done_ne (D := D) (k := 11) (j := 7) (by decide)
  obtain ⟨A, c, er, hv, -⟩ := h.res h7
  exact ⟨fun e => (by rw [done_me] at e; cases e), fun _ => ⟨A, c, er, hv, fun e => (by rw [done_me] at e; cases e)⟩, fun _ => hΨ⟩
end
def FitPost (w : World) (L : List Int) (e : Ending) (w' : World) : Prop := ∃ A c, e = .returned (.slice A L.length c) ∧ OwnU w' w.heap.size (.slice A L.length c) L ∧ Below w.heap.size w w'

set_option maxRecDepth 100000 in
set_option maxHeartbeats 32000000 in
theorem ftSoaked_any (l : List Sk) (ps : List Pol) (AP : Option Addr) (cp : Nat) (AL : Option Addr) (cl : Nat) (B : Nat) (w : World) (hB : B ≤ w.heap.size) (hz : Vals w B AP (ps.flatMap pcl)) (hs : SksAt w B l AL) (hl : l.length ≤ 1000000) (hp : ps.length ≤ 1000) (hpo : ∀ p ∈ ps, (0 ≤ p.soak ∧ p.soak ≤ 5) ∧ (0 ≤ p.place ∧ p.place ≤ 3)) :
    Calls Tryz.prog 49 #[.slice AP ps.length cp, .slice AL l.length cl] w (FitPost w (fitL l ps)) := by
  obtain ⟨i0, hi, hz0, hz1, hz2⟩ := info_parts infoU8
  have hmu := fun W => run_make_u8 (P := Tryz.prog) 34 5 i0 Tryz.underlying34 hi hz0 hz1 hz2 ps.length (by omega) W
  have hpe := fun (j : Nat) (hj : j < ps.length) => vals_elem pcl_len hz (by decide) hj
  have hse := fun (k : Nat) (hk : k < l.length) => vals_elem skl_len hs.v (by decide) hk
  have htr := fun (k : Nat) (hk : k < l.length) (W : World) (hW : Below w.heap.size w W) => cureTreated_any l[k].t l[k].A l[k].c l[k].l l[k].h B W (Nat.le_trans hB hW.size) ((hs.r _ (List.getElem_mem hk)).below (hW.mono hB)) (hs.s _ (List.getElem_mem hk))
  obtain ⟨w1, hw1⟩ : ∃ w1, w.alloc (.map #[] 0) = w1 := ⟨_, rfl⟩
  have g1 : Below w.heap.size w w1 := by rw [← hw1]; exact grow1 _ _
  have hs1 : w1.heap.size = w.heap.size + 1 := by rw [← hw1]; simp
  have m1 : w1.heap[w.heap.size]? = some (.map #[] 0) := by rw [← hw1]; exact alloc_at0 _ _
  have hmk : ∀ (t : TypeId), (Instr.makeMap t none).run Tryz.prog w = .ok (.map (some w.heap.size)) w1 := fun t => by
    have := @run_makeMap Tryz.prog
    rw [← hw1]
    simp [this]
  obtain ⟨Z, hZ⟩ : ∃ Z, Z = fitL l ps := ⟨_, rfl⟩
  have hZl : Z.length = ps.length := by rw [hZ]; simp [fitL]
  obtain ⟨w2, hw2⟩ : ∃ w2, w1.alloc (.cells (u8s (List.replicate ps.length 0)).toArray 5) = w2 := ⟨_, rfl⟩
  have hb2 : Below w1.heap.size w1 w2 := by rw [← hw2]; exact grow1 _ _
  have hm2 : w2.heap[w1.heap.size]? = some (.cells (u8s (List.replicate ps.length 0)).toArray 5 (0, 0)) := by rw [← hw2]; exact alloc_at0 _ _
  have hmk2 := hmu w1
  rw [hw2] at hmk2
  rw [← hZl, ← fillL_zero] at hm2
  obtain ⟨kb, hkb⟩ : ∃ kb, w1.heap.size = kb := ⟨_, rfl⟩
  rw [hkb] at hmk2 hm2
  have hF0 : FtM w w.heap.size kb 0 l.length (treatS l) (fillL Z 0) (.map []) w2 := ⟨g1.trans (hb2.mono g1.size), MapT.made ((hb2.block _ (by omega)).trans m1), hm2⟩
  have HF0 := Lib.hid hF0
  have HPE := Lib.hid hpe
  have HSE := Lib.hid hse
  have HTR := Lib.hid htr
  have HPO := Lib.hid hpo
  have HZ := Lib.hid (And.intro hZ hZl)
  have HKB := Lib.hid (show w.heap.size + 1 = kb by omega)
  have HBB := Lib.hid hB
  have HLP := Lib.hid (And.intro hl hp)
  rw [← hZ]
  clear hmu hpe hse htr hz hs hl hpo g1 hs1 m1 hw1 hi hz0 hz1 hz2 hZ hZl hw2 hb2 hm2 hF0 hkb hB
  unfold FitPost
  go_enter Tryz.func49, Tryz.ntmps49
  go_wp2
  clear hmk hmk2
  go_loopg [19] ps.length (fun gn s19 wx => ∃ j : Nat, j + gn = ps.length ∧ s19 = .int .i64 j ∧ Hid (∃ D m, m ≤ j ∧ FtM w w.heap.size kb m l.length (treatS l) (fillL Z j) D wx))
  case atStart => exact ⟨0, by omega, rfl, ⟨_, 0, Nat.le_refl _, HF0.out⟩⟩
  case round =>
    obtain ⟨j, hjg, rfl, hF⟩ := hrel
    cases gk with
    | zero =>
      obtain rfl : j = ps.length := by omega
      obtain ⟨D, m, -, hF⟩ := hF.out
      have HF := Lib.hid hF
      clear hF
      go_wp2
      go_ret
      have hMe := HF.out.kn
      rw [← HZ.out.2, fillL_all] at hMe
      exact ⟨some ⟨kb, 0, none⟩, ps.length, by rw [HZ.out.2]; rfl, ⟨by simp [u8s], .inr ⟨kb, ps.length, (u8s Z).toArray, by rw [HZ.out.2], by have := HKB.out; omega, hMe, by rw [HZ.out.2]; exact Nat.le_refl _, by have := hp; simp only [maxLen]; omega, by simp [u8s, HZ.out.2], by rw [List.toList_toArray, Nat.mul_one, List.take_of_length_le (by rw [u8s_len]; exact Nat.le_refl _)]⟩⟩, HF.out.bel⟩
    | succ gn =>
      have hj : j < ps.length := by omega
      have hjz : (j : Int) < ps.length := by omega
      obtain ⟨D, m, hmj, hF⟩ := hF.out
      obtain ⟨cP, oP, hA, hcB, hc⟩ := HPE.out j hj
      subst hA
      have hc' : ∀ i v, (pcl ps[j])[i]? = some v → wr.cell? ⟨cP, oP + j * 12 + i, none⟩ = some v := fun i v hv => (hF.bel.cell (p := ⟨cP, oP + j * 12 + i, none⟩) (by have := HBB.out; simp; omega)).trans (hc i v hv)
      obtain ⟨⟨s0, s1⟩, p0, p1⟩ := HPO.out _ (List.getElem_mem hj)
      obtain ⟨k, hk⟩ := Int.eq_ofNat_of_zero_le s0
      obtain ⟨q, hq⟩ := Int.eq_ofNat_of_zero_le p0
      have hZj : Z[j]'(by rw [HZ.out.2]; exact hj) = if k < l.length then (treatS l k)[q]?.getD 0 else 0 := by
        have h1 := HZ.out.1
        subst h1
        simp only [fitL, List.getElem_map, fitP, hk, hq, Int.toNat_natCast]
      have hfl : (u8s (fillL Z j)).length = ps.length := by rw [u8s_len, fillL_len Z (by rw [HZ.out.2]; omega), HZ.out.2]
      have hk5 : k ≤ 5 := by omega
      have hq3 : q ≤ 3 := by omega
      generalize ps[j] = y at hc' hk hq
      have HF := Lib.hid hF
      have HCC := Lib.hid hc'
      have HKQ := Lib.hid (And.intro hk hq)
      have HZJ := Lib.hid hZj
      have HFL := Lib.hid hfl
      clear hc hc' s0 s1 p0 p1 hk hq hZj hfl hF hcB
      by_cases hkl : k < l.length
      rotate_left
      · have hlz : (l.length : Int) ≤ k := by omega
        have hlzd : decide (l.length ≤ k) = true := decide_eq_true (by omega)
        have hz : Z[j]'(by rw [HZ.out.2]; exact hj) = 0 := by rw [HZJ.out, if_neg hkl]
        have HZ0 := Lib.hid hz
        clear hz hkl
        go_wp2_with (first
          | (show wpList _ _ _ (Oper.mk none (Op.store _ (Operand.tmp 8) (Operand.tmp 23)) _ _ _ _ :: _) _ _
             have hm : (wr.alloc (.cells #[.int .i64 0, .int .i64 0, .int .i64 0, .int .i64 0, .int .i64 0, .int .i64 0, .int .i64 0, .int .i64 0, .int .i64 0, .int .i64 0, .int .i64 0, .int .i64 0] 56)).heap[wr.heap.size]? = some (.cells (pcl pol0).toArray 56 (0, 0)) := alloc_at0 _ _
             refine wpList_store_blk 56 (.tmp 8) (.tmp 23) (cs := pcl y) rfl rfl rfl rfl rfl hm (Nat.le_of_ble_eq_true rfl) (fun v hv => pcl_one [y] v (by simpa using hv)) rowPole ?_
             intro w5 hP hM
             rw [splice_whole (by rfl)] at hM
             have hb : Below wr.heap.size wr w5 := (grow1 wr _).trans (hP.below (Nat.le_refl _))
             have f8 : w5.cell? ⟨wr.heap.size, 10, none⟩ = some (.int .i64 (k : Int)) := by rw [← HKQ.out.1]; exact cell_of_row w5 _ 10 _ _ _ hM
             have f9 : w5.cell? ⟨wr.heap.size, 11, none⟩ = some (.int .i64 (q : Int)) := by rw [← HKQ.out.2]; exact cell_of_row w5 _ 11 _ _ _ hM
             have H5 := Lib.hid (And.intro (HF.out.grows hb) hM)
             have HG5 := Lib.hid hb
             clear hP hM hm hb)
          | (show wpList _ _ _ (Oper.mk (some 23) _ _ _ _ _ :: _) _ _
             refine wpList_load_at 56 (.tmp 22) rfl rfl rfl (pcl y) HCC.out rowPole ?_))
        go_roundg gn
        case measure => omega
        case rel => exact ⟨j + 1, by omega, by go_num, ⟨D, m, by omega, by rw [fillL_same (by rw [HZ.out.2]; exact hj) HZ0.out]; exact H5.out.1⟩⟩
      have hlz : ¬ (l.length : Int) ≤ k := by omega
      have hlzd : decide (l.length ≤ k) = false := decide_eq_false (by omega)
      have hkz : (k : Int) < l.length := by omega
      cases hh : Maps.has D (.int .i64 (k : Int))
      rotate_left
      · obtain ⟨-, A, c, hat, hU⟩ := HF.out.map.at_ k hh
        have HH := Lib.hid hh
        have HT := Lib.hid (And.intro hat hU)
        clear hh hat hU
        by_cases hqL : q < (treatS l k).length
        · have hqz : (q : Int) < ((treatS l k).length : Int) := by omega
          obtain ⟨gA, oA, hAA, hgA, hcA⟩ := Vals.own HT.out.2 (by rw [u8s_len]; omega)
          have hcA := hcA q (.int .u8 (treatS l k)[q]) (by simp [u8s, hqL])
          have hz : Z[j]'(by rw [HZ.out.2]; exact hj) = (treatS l k)[q] := by rw [HZJ.out, if_pos hkl]; simp [hqL]
          have hset : (u8s (fillL Z j)).set j (.int .u8 (treatS l k)[q]) = u8s (fillL Z (j + 1)) := by rw [← hz, u8s_set, fillL_set]
          generalize (treatS l k)[q] = z at hcA hset
          obtain ⟨nT, hnT⟩ : ∃ nT, (treatS l k).length = nT := ⟨_, rfl⟩
          rw [hnT] at HT hqz
          subst hAA
          have HSET := Lib.hid hset
          have HNT := Lib.hid hnT
          have HCA := Lib.hid (And.intro hgA hcA)
          clear hset hz hgA hcA hnT hqL
          go_wp2_with (first
            | (show wpList _ _ _ (Oper.mk none (Op.store _ (Operand.tmp 70) (Operand.tmp 69)) _ _ _ _ :: _) _ _
               refine wpList_store_v5 5 (.tmp 70) (.tmp 69) (v := .int .u8 z) rfl rfl rfl rfl rfl rfl rfl H5.out.1.kn (by rw [HFL.out]; omega) sizeU8 ?_
               intro w9 hP9 hM9
               rw [HSET.out] at hM9
               have hX9 := H5.out.1.set hP9 hM9 (by have := HKB.out; omega) (by have := HKB.out; omega)
               have H9 := Lib.hid hX9
               clear hP9 hM9 hX9)
            | (show wpList _ _ _ (Oper.mk (some 57) _ _ _ _ _ :: _) _ _
               have f69 : w5.cell? ⟨gA, oA + q, none⟩ = some (.int .u8 z) := (Below.cell HG5.out (p := ⟨gA, oA + q, none⟩) HCA.out.1).trans HCA.out.2
               refine wpList_lookT rfl (.tmp 54) (.tmp 56) rfl rfl H5.out.1.map (by omega) rfl HT.out.1 ?_)
            | (show wpList _ _ _ (Oper.mk (some 33) _ _ _ _ _ :: _) _ _
               refine wpList_hasT rfl (.tmp 30) (.tmp 32) rfl rfl H5.out.1.map (by omega) rfl HH.out (fun v0 => ?_))
            | (show wpList _ _ _ (Oper.mk none (Op.store _ (Operand.tmp 8) (Operand.tmp 23)) _ _ _ _ :: _) _ _
               have hm : (wr.alloc (.cells #[.int .i64 0, .int .i64 0, .int .i64 0, .int .i64 0, .int .i64 0, .int .i64 0, .int .i64 0, .int .i64 0, .int .i64 0, .int .i64 0, .int .i64 0, .int .i64 0] 56)).heap[wr.heap.size]? = some (.cells (pcl pol0).toArray 56 (0, 0)) := alloc_at0 _ _
               refine wpList_store_blk 56 (.tmp 8) (.tmp 23) (cs := pcl y) rfl rfl rfl rfl rfl hm (Nat.le_of_ble_eq_true rfl) (fun v hv => pcl_one [y] v (by simpa using hv)) rowPole ?_
               intro w5 hP hM
               rw [splice_whole (by rfl)] at hM
               have hb : Below wr.heap.size wr w5 := (grow1 wr _).trans (hP.below (Nat.le_refl _))
               have f8 : w5.cell? ⟨wr.heap.size, 10, none⟩ = some (.int .i64 (k : Int)) := by rw [← HKQ.out.1]; exact cell_of_row w5 _ 10 _ _ _ hM
               have f9 : w5.cell? ⟨wr.heap.size, 11, none⟩ = some (.int .i64 (q : Int)) := by rw [← HKQ.out.2]; exact cell_of_row w5 _ 11 _ _ _ hM
               have H5 := Lib.hid (And.intro (HF.out.grows hb) hM)
               have HG5 := Lib.hid hb
               clear hP hM hm hb)
            | (show wpList _ _ _ (Oper.mk (some 23) _ _ _ _ _ :: _) _ _
               refine wpList_load_at 56 (.tmp 22) rfl rfl rfl (pcl y) HCC.out rowPole ?_))
          go_roundg gn
          case measure => omega
          case rel => exact ⟨j + 1, by omega, by go_num, ⟨D, m, by omega, H9.out⟩⟩
        · have hqz : ¬ (q : Int) < ((treatS l k).length : Int) := by omega
          have hz : Z[j]'(by rw [HZ.out.2]; exact hj) = 0 := by rw [HZJ.out, if_pos hkl, List.getElem?_eq_none (by omega)]; rfl
          have HZ0 := Lib.hid hz
          obtain ⟨nT, hnT⟩ : ∃ nT, (treatS l k).length = nT := ⟨_, rfl⟩
          rw [hnT] at HT hqz
          have HNT := Lib.hid hnT
          clear hz hnT hqL
          go_wp2_with (first
            | (show wpList _ _ _ (Oper.mk (some 57) _ _ _ _ _ :: _) _ _
               refine wpList_lookT rfl (.tmp 54) (.tmp 56) rfl rfl H5.out.1.map (by omega) rfl HT.out.1 ?_)
            | (show wpList _ _ _ (Oper.mk (some 33) _ _ _ _ _ :: _) _ _
               refine wpList_hasT rfl (.tmp 30) (.tmp 32) rfl rfl H5.out.1.map (by omega) rfl HH.out (fun v0 => ?_))
            | (show wpList _ _ _ (Oper.mk none (Op.store _ (Operand.tmp 8) (Operand.tmp 23)) _ _ _ _ :: _) _ _
               have hm : (wr.alloc (.cells #[.int .i64 0, .int .i64 0, .int .i64 0, .int .i64 0, .int .i64 0, .int .i64 0, .int .i64 0, .int .i64 0, .int .i64 0, .int .i64 0, .int .i64 0, .int .i64 0] 56)).heap[wr.heap.size]? = some (.cells (pcl pol0).toArray 56 (0, 0)) := alloc_at0 _ _
               refine wpList_store_blk 56 (.tmp 8) (.tmp 23) (cs := pcl y) rfl rfl rfl rfl rfl hm (Nat.le_of_ble_eq_true rfl) (fun v hv => pcl_one [y] v (by simpa using hv)) rowPole ?_
               intro w5 hP hM
               rw [splice_whole (by rfl)] at hM
               have hb : Below wr.heap.size wr w5 := (grow1 wr _).trans (hP.below (Nat.le_refl _))
               have f8 : w5.cell? ⟨wr.heap.size, 10, none⟩ = some (.int .i64 (k : Int)) := by rw [← HKQ.out.1]; exact cell_of_row w5 _ 10 _ _ _ hM
               have f9 : w5.cell? ⟨wr.heap.size, 11, none⟩ = some (.int .i64 (q : Int)) := by rw [← HKQ.out.2]; exact cell_of_row w5 _ 11 _ _ _ hM
               have H5 := Lib.hid (And.intro (HF.out.grows hb) hM)
               have HG5 := Lib.hid hb
               clear hP hM hm hb)
            | (show wpList _ _ _ (Oper.mk (some 23) _ _ _ _ _ :: _) _ _
               refine wpList_load_at 56 (.tmp 22) rfl rfl rfl (pcl y) HCC.out rowPole ?_))
          go_roundg gn
          case measure => omega
          case rel => exact ⟨j + 1, by omega, by go_num, ⟨D, m, by omega, by rw [fillL_same (by rw [HZ.out.2]; exact hj) HZ0.out]; exact H5.out.1⟩⟩
      · have HH := Lib.hid hh
        obtain ⟨cS, oS, hAS, hcS, hcs⟩ := HSE.out k hkl
        have htx := HTR.out k hkl
        unfold TrePost at htx
        rw [← treatS_at hkl, ← skb_bt] at htx
        have hcs' := fun (W : World) (hW : Below w.heap.size w W) (i : Nat) (v : Value) (hv : (skl l[k])[i]? = some v) => (hW.cell (p := ⟨cS, oS + k * 7 + i, none⟩) (by have := HBB.out; simp; omega)).trans (hcs i v hv)
        generalize l[k] = x at htx hcs'
        subst hAS
        have HTX := Lib.hid htx
        have HSW := Lib.hid hcs'
        have HNE := Lib.hid (show ¬ wr.heap.size = w.heap.size by have := HF.out.map.lt; omega)
        clear hh hcS hcs htx hcs'
        go_wp2_with (first
          | (show wpList _ _ _ (Oper.mk none (Op.store _ (Operand.tmp 11) (Operand.tmp 42)) _ _ _ _ :: _) _ _
             have hm : (w5.alloc (.cells #[.int .i64 0, .int .i64 0, .slice none 0 0, .int .i64 0, .int .i64 0, .int .i64 0, .int .i64 0] 65)).heap[w5.heap.size]? = some (.cells ([.int .i64 0, .int .i64 0, .slice none 0 0, .int .i64 0, .int .i64 0, .int .i64 0, .int .i64 0] : List Value).toArray 65 (0, 0)) := alloc_at0 _ _
             refine wpList_store_blk 65 (.tmp 11) (.tmp 42) (cs := skl x) rfl rfl rfl rfl rfl hm (Nat.le_of_ble_eq_true rfl) (fun v hv => skl_one [x] v (by simpa using hv)) rowSoak ?_
             intro w6 hP hM
             rw [splice_whole (by rfl)] at hM
             have hb : Below w5.heap.size w5 w6 := (grow1 w5 _).trans (hP.below (Nat.le_refl _))
             have H6 := Lib.hid (And.intro (H5.out.1.grows hb) (And.intro ((hb.block _ (lt_of_heap H5.out.2)).trans H5.out.2) hM))
             clear hP hM hm hb)
          | (show wpList _ _ _ (Oper.mk (some 42) _ _ _ _ _ :: _) _ _
             refine wpList_load_at 65 (.tmp 41) rfl rfl rfl (skl x) (HSW.out w5 H5.out.1.bel) rowSoak ?_)
          | (show wpList _ _ _ (Oper.mk (some 33) _ _ _ _ _ :: _) _ _
             refine wpList_hasT rfl (.tmp 30) (.tmp 32) rfl rfl H5.out.1.map (by omega) rfl HH.out (fun v0 => ?_))
          | (show wpList _ _ _ (Oper.mk none (Op.store _ (Operand.tmp 8) (Operand.tmp 23)) _ _ _ _ :: _) _ _
             have hm : (wr.alloc (.cells #[.int .i64 0, .int .i64 0, .int .i64 0, .int .i64 0, .int .i64 0, .int .i64 0, .int .i64 0, .int .i64 0, .int .i64 0, .int .i64 0, .int .i64 0, .int .i64 0] 56)).heap[wr.heap.size]? = some (.cells (pcl pol0).toArray 56 (0, 0)) := alloc_at0 _ _
             refine wpList_store_blk 56 (.tmp 8) (.tmp 23) (cs := pcl y) rfl rfl rfl rfl rfl hm (Nat.le_of_ble_eq_true rfl) (fun v hv => pcl_one [y] v (by simpa using hv)) rowPole ?_
             intro w5 hP hM
             rw [splice_whole (by rfl)] at hM
             have hb : Below wr.heap.size wr w5 := (grow1 wr _).trans (hP.below (Nat.le_refl _))
             have f8 : w5.cell? ⟨wr.heap.size, 10, none⟩ = some (.int .i64 (k : Int)) := by rw [← HKQ.out.1]; exact cell_of_row w5 _ 10 _ _ _ hM
             have f9 : w5.cell? ⟨wr.heap.size, 11, none⟩ = some (.int .i64 (q : Int)) := by rw [← HKQ.out.2]; exact cell_of_row w5 _ 11 _ _ _ hM
             have H5 := Lib.hid (And.intro (HF.out.grows hb) hM)
             have HG5 := Lib.hid hb
             clear hP hM hm hb)
          | (show wpList _ _ _ (Oper.mk (some 23) _ _ _ _ _ :: _) _ _
             refine wpList_load_at 56 (.tmp 22) rfl rfl rfl (pcl y) HCC.out rowPole ?_))
        refine R6.wp_walk (C := TrtC w6 (treatS l k) (fun W => ∃ D', FtM w w.heap.size kb (m + 1) l.length (treatS l) (fillL Z j) D' W ∧ Maps.has D' (.int .i64 (k : Int)) = true ∧ W.heap[wr.heap.size]? = some (.cells (pcl y).toArray 56 (0, 0)))) 73 (by kernel_rfl) (by kernel_rfl) rfl ⟨fun _ => (Below.refl _ _).drew, (fun e => by cases e), (fun e => by cases e)⟩ ?_
        simp only []
        repeat (first
          | (refine' R6.WalkR.det (fun _ => rfl) (fun D ρ W hK hC => ?_) ?_
             rotate_left
             · have h11 := hK.post 11 (by decide +kernel)
               have fk : W.cell? ⟨wr.heap.size, 10, none⟩ = some (.int .i64 (k : Int)) := by rw [← HKQ.out.1]; exact cell_of_row W _ 10 _ _ _ (((hC.bel h11).block _ (lt_of_heap H6.out.2.1)).trans H6.out.2.1)
               have fx : W.cell? ⟨w5.heap.size, 6, none⟩ = some (.int .i64 x.h) := cell_of_row W _ 6 _ _ _ (((hC.bel h11).block _ (lt_of_heap H6.out.2.2)).trans H6.out.2.2)
               clear h11
               have HC := Lib.hid hC
               clear hC hK
               go_simp
               with_reducible exact ⟨rfl, HC.out.move (by decide)⟩
             simp only [Act.put, List.setIfInBounds_toArray, List.set_cons_succ, List.set_cons_zero]))
        refine' R6.WalkR.det (fun _ => rfl) (fun D ρ W hK hC => ?_) ?_
        rotate_left
        · have h11 := hK.post 11 (by decide +kernel)
          exact gives_load_blk 63 (.tmp 47) rfl rfl (((hC.bel h11).block _ (lt_of_heap H6.out.2.2)).trans H6.out.2.2) (skb x) (skb_pre x) rowBatchA ⟨rfl, hC.move (by decide)⟩
        simp only [Act.put, List.setIfInBounds_toArray, List.set_cons_succ, List.set_cons_zero]
        repeat (first
          | (refine' R6.WalkR.det (fun _ => rfl) (fun D ρ W hK hC => ?_) ?_
             rotate_left
             · have h11 := hK.post 11 (by decide +kernel)
               have fk : W.cell? ⟨wr.heap.size, 10, none⟩ = some (.int .i64 (k : Int)) := by rw [← HKQ.out.1]; exact cell_of_row W _ 10 _ _ _ (((hC.bel h11).block _ (lt_of_heap H6.out.2.1)).trans H6.out.2.1)
               have fx : W.cell? ⟨w5.heap.size, 6, none⟩ = some (.int .i64 x.h) := cell_of_row W _ 6 _ _ _ (((hC.bel h11).block _ (lt_of_heap H6.out.2.2)).trans H6.out.2.2)
               clear h11
               have HC := Lib.hid hC
               clear hC hK
               go_simp
               with_reducible exact ⟨rfl, HC.out.move (by decide)⟩
             simp only [Act.put, List.setIfInBounds_toArray, List.set_cons_succ, List.set_cons_zero]))
        refine' R6.WalkR.nd (fun _ => rfl) rfl (fun D ρ W hK hC => ?_) ?_
        · have HC := Lib.hid (And.intro hC (hK.post 11 (by decide +kernel)))
          clear hC hK
          go_simp
          go_at_call 87
          refine (HTX.out W (H6.out.1.bel.trans ((HC.out.1.bel HC.out.2).mono H6.out.1.bel.size))).mono ?_
          rintro e W1 ⟨A, c, rfl, hO, hB1⟩
          exact ⟨_, rfl, HC.out.1.call HC.out.2 hB1 hO⟩
        simp only [Act.put, List.setIfInBounds_toArray, List.set_cons_succ, List.set_cons_zero]
        refine' R6.WalkR.fn 51 (fun v => v) (fun _ => rfl) (by first | decide +kernel | (dsimp only; decide +kernel)) (fun D ρ W hK hC => ?_) ?_
        · obtain ⟨A, c, er, hv, -⟩ := hC.res (hK.pre 7 (by first | decide +kernel | (dsimp only; decide +kernel)))
          have HC := Lib.hid hC
          clear hC hK
          go_simp
          first
            | exact HC.out.move (by decide)
            | exact ⟨by rw [hv]; rfl, HC.out.move (by decide)⟩
            | exact ⟨rfl, HC.out.move (by decide)⟩
        simp only [Act.put, List.setIfInBounds_toArray, List.set_cons_succ, List.set_cons_zero]
        refine' R6.WalkR.fn 51 (fun v => tupAt v 0) (fun _ => rfl) (by first | decide +kernel | (dsimp only; decide +kernel)) (fun D ρ W hK hC => ?_) ?_
        · obtain ⟨A, c, er, hv, -⟩ := hC.res (hK.pre 7 (by first | decide +kernel | (dsimp only; decide +kernel)))
          have HC := Lib.hid hC
          clear hC hK
          go_simp
          first
            | exact HC.out.move (by decide)
            | exact ⟨by rw [hv]; rfl, HC.out.move (by decide)⟩
            | exact ⟨rfl, HC.out.move (by decide)⟩
        simp only [Act.put, List.setIfInBounds_toArray, List.set_cons_succ, List.set_cons_zero]
        refine' R6.WalkR.fn 51 (fun v => tupAt v 1) (fun _ => rfl) (by first | decide +kernel | (dsimp only; decide +kernel)) (fun D ρ W hK hC => ?_) ?_
        · obtain ⟨A, c, er, hv, -⟩ := hC.res (hK.pre 7 (by first | decide +kernel | (dsimp only; decide +kernel)))
          have HC := Lib.hid hC
          clear hC hK
          go_simp
          first
            | exact HC.out.move (by decide)
            | exact ⟨by rw [hv]; rfl, HC.out.move (by decide)⟩
            | exact ⟨rfl, HC.out.move (by decide)⟩
        simp only [Act.put, List.setIfInBounds_toArray, List.set_cons_succ, List.set_cons_zero]
        refine' R6.WalkR.det (c := undef) (fun _ => rfl) (fun D ρ W hK hC => ?_) ?_
        · obtain ⟨A, c, er, hv, hU⟩ := hC.res (hK.pre 7 (by decide +kernel))
          have hU := hU hK.me
          have hb := hC.bel hK.me
          have hF6 := H6.out.1.grows hb
          refine gives_keepT (.tmp 44) (.tmp 46) (.tmp 52) rfl rfl hF6.map (by have := HLP.out; simp only [maxLen]; omega) (by omega) hkl rfl (A := A) (c := c) (by show tupAt _ 0 = _; rw [hv]; rfl) (ownU_weak hU (by have := lt_of_heap H6.out.1.kn; omega)) (by have := HKB.out; omega) ?_
          intro W' D' hM' hh' hg'
          exact ⟨rfl, hC.fin (hK.pre 7 (by decide +kernel)) ⟨D', ⟨hF6.bel.grown hg' hF6.bel.size (fun q e => by cases e; exact Nat.le_refl _), hM', (hg'.block _ (lt_of_heap hF6.kn) (fun e => by have := HKB.out; simp only [Option.some.injEq] at e; omega)).trans hF6.kn⟩, hh', (hg'.block _ (Nat.lt_of_lt_of_le (lt_of_heap H6.out.2.1) hb.size) (fun e => by have h1 := H6.out.1.map.own; simp only [Option.some.injEq] at e; exact absurd e HNE.out)).trans ((hb.block _ (lt_of_heap H6.out.2.1)).trans H6.out.2.1)⟩⟩
        simp only [Act.put, List.setIfInBounds_toArray, List.set_cons_succ, List.set_cons_zero]
        refine R6.WalkR.nil (fun D₁ ρ w10 hD hC => ?_)
        obtain ⟨D', hX, hh', hbx⟩ := hC.post (hD 11 (by omega))
        obtain ⟨-, A, c, hat, hU⟩ := hX.map.at_ k hh'
        have f8' : w10.cell? ⟨wr.heap.size, 10, none⟩ = some (.int .i64 (k : Int)) := by rw [← HKQ.out.1]; exact cell_of_row w10 _ 10 _ _ _ hbx
        have f9' : w10.cell? ⟨wr.heap.size, 11, none⟩ = some (.int .i64 (q : Int)) := by rw [← HKQ.out.2]; exact cell_of_row w10 _ 11 _ _ _ hbx
        have HX := Lib.hid (And.intro hX hbx)
        have HT := Lib.hid (And.intro hat hU)
        clear hC hD hX hh' hbx hat hU

        by_cases hqL : q < (treatS l k).length
        · have hqz : (q : Int) < ((treatS l k).length : Int) := by omega
          obtain ⟨gA, oA, hAA, hgA, hcA⟩ := Vals.own HT.out.2 (by rw [u8s_len]; omega)
          have hcA := hcA q (.int .u8 (treatS l k)[q]) (by simp [u8s, hqL])
          have hz : Z[j]'(by rw [HZ.out.2]; exact hj) = (treatS l k)[q] := by rw [HZJ.out, if_pos hkl]; simp [hqL]
          have hset : (u8s (fillL Z j)).set j (.int .u8 (treatS l k)[q]) = u8s (fillL Z (j + 1)) := by rw [← hz, u8s_set, fillL_set]
          generalize (treatS l k)[q] = z at hcA hset
          obtain ⟨nT, hnT⟩ : ∃ nT, (treatS l k).length = nT := ⟨_, rfl⟩
          rw [hnT] at HT hqz
          subst hAA
          have HSET := Lib.hid hset
          have HNT := Lib.hid hnT
          have HCA := Lib.hid (And.intro hgA hcA)
          clear hset hz hgA hcA hnT hqL
          go_wp2_with (first
            | (show wpList _ _ _ (Oper.mk none (Op.store _ (Operand.tmp 70) (Operand.tmp 69)) _ _ _ _ :: _) _ _
               refine wpList_store_v5 5 (.tmp 70) (.tmp 69) (v := .int .u8 z) rfl rfl rfl rfl rfl rfl rfl HX.out.1.kn (by rw [HFL.out]; omega) sizeU8 ?_
               intro w9 hP9 hM9
               rw [HSET.out] at hM9
               have hX9 := HX.out.1.set hP9 hM9 (by have := HKB.out; omega) (by have := HKB.out; omega)
               have H9 := Lib.hid hX9
               clear hP9 hM9 hX9)
            | (show wpList _ _ _ (Oper.mk (some 57) _ _ _ _ _ :: _) _ _
               have f69 : w10.cell? ⟨gA, oA + q, none⟩ = some (.int .u8 z) := (Below.cell (Below.refl w10.heap.size w10) (p := ⟨gA, oA + q, none⟩) HCA.out.1).trans HCA.out.2
               refine wpList_lookT rfl (.tmp 54) (.tmp 56) rfl rfl HX.out.1.map (by omega) rfl HT.out.1 ?_))
          go_roundg gn
          case measure => omega
          case rel => exact ⟨j + 1, by omega, by go_num, ⟨D', (m + 1), by omega, H9.out⟩⟩
        · have hqz : ¬ (q : Int) < ((treatS l k).length : Int) := by omega
          have hz : Z[j]'(by rw [HZ.out.2]; exact hj) = 0 := by rw [HZJ.out, if_pos hkl, List.getElem?_eq_none (by omega)]; rfl
          have HZ0 := Lib.hid hz
          obtain ⟨nT, hnT⟩ : ∃ nT, (treatS l k).length = nT := ⟨_, rfl⟩
          rw [hnT] at HT hqz
          have HNT := Lib.hid hnT
          clear hz hnT hqL
          go_wp2_with (first
            | (show wpList _ _ _ (Oper.mk (some 57) _ _ _ _ _ :: _) _ _
               refine wpList_lookT rfl (.tmp 54) (.tmp 56) rfl rfl HX.out.1.map (by omega) rfl HT.out.1 ?_))
          go_roundg gn
          case measure => omega
          case rel => exact ⟨j + 1, by omega, by go_num, ⟨D', (m + 1), by omega, by rw [fillL_same (by rw [HZ.out.2]; exact hj) HZ0.out]; exact HX.out.1⟩⟩

end Go.Proofs.YtpnnlmaipcjkmaaGreat

namespace Go.Proofs.YtpnnlmaipcjkmaaGreat
open Go.RowKit

def sFit (gs : List Gd) (vary : Int) (ps : List Pol) (ts : List Ts) (l : List Sk) : List Int × Int := if gChk gs vary ps ts = 0 then (if okSks l = true then (fitL l ps, 0) else ([], 54)) else ([], gChk gs vary ps ts)
theorem okPol_sk {p : Pol} (h : okPol p = true) : (0 ≤ p.soak ∧ p.soak ≤ 5) ∧ (0 ≤ p.place ∧ p.place ≤ 3) := by
  simp only [okPol, Bool.and_eq_true, inR_iff, decide_eq_true_eq] at h
  obtain ⟨_, _, _, _, h1, h2⟩ := h
  exact ⟨h1, h2⟩

set_option maxRecDepth 100000 in
set_option maxHeartbeats 4000000 in
theorem ftFit_any (ps : List Pol) (ts : List Ts) (gs : List Gd) (vary : Int) (l : List Sk) (AP : Option Addr) (cp : Nat) (AT : Option Addr) (ct : Nat) (AG : Option Addr) (cg : Nat) (AL : Option Addr) (cl : Nat) (B : Nat) (w : World) (hB : B ≤ w.heap.size) (hz : ShAt w B ps ts AP AT) (hg : GdAt w B gs AG) (hv : SksAt w B l AL) (hl : l.length ≤ 1000000) :
    Calls Tryz.prog 16 #[.agg #[.slice AP ps.length cp, .slice AT ts.length ct], .agg #[.slice AG gs.length cg, .int .i64 vary], .slice AL l.length cl] w (KnownPost w (sFit gs vary ps ts l)) := by
  have hchk := fun (W : World) (hW : Below w.heap.size w W) => grCheck_any ps ts gs vary AP cp AT ct AG cg B W (Nat.le_trans hB hW.size) (hz.below (hW.mono hB)) (hg.below (hW.mono hB))
  unfold shl gdl at hchk
  have hvg := fun (W : World) (hW : Below w.heap.size w W) => ftValidSoaks_any l AL cl B W (Nat.le_trans hB hW.size) (hv.below (hW.mono hB)) hl
  obtain ⟨w1, hw1⟩ : ∃ w1, (w.alloc (.cells #[.slice AP ps.length cp, .slice AT ts.length ct] 25)).alloc (.cells #[.slice AG gs.length cg, .int .i64 vary] 28) = w1 := ⟨_, rfl⟩
  have hb1 : Below w.heap.size w w1 := by rw [← hw1]; exact grow2 _ _ _
  have m1 : w1.heap[w.heap.size]? = some (.cells [.slice AP ps.length cp, .slice AT ts.length ct].toArray 25 (0, 0)) := by rw [← hw1]; exact alloc2_at0 _ _ _
  have m2 : w1.heap[w.heap.size + 1]? = some (.cells [.slice AG gs.length cg, .int .i64 vary].toArray 28 (0, 0)) := by rw [← hw1]; exact alloc2_at1 _ _ _
  have H1 := Lib.hid (And.intro hb1 (And.intro m1 m2))
  clear hb1 m1 m2
  unfold sFit
  by_cases hck : gChk gs vary ps ts = 0
  rotate_left
  · rw [if_neg hck]
    generalize gChk gs vary ps ts = ck at hchk hck ⊢
    have HC1 := Lib.hid hchk
    have hce : (ck == 0) = false := by simpa using hck
    have hcn : (ck != 0) = true := by simpa using hck
    clear hchk hz hg hv hvg hck
    go_enter Tryz.func16, Tryz.ntmps16
    go_wp2_with (first
      | (go_at_call 28
         refine (HC1.out w1 H1.out.1).mono ?_
         rintro e w2 ⟨rfl, hB2⟩
         have H2 := Lib.hid (And.intro (H1.out.1.trans (hB2.mono H1.out.1.size)) (And.intro ((hB2.block _ (lt_of_heap H1.out.2.1)).trans H1.out.2.1) ((hB2.block _ (lt_of_heap H1.out.2.2)).trans H1.out.2.2)))
         have f2 : w2.cell? ⟨w.heap.size, 0, none⟩ = some (.slice AP ps.length cp) := cell_of_row w2 _ 0 _ _ _ H2.out.2.1
         clear hB2)
      | (show wpList _ _ _ (Oper.mk (some 9) _ _ _ _ _ :: _) _ _
         refine wpList_load_blk 25 (.tmp 3) rfl rfl rfl H1.out.2.1 [.slice AP ps.length cp, .slice AT ts.length ct] at0 rowSheetP ?_)
      | (show wpList _ _ _ (Oper.mk (some 10) _ _ _ _ _ :: _) _ _
         refine wpList_load_blk 28 (.tmp 4) rfl rfl rfl H1.out.2.2 [.slice AG gs.length cg, .int .i64 vary] at0 rowGradingP ?_))
    go_ret2
    exact ⟨none, 0, rfl, ownU_nil _ _, H2.out.1⟩
  rw [if_pos hck]
  rw [hck] at hchk
  have hk := grOk_of hck
  have HC1 := Lib.hid hchk
  clear hchk
  cases hok : okSks l
  · rw [hok] at hvg
    rw [if_neg (by decide)]
    have HVG := Lib.hid hvg
    clear hvg hok hk hz hg hv hck
    go_enter Tryz.func16, Tryz.ntmps16
    go_wp2_with (first
      | (go_at_call 48
         refine (HVG.out w2 H2.out.1).mono ?_
         rintro e w3 ⟨rfl, hB3⟩
         have H3 := Lib.hid (H2.out.1.trans (hB3.mono H2.out.1.size))
         have f3 : w3.cell? ⟨w.heap.size, 0, none⟩ = some (.slice AP ps.length cp) := cell_of_row w3 _ 0 _ _ _ ((hB3.block _ (lt_of_heap H2.out.2.1)).trans H2.out.2.1)
         clear hB3)
      | (go_at_call 28
         refine (HC1.out w1 H1.out.1).mono ?_
         rintro e w2 ⟨rfl, hB2⟩
         have H2 := Lib.hid (And.intro (H1.out.1.trans (hB2.mono H1.out.1.size)) (And.intro ((hB2.block _ (lt_of_heap H1.out.2.1)).trans H1.out.2.1) ((hB2.block _ (lt_of_heap H1.out.2.2)).trans H1.out.2.2)))
         have f2 : w2.cell? ⟨w.heap.size, 0, none⟩ = some (.slice AP ps.length cp) := cell_of_row w2 _ 0 _ _ _ H2.out.2.1
         clear hB2)
      | (show wpList _ _ _ (Oper.mk (some 9) _ _ _ _ _ :: _) _ _
         refine wpList_load_blk 25 (.tmp 3) rfl rfl rfl H1.out.2.1 [.slice AP ps.length cp, .slice AT ts.length ct] at0 rowSheetP ?_)
      | (show wpList _ _ _ (Oper.mk (some 10) _ _ _ _ _ :: _) _ _
         refine wpList_load_blk 28 (.tmp 4) rfl rfl rfl H1.out.2.2 [.slice AG gs.length cg, .int .i64 vary] at0 rowGradingP ?_))
    go_ret2
    exact ⟨none, 0, rfl, ownU_nil _ _, H3.out⟩
  · rw [hok] at hvg
    rw [if_pos rfl]
    have HVG := Lib.hid hvg
    have htr := fun (W : World) (hW : Below w.heap.size w W) => ftSoaked_any l ps AP cp AL cl B W (Nat.le_trans hB hW.size) (hz.p.below (hW.mono hB)) (hv.below (hW.mono hB)) hl (by have := hk.p12; omega) (fun p hp => okPol_sk (hk.po p hp).2)
    unfold FitPost at htr
    generalize fitL l ps = L at htr ⊢
    have HTR := Lib.hid htr
    clear hvg hok hk hz hg hv hck htr
    go_enter Tryz.func16, Tryz.ntmps16
    go_wp2_with (first
      | (go_at_call 49
         refine (HTR.out w3 H3.out).mono ?_
         rintro e w4 ⟨A4, c4, rfl, hO4, hB4⟩
         have H4 := Lib.hid (And.intro hO4 (H3.out.trans (hB4.mono H3.out.size)))
         have HS4 := Lib.hid H3.out.size
         clear hB4 hO4)
      | (go_at_call 48
         refine (HVG.out w2 H2.out.1).mono ?_
         rintro e w3 ⟨rfl, hB3⟩
         have H3 := Lib.hid (H2.out.1.trans (hB3.mono H2.out.1.size))
         have f3 : w3.cell? ⟨w.heap.size, 0, none⟩ = some (.slice AP ps.length cp) := cell_of_row w3 _ 0 _ _ _ ((hB3.block _ (lt_of_heap H2.out.2.1)).trans H2.out.2.1)
         clear hB3)
      | (go_at_call 28
         refine (HC1.out w1 H1.out.1).mono ?_
         rintro e w2 ⟨rfl, hB2⟩
         have H2 := Lib.hid (And.intro (H1.out.1.trans (hB2.mono H1.out.1.size)) (And.intro ((hB2.block _ (lt_of_heap H1.out.2.1)).trans H1.out.2.1) ((hB2.block _ (lt_of_heap H1.out.2.2)).trans H1.out.2.2)))
         have f2 : w2.cell? ⟨w.heap.size, 0, none⟩ = some (.slice AP ps.length cp) := cell_of_row w2 _ 0 _ _ _ H2.out.2.1
         clear hB2)
      | (show wpList _ _ _ (Oper.mk (some 9) _ _ _ _ _ :: _) _ _
         refine wpList_load_blk 25 (.tmp 3) rfl rfl rfl H1.out.2.1 [.slice AP ps.length cp, .slice AT ts.length ct] at0 rowSheetP ?_)
      | (show wpList _ _ _ (Oper.mk (some 10) _ _ _ _ _ :: _) _ _
         refine wpList_load_blk 28 (.tmp 4) rfl rfl rfl H1.out.2.2 [.slice AG gs.length cg, .int .i64 vary] at0 rowGradingP ?_))
    go_ret2
    exact ⟨A4, c4, rfl, ownU_weak H4.out.1 HS4.out, H4.out.2⟩


end Go.Proofs.YtpnnlmaipcjkmaaGreat
