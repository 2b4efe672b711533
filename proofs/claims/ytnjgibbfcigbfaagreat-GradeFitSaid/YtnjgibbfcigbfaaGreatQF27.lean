import Derived.TacticsInMore
import Derived.LoopNIn
import Derived.LoopIn
import Derived.Test.YtnjgibbfcigbfaaGreatQF26
import Derived.Test.YtnjgibbfcigbfaaGreatQF7
import Derived.Maps.OwnSet
import Derived.RangeFuncBound
import Derived.RangeFuncCalls
set_option linter.all false
set_option maxRecDepth 100000
set_option maxHeartbeats 64000000
namespace Go.Proofs.YtnjgibbfcigbfaaGreat
open Go.RowKit
open R6 (done zAg zAj upd_ne upd_me)
attribute [local go_sem] Oper.semAt_some
attribute [local go_sem] gives
theorem zIo {w w' : World} {B : Nat} {A : Option Addr} {vs : List Value} (h : Vals w B A vs) (hk : ∀ k, k < B → w'.heap[k]? = w.heap[k]?) : Vals w' B A vs :=
 fun hl => let ⟨b, off, e, hb, hc⟩ := h hl; ⟨b, off, e, hb, fun k v hv => (World.cell?_of_block (w := w) (hk b hb)).trans (hc k v hv)⟩
theorem GdAt.same {w w' : World} {B : Nat} {gs : List Gd} {AG : Option Addr} (h : GdAt w B gs AG) (hk : ∀ k, k < B → w'.heap[k]? = w.heap[k]?) : GdAt w' B gs AG := ⟨zIo h.g hk, h.lg⟩
def allG (gs : List Gd) (ps : List Pol) (gr : Nat) : List (Array Value) := (peers gs ps gr).map fun p => #[.agg (pcl p).toArray]
def cntG (gs : List Gd) (ps : List Pol) (gr m : Nat) : Nat := (peers gs (ps.take m) gr).length
theorem zVe (gs : List Gd) (ps : List Pol) (gr : Nat) : (allG gs ps gr).length = cntG gs ps gr ps.length := by simp [allG, cntG]
theorem zD9 (gs : List Gd) (ps : List Pol) (gr m : Nat) (hm : m < ps.length) : peers gs (ps.take (m + 1)) gr = peers gs (ps.take m) gr ++ (if gOf gs ps[m] = gr then [ps[m]] else []) := by
 unfold peers; rw [List.take_add_one, List.getElem?_eq_getElem hm, List.filter_append]
 by_cases h : gOf gs ps[m] = gr <;> simp [h]
theorem zTz (gs : List Gd) (ps : List Pol) (gr m : Nat) (hm : m < ps.length) : cntG gs ps gr (m + 1) = cntG gs ps gr m + (if gOf gs ps[m] = gr then 1 else 0) := by
 unfold cntG; rw [zD9 gs ps gr m hm, List.length_append]
 split <;> rfl
theorem zT0 (gs : List Gd) (ps : List Pol) (gr m : Nat) : ∃ r, peers gs ps gr = peers gs (ps.take m) gr ++ r := ⟨peers gs (ps.drop m) gr, by unfold peers; rw [← List.filter_append, List.take_append_drop]⟩
theorem zT1 (gs : List Gd) (ps : List Pol) (gr m : Nat) (hm : m < ps.length) (h : gOf gs ps[m] = gr) : (allG gs ps gr)[cntG gs ps gr m]? = some #[.agg (pcl ps[m]).toArray] := by
 obtain ⟨r, hr⟩ := zT0 gs ps gr (m + 1); unfold allG cntG; rw [hr, zD9 gs ps gr m hm, if_pos h]; simp
theorem cntG_lt (gs : List Gd) (ps : List Pol) (gr m : Nat) (hm : m < ps.length) (h : gOf gs ps[m] = gr) : cntG gs ps gr m < (allG gs ps gr).length :=
 (List.getElem?_eq_some_iff.1 (zT1 gs ps gr m hm h)).1
def capG (b : Nat) (k : Nat) : Prop := k = b ∨ k = b + 1
def OwnG (n₀ b : Nat) : Nat → Prop := fun j => n₀ ≤ j ∧ ¬ capG b j
def notV (v : Value) : Value := match v with
 | .bool x => .bool (!x)
 | _ => undef
theorem zA4 : RowTy Tryz.prog 119 4 := ⟨⟨_, Tryz.underlying119, rfl⟩, by kernel_rfl⟩
structure OgC (w5 : World) (J' Jx' : World → Prop) (Y : Nat → Prop) (D : Nat → Bool) (σ : Nat → Value) (W : World) : Prop where
 pre : D 8 = false → Grows w5 W
 post : D 8 = true → (σ 22 = .bool true ∧ J' W ∧ KeepsX Y w5 W) ∨ (σ 22 = .bool false ∧ Jx' W)
def ogK (k : Nat) (d : Option Nat) : Bool := !(k == 8 || d == some 22)
section
variable {w5 W W' : World} {J' Jx' : World → Prop} {Y : Nat → Prop} {D : Nat → Bool} {σ : Nat → Value}
theorem OgC.move {k : Nat} {d : Option Nat} {v : Value} (h : OgC w5 J' Jx' Y D σ W) (hk : ogK k d = true) : OgC w5 J' Jx' Y (done D k) (R4.upd σ d v) W := by
 simp only [ogK, Bool.not_eq_true', Bool.or_eq_false_iff, beq_eq_false_iff_ne, ne_eq] at hk; have e8 := zAg (D := D) (k := k) (j := 8) (by omega)
 have u1 := upd_ne (ρ := σ) (v := v) hk.2; exact ⟨by rw [e8]; exact h.pre, by rw [e8, u1]; exact h.post⟩
theorem OgC.next {k : Nat} {d : Option Nat} {v : Value} (h : OgC w5 J' Jx' Y D σ W) (h8 : D 8 = false) (hg : Grows W W') (hk : ogK k d = true) : OgC w5 J' Jx' Y (done D k) (R4.upd σ d v) W' := by
 simp only [ogK, Bool.not_eq_true', Bool.or_eq_false_iff, beq_eq_false_iff_ne, ne_eq] at hk; have e8 := zAg (D := D) (k := k) (j := 8) (by omega)
 exact ⟨fun _ => (h.pre h8).trans (hg.mono (h.pre h8).size), fun e => by rw [e8, h8] at e; cases e⟩
end
theorem zVf (gs : List Gd) (vary : Int) (ps : List Pol) (AP : Option Addr) (cp : Nat) (AT : Option Addr) (nt ct : Nat) (AG : Option Addr) (cg : Nat) (gr : Nat) (n n₀ b : Nat) (hn : 1 ≤ n) (w : World) (hn₀ : n₀ ≤ w.heap.size) (hnb : n₀ ≤ b) (hb : b + 1 < w.heap.size)
 (hz : Vals w n₀ AP (ps.flatMap pcl)) (hl : ps.length ≤ 1000000) (hg : GdAt w n₀ gs AG) (hy : ∀ p ∈ ps, yrs p) (hgr : gr ≤ 1000)
 (hb0 : w.heap[b]? = some (.cells #[.slice AP ps.length cp, .slice AT nt ct, .slice AG gs.length cg, .int .i64 vary] 119 (0, 0))) (hb1 : w.heap[b + 1]? = some (.cells #[.int .i64 (gr : Int)] 3 (0, 0))) :
 SeqP Fence.wide n Tryz.prog 137 #[.pointer (some ⟨b, 0, none⟩), .pointer (some ⟨b + 1, 0, none⟩)] (allG gs ps gr) n₀ (capG b) w := by
 intro L X J Jx W hW hX hJ hJx hY h0; have hall := zVe gs ps gr; have hat := fun m hm h => zT1 gs ps gr m hm h
 have hlt := fun m hm h => cntG_lt gs ps gr m hm h
 have hcs := fun m hm => zTz gs ps gr m hm
 have hc0 : cntG gs ps gr 0 = 0 := by simp [cntG, peers]
 generalize allG gs ps gr = all at *; generalize cntG gs ps gr = cnt at *; have hbW := (hW.block b (by omega)).trans hb0
 have hb1W := (hW.block (b + 1) (by omega)).trans hb1
 have hWs : b + 1 < W.heap.size := Nat.lt_of_lt_of_le hb hW.size; have hnW : n₀ ≤ W.heap.size := Nat.le_trans hn₀ hW.size; have hlow : ∀ j, j < n₀ → W.heap[j]? = w.heap[j]? := fun j hj => hW.block j (by omega)
 have hcW := fun i => cell_of_row W b i _ _ _ hbW
 have hc00 := hcW 0; have HY := zzh hY; have HJ := zz3 hJ hJx h0; have HX := zzh hX; have HC := zz5 hall hat hlt hcs hc0; have HZ := zz3 (zIo hz hlow) (hg.same hlow) hy; have HBW := zz2 hbW hb1W; clear hY hJ hJx h0 hX hall hat hlt hcs hc0 hz hg hy hbW hb1W hb0 hb1 hlow hcW; refine callsIn_of_wp Tryz.func137 rfl trivial ?_ rfl; simp only [Tryz.ntmps137, List.size_toArray, List.length_cons, List.length_nil, Nat.reduceAdd, Nat.reduceSub, Array.replicate_succ, Array.replicate_zero, List.push_toArray, List.append_toArray, List.nil_append, List.cons_append]
 gi_wp2_with fail
 clear hc00
 gi_loopw [10] (fun i wr => ∃ m : Nat, m ≤ ps.length ∧ i = .int .i64 m ∧ Hid (J (cnt m) wr) ∧ Hid (KeepsX (OwnG n₀ b) W wr))
  (fun i _ => ps.length - (intOf i).toNat)
 case atStart => exact ⟨0, Nat.zero_le _, rfl, by rw [HC.out.2.2.2.2]; exact HJ.out.2.2, KeepsX.refl _ _⟩
 case round =>
  obtain ⟨m, hm, rfl, hJm, hKm⟩ := hrel
  by_cases hlt : m < ps.length
  · have hmz : (m : Int) < ps.length := by omega
    have hsame : ∀ j, j < n₀ → wr.heap[j]? = W.heap[j]? := fun j hj => hKm.out.same j (by omega) (fun h => by have := h.1; omega)
    obtain ⟨c, off, hA, hcB, hc⟩ := zAw zDb (zIo HZ.out.1 hsame) (by decide) hlt
    subst hA; have hgd := HZ.out.2.1.same hsame; have hyr := HZ.out.2.2 ps[m] (List.getElem_mem hlt); have hat := HC.out.2.1 m hlt; have hcl := HC.out.2.2.1 m hlt; have hst := HC.out.2.2.2.1 m hlt; generalize ps[m] = y at hc hyr hat hst hcl; have hbr := (hKm.out.same b (by omega) (fun h => h.2 (.inl rfl))).trans HBW.out.1
    have hbr1 := (hKm.out.same (b + 1) (by omega) (fun h => h.2 (.inr rfl))).trans HBW.out.2
    have hgo := fun (W' : World) (h : Grows wr W') => zDn gs vary y (some ⟨c, off, none⟩) ps.length cp AT nt ct AG cg n₀ W' (by have := hKm.out.size; have := h.size; omega) (hgd.below (h.mono (by have := hKm.out.size; omega))) hyr
    have hsz : W.heap.size ≤ wr.heap.size := hKm.out.size; have HCC := zzh hc; have HG := zz4 hgo hbr hbr1 hsz; clear hsame hgd hyr hc hgo hbr hbr1 hsz
    by_cases he : gOf gs y = gr
    · have hat' := zz2 (hat he) (hcl he); rw [if_pos he] at hst; rw [he] at HG; have HST := zzh hst; clear hat hst he hcl
      gi_wp2_with (first
       | (show wpListIn _ _ _ _ _ (Oper.mk (some 13) _ _ _ _ _ :: _) _ _; refine zCu 56 (.tmp 12) rfl rfl rfl (pcl y) HCC.out zAl ?_)
       | (show wpListIn _ _ _ _ _ (Oper.mk none (Op.store _ (Operand.tmp 5) (Operand.tmp 13)) _ _ _ _ :: _) _ _; refine zAi 56 (.tmp 5) (.tmp 13) rfl rfl rfl rfl (zAd wr _) rfl (by rw [List.all_toArray, List.all_eq_true]; exact fun v hv => zBd [y] v (by simpa using hv)) zAl ?_
          intro w5 hP5 hM5; have hb5 : Grows wr w5 := (grow1 wr _).trans (hP5.below (Nat.le_refl _)); have H5 := zz5 hb5 hM5 (HJ.out.1 _ _ _ hJm.out (hb5.mono HG.out.2.2.2)) ((hb5.block _ (zAa HG.out.2.1)).trans HG.out.2.1) ((hb5.block _ (zAa HG.out.2.2.1)).trans HG.out.2.2.1); clear hP5 hM5 hb5))
      refine R7.wpIn_walk (fun _ => trivial) (C := OgC w5 (J (cnt m + 1)) (Jx (cnt m)) (OwnG n₀ b)) 26 (by kernel_rfl) (by kernel_rfl) rfl ⟨fun _ => (Below.refl _ _).drew, (fun e => by cases e)⟩ ?_
      simp only []; refine' R7.WalkR.det (fun _ => rfl) (fun D ρ W1 hK hC => R7.givesF.of (fun c h => by cases h) ?_) ?_
      rotate_left
      · have hp := hC.pre (hK.post 8 (by decide +kernel))
        exact zAk 119 (.tmp 1) rfl rfl ((hp.block _ (zAa H5.out.2.2.2.1)).trans H5.out.2.2.2.1) [.slice (some ⟨c, off, none⟩) ps.length cp, .slice AT nt ct, .slice AG gs.length cg, .int .i64 vary] at0 zA4 ⟨rfl, hC.move (by decide)⟩
      simp only [Act.put, zza, zzb, zzc]; refine' R7.WalkR.det (fun _ => rfl) (fun D ρ W1 hK hC => R7.givesF.of (fun c h => by cases h) ?_) ?_
      rotate_left
      · have hp := hC.pre (hK.post 8 (by decide +kernel))
        exact zAk 56 (.tmp 5) rfl rfl ((hp.block _ (zAa H5.out.2.1)).trans H5.out.2.1) (pcl y) at0 zAl ⟨rfl, hC.move (by decide)⟩
      simp only [Act.put, zza, zzb, zzc]
      repeat (first
       | (refine' R7.WalkR.det (fun _ => rfl) (fun D ρ W1 hK hC => R7.givesF.of (fun c h => by cases h) ?_) ?_
          rotate_left
          · have h8 := hK.post 8 (by decide +kernel)
            have hp := hC.pre h8; have f1 : W1.cell? ⟨b + 1, 0, none⟩ = some (.int .i64 (gr : Int)) := cell_of_row W1 _ 0 _ _ _ ((hp.block _ (zAa H5.out.2.2.2.2)).trans H5.out.2.2.2.2); have HC1 := zzh hC; have HP := zzh hp; have H8 := zzh h8; clear hC hK hp h8; go_simp
            first
             | with_reducible exact ⟨rfl, HC1.out.move (by decide)⟩
             | (go_at_call 55; refine (HG.out.1 W1 (H5.out.1.trans (HP.out.mono H5.out.1.size))).mono ?_; rintro e W2 ⟨rfl, hB2⟩; exact ⟨_, rfl, rfl, HC1.out.next H8.out hB2 (by decide)⟩)
          simp only [Act.put, zza, zzb, zzc]))
      refine' R7.WalkR.det (fun _ => rfl) (fun D ρ W1 hK hC => R7.givesF.of (fun c h => by cases h) ?_) ?_
      rotate_left
      · have hp := hC.pre (hK.post 8 (by decide +kernel))
        exact zAk 56 (.tmp 5) rfl rfl ((hp.block _ (zAa H5.out.2.1)).trans H5.out.2.1) (pcl y) at0 zAl ⟨rfl, hC.move (by decide)⟩
      simp only [Act.put, zza, zzb, zzc]; refine' R7.WalkR.nd (fun _ => rfl) rfl (fun D ρ W1 hK hC => ?_) ?_
      · have h8 := hK.me; have hp := hC.pre h8; have hJ1 := HJ.out.1 _ _ _ H5.out.2.2.1 (hp.mono (by have := H5.out.1.size; have := HG.out.2.2.2; omega))
        have hyk := HY.out (cnt m) _ W1 hat'.out.1 hJ1 (by have := H5.out.1.size; have := HG.out.2.2.2; have := hp.size; omega)
        refine R7.givesF.yield (.tmp 20) #[.tmp 21] #[56] rfl (fun _ => trivial) hn (l := L) rfl (by simp only [List.map_toArray, List.map_cons, List.map_nil]; rfl) hyk ?_
        rintro e W' (⟨rfl, hJ2, hK2⟩ | ⟨rfl, hx2⟩)
        · refine ⟨_, rfl, (fun e => by rw [zAj] at e; cases e), fun _ => .inl ⟨upd_me, hJ2, ?_⟩⟩
          exact (⟨hp.size, fun j hj _ => hp.block j hj⟩ : KeepsX (OwnG n₀ b) w5 W1).trans (hK2.more (fun j hj => ⟨(HX.out j hj).1, (HX.out j hj).2.1⟩))
        · exact ⟨_, rfl, (fun e => by rw [zAj] at e; cases e), fun _ => .inr ⟨upd_me, hx2⟩⟩
      simp only [Act.put, zza, zzb, zzc]; refine' R7.WalkR.fn 22 notV (fun _ => rfl) (by decide +kernel) (fun D ρ W1 hK hC => R7.givesF.of (fun c h => by cases h) ?_) ?_
      · have hpo := hC.post (hK.pre 8 (by decide +kernel))
        have HC1 := zzh hC; clear hC hK; rcases hpo with ⟨hv, -⟩ | ⟨hv, -⟩
        · go_simp
          first | exact HC1.out.move (by decide) | exact ⟨rfl, HC1.out.move (by decide)⟩
        · go_simp
          first | exact HC1.out.move (by decide) | exact ⟨rfl, HC1.out.move (by decide)⟩
      simp only [Act.put, zza, zzb, zzc]; refine' R7.WalkR.fn 22 notV (fun _ => rfl) (by decide +kernel) (fun D ρ W1 hK hC => R7.givesF.of (fun c h => by cases h) ?_) ?_
      · have hpo := hC.post (hK.pre 8 (by decide +kernel))
        have HC1 := zzh hC; clear hC hK; rcases hpo with ⟨hv, -⟩ | ⟨hv, -⟩
        · go_simp
          first | exact HC1.out.move (by decide) | exact ⟨rfl, HC1.out.move (by decide)⟩
        · go_simp
          first | exact HC1.out.move (by decide) | exact ⟨rfl, HC1.out.move (by decide)⟩
      simp only [Act.put, zza, zzb, zzc]; refine R7.WalkR.nil (fun D ρ W6 hD hC => ?_)
      rcases hC.post (hD 8 (by omega)) with ⟨hv, hJ6, hK6⟩ | ⟨hv, hx6⟩
      · have H6 := zz2 hJ6 ((hKm.out.trans (⟨H5.out.1.size, fun j hj _ => H5.out.1.block j hj⟩ : KeepsX (OwnG n₀ b) wr w5)).trans hK6)
        simp only [hv, notV]; clear hC hD hJ6 hK6 hv
        gi_wp2_with fail
        case roundEnd =>
         go_roundw
         case rel => exact ⟨m + 1, by omega, by go_num, by rw [HST.out]; exact H6.out.1, H6.out.2⟩
         case measure => simp [intOf] <;> omega
      · have H6 := zzh hx6; simp only [hv, notV]; clear hC hD hx6 hv
        gi_wp2_with fail
        refine bodyPost_ret (results_none rfl _ _ _) rfl ?_; exact ⟨⟨_, rfl⟩, .inr ⟨cnt m, hat'.out.2, H6.out⟩⟩
    · rw [if_neg he, Nat.add_zero] at hst; have HST := zzh hst; have hne : ¬ ((gOf gs y : Nat) : Int) = (gr : Int) := by omega
      have hnd : (((gOf gs y : Nat) : Int) == (gr : Int)) = false := by simpa using hne
      generalize ((gOf gs y : Nat) : Int) = q at HG hne hnd; have HND := zzh hnd; clear hat hst he hcl hne hnd
      gi_wp2_with (first
       | (show wpListIn _ _ _ _ _ (Oper.mk (some 13) _ _ _ _ _ :: _) _ _; refine zCu 56 (.tmp 12) rfl rfl rfl (pcl y) HCC.out zAl ?_)
       | (show wpListIn _ _ _ _ _ (Oper.mk none (Op.store _ (Operand.tmp 5) (Operand.tmp 13)) _ _ _ _ :: _) _ _; refine zAi 56 (.tmp 5) (.tmp 13) rfl rfl rfl rfl (zAd wr _) rfl (by rw [List.all_toArray, List.all_eq_true]; exact fun v hv => zBd [y] v (by simpa using hv)) zAl ?_
          intro w5 hP5 hM5; have hb5 : Grows wr w5 := (grow1 wr _).trans (hP5.below (Nat.le_refl _)); have H5 := zz5 hb5 hM5 (HJ.out.1 _ _ _ hJm.out (hb5.mono HG.out.2.2.2)) ((hb5.block _ (zAa HG.out.2.1)).trans HG.out.2.1) ((hb5.block _ (zAa HG.out.2.2.1)).trans HG.out.2.2.1); clear hP5 hM5 hb5))
      refine R7.wpIn_walk (fun _ => trivial) (C := BoxM w5 [] [] (fun _ => [])) 26 (by kernel_rfl) (by kernel_rfl) rfl (BoxM.start (Below.refl _ _) trivial (fun _ => rfl)) ?_
      simp only []; refine' R7.WalkR.det (fun _ => rfl) (fun D ρ W1 hK hC => R7.givesF.of (fun c h => by cases h) ?_) ?_
      rotate_left
      · exact zAk 119 (.tmp 1) rfl rfl ((hC.bel.block _ (zAa H5.out.2.2.2.1)).trans H5.out.2.2.2.1) [.slice (some ⟨c, off, none⟩) ps.length cp, .slice AT nt ct, .slice AG gs.length cg, .int .i64 vary] at0 zA4 ⟨rfl, hC.move (by decide)⟩
      simp only [Act.put, zza, zzb, zzc]; refine' R7.WalkR.det (fun _ => rfl) (fun D ρ W1 hK hC => R7.givesF.of (fun c h => by cases h) ?_) ?_
      rotate_left
      · exact zAk 56 (.tmp 5) rfl rfl ((hC.bel.block _ (zAa H5.out.2.1)).trans H5.out.2.1) (pcl y) at0 zAl ⟨rfl, hC.move (by decide)⟩
      simp only [Act.put, zza, zzb, zzc]
      repeat (first
       | (refine R7.WalkR.un (fun _ => rfl) (fun D ρ W1 hK hC => hC.move (by decide)) ?_
          simp only [Act.put, zza, zzb, zzc])
       | (refine' R7.WalkR.det (fun _ => rfl) (fun D ρ W1 hK hC => R7.givesF.of (fun c h => by cases h) ?_) ?_
          rotate_left
          · have f1 : W1.cell? ⟨b + 1, 0, none⟩ = some (.int .i64 (gr : Int)) := cell_of_row W1 _ 0 _ _ _ ((hC.bel.block _ (zAa H5.out.2.2.2.2)).trans H5.out.2.2.2.2); have n1 := HND.out; have HC1 := zzh hC; clear hC hK; go_simp
            first
             | with_reducible exact ⟨rfl, HC1.out.move (by decide)⟩
             | (go_at_call 55; refine (HG.out.1 W1 (H5.out.1.trans (HC1.out.bel.mono H5.out.1.size))).mono ?_; rintro e W2 ⟨rfl, hB2⟩; exact ⟨_, rfl, rfl, (HC1.out.next hB2).move (by decide)⟩)
          simp only [Act.put, zza, zzb, zzc]))
      refine R7.WalkR.nil (fun D ρ W6 hD hC => ?_)
      have hb6 : Grows wr W6 := H5.out.1.trans (hC.bel.mono H5.out.1.size); have H6 := zz2 (HJ.out.1 _ _ _ hJm.out (hb6.mono HG.out.2.2.2)) (hKm.out.trans (⟨hb6.size, fun j hj _ => hb6.block j hj⟩ : KeepsX (OwnG n₀ b) wr W6))
      clear hC hD hb6
      gi_wp2_with fail
      case roundEnd =>
       go_roundw
       case rel => exact ⟨m + 1, by omega, by go_num, by rw [HST.out]; exact H6.out.1, H6.out.2⟩
       case measure => simp [intOf] <;> omega
  · have hme : m = ps.length := by omega
    have hmz : ¬ (m : Int) < ps.length := by omega
    have HM := zzh hme; clear hme
    gi_wp2_with fail
    go_end0
    exact ⟨⟨_, rfl⟩, .inl (by rw [HC.out.1, ← HM.out]; exact hJm.out)⟩
end Go.Proofs.YtnjgibbfcigbfaaGreat
namespace Go.Proofs.YtnjgibbfcigbfaaGreat
open Go.RowKit Go.Maps
open R6 (done zAg zAj upd_ne upd_me)
theorem keyI5 : Maps.Keyed Tryz.prog 3 := Maps.int_keyed Tryz.underlying3
def rdE (v : Value) : Option (DataW Value × List MemPlace) := some (.held v, [])
def zst : Value := .agg (st6 fun _ => (0, 0)).toArray
theorem zeroSt (w : World) : (zeroValue 128).run Tryz.prog w = .ok zst w := by kernel_rfl
theorem zOv : (Tryz.prog.info? 124).map (·.size) = some 1 := by kernel_rfl
def stv6 (f : Nat → Int × Int) : Value := .agg (st6 f).toArray
def MapF (D : DataW Value) (F : Int → Nat → Int × Int) : Prop := ∀ id : Int, D.atKey (.int .i64 id) (.held zst) = .held (stv6 (F id))
def OwnF (W : World) (mb n : Nat) (F : Int → Nat → Int × Int) : Prop := ∃ D : DataW Value, W.ownsMap Tryz.prog 3 rdE mb n D ∧ MapF D F
def updI (F : Int → Nat → Int × Int) (id : Int) (f : Nat → Int × Int) : Int → Nat → Int × Int := fun i => if i = id then f else F i
theorem OwnF.made {W : World} {mb : Nat} (h : W.heap[mb]? = some (.map #[] 0)) : OwnF W mb 0 fun _ _ => (0, 0) := by
 refine ⟨.map [], ⟨#[], 0, h, ?_⟩, fun id => rfl⟩
 have := World.ownsMap_made (H := Value) W Tryz.prog 3 rdE; obtain ⟨es, cl, hb, r⟩ := this; rw [World.alloc_heap_new] at hb; simp only [Option.some.injEq, Obj.map.injEq] at hb; obtain ⟨rfl, rfl⟩ := hb; exact r
theorem OwnF.block {W W' : World} {mb n : Nat} {F : Int → Nat → Int × Int} (h : OwnF W mb n F) (e : W'.heap[mb]? = W.heap[mb]?) : OwnF W' mb n F := by
 obtain ⟨D, h1, h2⟩ := h; refine ⟨D, ?_, h2⟩; unfold World.ownsMap at h1 ⊢; rw [e]; exact h1
theorem OwnF.lt {W : World} {mb n : Nat} {F : Int → Nat → Int × Int} (h : OwnF W mb n F) : mb < W.heap.size := let ⟨_, h1, _⟩ := h; h1.lt
theorem OwnF.mono {W : World} {mb n m : Nat} {F : Int → Nat → Int × Int} (h : OwnF W mb n F) (hn : n ≤ m) : OwnF W mb m F := let ⟨D, h1, h2⟩ := h; ⟨D, h1.mono hn, h2⟩
def idOk (i : Int) : Prop := -9223372036854775808 ≤ i ∧ i ≤ 9223372036854775807
section
variable {op : Oper} {a : Act} {w : World} {R : Value → World → Prop} {M n : Nat} {F : Int → Nat → Int × Int}
theorem zEh (m x : Operand) (hop : op.op = Op.lookup 124 m x false) (hm : a.eval m = .map (some M)) (hO : OwnF w M n F) {id : Int} (hid : idOk id) (hx : a.eval x = .int .i64 id) (h : R (stv6 (F id)) w) : gives Tryz.prog op a w R := by
 obtain ⟨D, h1, h2⟩ := hO; obtain ⟨v, ps, hrun, hv⟩ := h1.lookup keyI5 Tryz.underlying124 (zeroSt w) (zd := .held zst) (zp := []) rfl (Maps.keyOf_int_mk Tryz.underlying3 (WalkArith.wf_i64 hid)); simp only [rdE, Option.some.injEq, Prod.mk.injEq, h2 id, DataW.held.injEq] at hv; rw [hv.1] at hrun; unfold gives; simp [execOp, hop, hm, hx, hrun, Result.andThen]
 exact h
theorem zJs (m x v : Operand) (hop : op.op = Op.mapUpdate 124 m x v) (hm : a.eval m = .map (some M)) (hO : OwnF w M n F) (hn : n < maxLen) {id : Int} (hid : idOk id) (hx : a.eval x = .int .i64 id) {f : Nat → Int × Int} (hv : a.eval v = stv6 f)
 (h : ∀ w', OwnF w' M (n + 1) (updI F id f) → w.grownBy w' (some M) → R undef w') : gives Tryz.prog op a w R := by
 obtain ⟨D, h1, h2⟩ := hO; have hkey := Maps.keyOf_int_mk Tryz.underlying3 (WalkArith.wf_i64 hid); obtain ⟨w', hrun, r1, r2⟩ := h1.update keyI5 Tryz.underlying124 hn hkey (val := stv6 f) (d := .held (stv6 f)) (ps := []) rfl; unfold gives; simp [execOp, hop, hm, hx, hv, hrun, Result.andThen]
 refine h w' ⟨_, r1, fun i => ?_⟩ r2
 unfold updI
 by_cases e : i = id
 · subst e; rw [if_pos rfl]; exact atKey_put_same h1.isMap (keyI5.key hkey) _ _
 · rw [if_neg e, atKey_put_other (fun h => e (by injection h))]
   exact h2 i
end
def Coll (lo hi : Nat) : List Deferred → World → Prop
 | [], _ => True
 | d :: ds, w => (∃ D, d = { target := .collected D, args := #[] } ∧ lo ≤ D ∧ D < hi ∧ w.heap[D]? = some (.deferred (some [])) ∧ ∀ d' ∈ ds, d'.target ≠ .collected D) ∧ Coll lo hi ds w
theorem Coll.hi {lo hi hi' : Nat} (hh : hi ≤ hi') : ∀ {ds : List Deferred} {w : World}, Coll lo hi ds w → Coll lo hi' ds w
 | [], _, _ => trivial
 | _ :: _, _, ⟨⟨D, h1, h2, h3, h4⟩, h5⟩ => ⟨⟨D, h1, h2, by omega, h4⟩, Coll.hi hh h5⟩
theorem Coll.same {lo hi : Nat} {w w' : World} (hk : ∀ k, lo ≤ k → k < hi → (∃ ds, w.heap[k]? = some (.deferred ds)) → w'.heap[k]? = w.heap[k]?) : ∀ {ds : List Deferred}, Coll lo hi ds w → Coll lo hi ds w'
 | [], _ => trivial
 | _ :: _, ⟨⟨D, h1, h2, h3, h4, h5⟩, h6⟩ => ⟨⟨D, h1, h2, h3, (hk D h2 h3 ⟨_, h4⟩).trans h4, h5⟩, Coll.same hk h6⟩
theorem Coll.tgt {lo hi : Nat} {w : World} : ∀ {ds : List Deferred}, Coll lo hi ds w → ∀ d ∈ ds, ∃ D, d.target = .collected D ∧ D < hi
 | [], _, _, h => by cases h
 | _ :: _, ⟨⟨D, h1, _, h3, _⟩, h6⟩, d, hd => by
   rcases List.mem_cons.1 hd with rfl | hd
   · exact ⟨D, by rw [h1], h3⟩
   · exact Coll.tgt h6 d hd
theorem Coll.push {lo hi D : Nat} {w : World} {ds : List Deferred} (h : Coll lo hi ds w) (hlo : lo ≤ D) (hD : hi ≤ D) (hw : w.heap[D]? = some (.deferred (some []))) : Coll lo (D + 1) ({ target := .collected D, args := #[] } :: ds) w :=
 ⟨⟨D, rfl, hlo, by omega, hw, fun d' hd' e => by
   obtain ⟨D', h1, h2⟩ := h.tgt d' hd'; rw [h1] at e; simp only [Target.collected.injEq] at e; omega⟩, h.hi (by omega)⟩
theorem Coll.gone {lo hi D : Nat} {w : World} : ∀ {ds : List Deferred}, (∀ d' ∈ ds, d'.target ≠ .collected D) → Coll lo hi ds w → Coll lo hi ds (w.putObj D (.deferred none))
 | [], _, _ => trivial
 | e :: _, h5, ⟨⟨E, g1, g2, g3, g4, g5⟩, g6⟩ =>
   ⟨⟨E, g1, g2, g3, (World.putObj_heap_other (fun q => h5 e (List.mem_cons_self ..) (by rw [g1, q]))).trans g4, g5⟩, Coll.gone (fun d' hd' => h5 d' (List.mem_cons_of_mem _ hd')) g6⟩
theorem zIp {F : Fence} {n : Nat} {P : Program} {fn : Func} {tmps : Array Value} {R : Ending → World → Prop} {lo hi : Nat} : ∀ (ds : List Deferred) (w : World), Coll lo hi ds w → (∀ w', Below lo w w' → LeavesIn F n P fn tmps R [] .returning w') → LeavesInM F n P fn tmps R ds .returning w
 | [], w, _, h => h w (Below.refl _ _)
 | d :: ds, w, ⟨⟨D, h1, h2, h3, h4, h5⟩, h6⟩, h => by
   refine ⟨by simp, .inl ⟨D, _, by rw [h1], run_takeDeferred h4, ?_⟩⟩
   have hb : Below lo w (w.putObj D (.deferred none)) := zBg (Below.refl _ _) h2 _; exact zIp (hi := hi) ds _ (Coll.gone h5 h6) (fun w' hw' => h w' (hb.trans hw'))
section
variable {F : Fence} {n : Nat} {P : Program}
theorem zIq {g : Operand} {p q : Nat} {assign body : Code} {Q : Exit → Act → World → Prop} {a : Act} {w : World}
 (hro : F.round = none) (h1 : 1 ≤ n) {gf : Nat} {lb : Array Value} (hg : a.eval g = .func (.func gf) #[] lb) (hFg : F.fn gf) (eg : ∀ args w, (callFunc gf args).run P w = .ok (.enter gf args) w)
 {all : List (Array Value)} {n₀ : Nat} {Cap : Nat → Prop} {w0 : World} (hseq : SeqP F (n - 1) P gf lb all n₀ Cap w0) (hb0 : Grows w0 w) (hn₀ : n₀ ≤ w.heap.size) (hCap : ∀ k, Cap k → k < w.heap.size)
 (vl : Nat → Value) (Bx : Nat → Obj) (hrow : ∀ k r, all[k]? = some r → r = #[vl k])
 (X : Nat → Prop) (hX : ∀ k, X k → n₀ ≤ k ∧ ¬ Cap k ∧ k < w.heap.size)
 (I : Nat → World → Prop) (hI : ∀ k A B, I k A → Below w.heap.size A B → I k B) (h0 : I 0 w)
 (hassign : ∀ (l k : Nat) (W : World) (K : Act → World → Prop), k < all.length → I k W → (∀ b' W', Grows W W' → W.heap.size ≤ b' → W'.heap[b']? = some (Bx k) → K { tmps := (a.tmps.setIfInBounds p (vl k)).setIfInBounds q (.pointer (some ⟨b', 0, none⟩)), defers := [] } W') →
   assign.wpIn (F.inRound l) (n - 1 - 1) P (Exit.then K (fun _ _ _ => False)) { tmps := a.tmps.setIfInBounds p (vl k), defers := [] } W)
 (hbody : ∀ (l k b b' : Nat) (W : World), k < all.length → w.heap.size ≤ b → b ≤ b' → b ≤ W.heap.size → I k W → W.heap[b']? = some (Bx k) →
   body.wpIn (F.inRound l) (n - 1 - 1) P (postX (fun j => X j ∨ b ≤ j) (I (k + 1)) (fun _ _ => False) W) { tmps := (a.tmps.setIfInBounds p (vl k)).setIfInBounds q (.pointer (some ⟨b', 0, none⟩)), defers := [] } W)
 (hdone : ∀ (D : Nat) (W : World), D = w.heap.size → I all.length W → W.heap[D]? = some (.deferred (some [])) → Q .normal { a with defers := { target := .collected D, args := #[] } :: a.defers } W) :
 (Code.rangeFunc g #[p] assign body).wpIn F n P Q a w := by
 refine zEz hro h1 hg hFg eg hseq hb0 hn₀ hCap (fun r hr => ?_) X hX I (fun _ _ _ => False) hI (fun _ _ _ _ h _ => h) h0
  (fun k b a' A' => ∃ b', b ≤ b' ∧ A'.heap[b']? = some (Bx k) ∧ a' = { tmps := (a.tmps.setIfInBounds p (vl k)).setIfInBounds q (.pointer (some ⟨b', 0, none⟩)), defers := [] })
  (fun k b a' A B hx hj => let ⟨b', hb, hc, ha⟩ := hx; ⟨b', hb, (hj b' hb).trans hc, ha⟩) ?_ ?_ hdone (fun D c k W _ _ h => h.elim)
 · obtain ⟨k, hk⟩ := List.getElem?_of_mem hr; rw [hrow k r hk]
   rfl
 · intro l k r W K hr hi hK; rw [hrow k r hr]; have e : (#[p].zip #[vl k]).foldl (fun t (x : Nat × Value) => t.setIfInBounds x.1 x.2) a.tmps = a.tmps.setIfInBounds p (vl k) := by simp
   have e2 := hassign l k W K (List.getElem?_eq_some_iff.1 hr).1 hi (fun b' W' h1 h2 h3 => hK _ _ h1 ⟨b', h2, h3, rfl⟩)
   rw [← e] at e2; exact e2
 · rintro l k b r a' W hr hwb hbW hi ⟨b', hbb, hc, rfl⟩; exact hbody l k b b' W (List.getElem?_eq_some_iff.1 hr).1 hwb hbb hbW hi hc
end
theorem zMg {p : Pol} {g : Gd} {ts : List Ts} {k : Nat} (hs : okSecs p = true) (ht : ∀ t ∈ ts, okT t) (h1 : 1 ≤ (st0 g k).1 ∧ (st0 g k).1 ≤ 200000) (h2 : 1 ≤ (st0 g k).2 ∧ (st0 g k).2 ≤ 200000) :
 (1 ≤ (own p g ts k).1 ∧ (own p g ts k).1 ≤ 1000000000) ∧ (0 ≤ (own p g ts k).2 ∧ (own p g ts k).2 ≤ 200000) := by
 have key : ∀ (us : List Ts) (s : Int × Int), (∀ t ∈ us, okT t) → (1 ≤ s.1 ∧ s.1 ≤ 1000000000) → (0 ≤ s.2 ∧ s.2 ≤ 200000) → (1 ≤ (us.foldl (own1 p k) s).1 ∧ (us.foldl (own1 p k) s).1 ≤ 1000000000) ∧ (0 ≤ (us.foldl (own1 p k) s).2 ∧ (us.foldl (own1 p k) s).2 ≤ 200000) := by
  intro us
  induction us with
  | nil => intro s _ a b; exact ⟨a, b⟩
  | cons t us ih =>
    intro s hu a b; have hn := zLf (zN3 hs k).1 (hu t (List.mem_cons_self ..)).2.1 (hu t (List.mem_cons_self ..)).2.2; rw [List.foldl_cons]; refine ih _ (fun t' ht' => hu t' (List.mem_cons_of_mem _ ht')) ?_ ?_
    · unfold own1; split
      · split <;> simp only <;> omega
      · exact a
    · unfold own1; split
      · split <;> simp only <;> omega
      · exact b
 exact key ts _ ht ⟨h1.1, by omega⟩ ⟨by omega, h2.2⟩
def okG2 (g : Gd) : Prop := ∀ k, k < 3 → (1 ≤ (st0 g k).1 ∧ (st0 g k).1 ≤ 200000) ∧ (1 ≤ (st0 g k).2 ∧ (st0 g k).2 ≤ 200000)
theorem okG2.g {g : Gd} (h : okG2 g) : okG g := fun k hk => ⟨(h k hk).1.1, (h k hk).2.2⟩
theorem zQr (g : Gd) (vary : Int) (ts : List Ts) (l : List Pol) (k : Nat) (hk : k < l.length) : (fun s => nearG g vary ts (l.take (k + 1)) s) = fun s => cut1 (nearG g vary ts (l.take k) s) (wid1 vary (own l[k] g ts s)) := by
 funext s
 unfold nearG; rw [List.take_add_one, List.getElem?_eq_getElem hk, List.foldl_append]
 rfl
def okL (gs : List Gd) (vary : Int) (ps : List Pol) (ts : List Ts) (q : Pol) : Bool := (List.range 3).all fun k => decide ((spanT gs vary ps ts q k).1 ≤ (spanT gs vary ps ts q k).2)
def okI (gs : List Gd) (vary : Int) (ps : List Pol) (ts : List Ts) : Nat → Bool
 | 0 => true
 | i + 1 => okI gs vary ps ts i && (peers gs ps (i + 1)).all (okL gs vary ps ts)
theorem zT2 {gs : List Gd} {vary : Int} {ps : List Pol} {ts : List Ts} : ∀ i, okI gs vary ps ts i = true ↔ ∀ p ∈ ps, gOf gs p ≠ 0 → gOf gs p ≤ i → okL gs vary ps ts p = true
 | 0 => by simp only [okI, true_iff]; intro p _ h1 h2; omega
 | i + 1 => by
   simp only [okI, Bool.and_eq_true, zT2 i, List.all_eq_true]
   constructor
   · rintro ⟨h1, h2⟩ p hp h3 h4
     by_cases e : gOf gs p = i + 1
     · exact h2 p (mem_peers.2 ⟨hp, e⟩)
     · exact h1 p hp h3 (by omega)
   · intro h; exact ⟨fun p hp h3 h4 => h p hp h3 (by omega), fun p hp => h p (mem_peers.1 hp).1 (by rw [(mem_peers.1 hp).2]; omega) (by rw [(mem_peers.1 hp).2]; omega)⟩
theorem zT3 {gs : List Gd} {vary : Int} {ps : List Pol} {ts : List Ts} (hv : 0 ≤ vary) : okI gs vary ps ts gs.length = truth gs vary ps ts := by
 rw [zJb hv, Bool.eq_iff_iff, zT2]; unfold zJ3; simp only [List.all_eq_true, Bool.or_eq_true, beq_iff_eq]
 constructor
 · intro h p hp
   by_cases e : gOf gs p = 0
   · exact .inl e
   · exact .inr (by have := h p hp e (zRk gs p); unfold okL at this; simpa using this)
 · intro h p hp e _; rcases h p hp with h1 | h1
   · exact absurd h1 e
   · unfold okL; simpa using h1
theorem zIr {gs : List Gd} {ps : List Pol} {i : Nat} (hi : i < gs.length) {q : Pol} (hq : q ∈ peers gs ps (i + 1)) : gAt gs q = gs[i] := by
 rw [zUk hq]; simp [hi]
theorem zT4 {gs : List Gd} {vary : Int} {ps : List Pol} {ts : List Ts} {i : Nat} (hi : i < gs.length) {q : Pol} (hq : q ∈ peers gs ps (i + 1)) : (fun k => leftG gs[i] vary ts (peers gs ps (i + 1)) k q) = fun k => spanT gs vary ps ts q k := by
 funext k
 have e := (mem_peers.1 hq).2
 have := zPd (gs := gs) (vary := vary) (ps := ps) (ts := ts) (p := q) (k := k) (g := gs[i]) (by rw [e]; exact fun r hr => zIr hi hr) (zIr hi hq)
 rwa [e] at this
def Up (ps : List Pol) : Prop := ps.Pairwise fun p q => p.id < q.id
theorem zOw (ok : Pol → Bool) : ∀ (ps : List Pol) (n : Int), byIdL Pol.id ok ps n = true → Up ps ∧ ∀ p ∈ ps, n ≤ p.id ∧ p.id ≤ 9999 ∧ ok p = true
 | [], _, _ => ⟨.nil, fun _ h => by cases h⟩
 | p :: ps, n, h => by
   simp only [byIdL, Bool.and_eq_true, inR_iff] at h; obtain ⟨⟨h1, h2⟩, h3, h4⟩ := h; obtain ⟨i1, i2⟩ := zOw ok ps _ h4; refine ⟨.cons (fun q hq => ?_) i1, fun q hq => ?_⟩
   · have := (i2 q hq).1; omega
   · rcases List.mem_cons.1 hq with rfl | hq
     · exact ⟨h1, h2, h3⟩
     · have := i2 q hq; exact ⟨by omega, this.2.1, this.2.2⟩
theorem Up.peers {gs : List Gd} {ps : List Pol} {n : Nat} (h : Up ps) : Up (peers gs ps n) := h.filter _
theorem Up.ne {l : List Pol} (h : Up l) {i j : Nat} (hi : i < l.length) (hj : j < l.length) (hij : i ≠ j) : l[i].id ≠ l[j].id := by
 rcases Nat.lt_or_gt_of_ne hij with h1 | h1
 · have := List.pairwise_iff_getElem.1 h i j hi hj h1; omega
 · have := List.pairwise_iff_getElem.1 h j i hj hi h1; omega
theorem Up.inj {l : List Pol} (h : Up l) {p q : Pol} (hp : p ∈ l) (hq : q ∈ l) (e : p.id = q.id) : p = q := by
 obtain ⟨i, hi, rfl⟩ := List.mem_iff_getElem.1 hp; obtain ⟨j, hj, rfl⟩ := List.mem_iff_getElem.1 hq
 by_cases hij : i = j
 · subst hij; rfl
 · exact absurd e (h.ne hi hj hij)
end Go.Proofs.YtnjgibbfcigbfaaGreat
namespace Go.Proofs.YtnjgibbfcigbfaaGreat
open Go.RowKit Go.Maps
open R6 (done zAg zAj upd_ne upd_me)
attribute [local go_sem] gives
section
variable {F : Fence} {n : Nat} {P : Program} {ops : Array Oper} {rest : List Oper} {op : Oper} {a : Act} {w : World} {Q : Exit → Act → World → Prop}
theorem zB7 (ty : TypeId) (x y : Operand) (hgd : op.guard = none) (ho : op.op = .store ty x y) (hd : op.dst = none) {b o : Nat} (hx : a.eval x = .pointer (some ⟨b, o, none⟩)) {v : Value} (hy : a.eval y = v) (hv : v.cells = #[v]) (h1 : v.oneCell' = true)
 {L : List Value} {t : TypeId} (hb : w.heap[b]? = some (.cells L.toArray t (0, 0))) (hfit : o < L.length) (hty : (P.info? ty).map (·.size) = some 1)
 (h : ∀ w', Put w w' b → w'.heap[b]? = some (.cells (L.set o v).toArray t (0, 0)) → wpListIn F n P ops Q rest a w') : wpListIn F n P ops Q (op :: rest) a w := by
 refine wpListIn_plain hgd fun K hK => ?_
 have hrun := zBv (P := P) (v := v) hb hfit hv h1 hty; unfold Oper.wpIn; refine ⟨by simp [Oper.about, ho], ?_⟩
 rw [Oper.semAt_plain F _ _ (by rw [ho]; intro c hc'; cases hc')]
 unfold execOp; simp only [ho, hx, hy, Sem.run_bind, Sem.run_pure, hrun, Result.andThen_ok]; refine hK _ _ ?_; rw [hd]; refine h _ (zBl b [v] o w) ?_
 have := heap_setCell_same w b o _ _ v hb
 rwa [zza] at this
theorem zI3 {l m : Nat} (hw : Region.wanted op (yielded ops a.tmps) = true) (hnd : ∀ c, op.op ≠ .defer c) {R : Value → World → Prop} (h : gives P op a w R)
 (hK : ∀ v w', R v w' → wpListIn (Fence.wide.inRound l) m P ops Q rest (a.put op.dst v) w') : wpListIn (Fence.wide.inRound l) m P ops Q (op :: rest) a w :=
 wpListIn_step fun K hKK => by
  rw [if_pos hw]; exact zJj (K := K) l m hnd (h.wp rfl (fun v w' hr => hKK _ _ (hK v w' hr))) (fun _ _ h => h)
end
theorem zEi {B B' : Nat} {a b : World} (h : Below B a b) (hB : B' ≤ B) : Below B' a b := ⟨h.os, h.tape, h.output, h.size, fun k hk => h.block k (by omega)⟩
theorem zF0 (v0 v1 v2 v3 : Value) (h0 : v0.oneCell' = true) (gr : Int) (w : World) : Calls Tryz.prog 95 #[.agg #[v0, v1, v2, v3], .int .i64 gr] w fun e w' =>
 e = .returned (.func (.func 137) #[] #[.pointer (some ⟨w.heap.size, 0, none⟩), .pointer (some ⟨w.heap.size + 1, 0, none⟩)]) ∧
  w' = (w.alloc (.cells #[v0, v1, v2, v3] 119)).alloc (.cells #[.int .i64 gr] 3) := by
 clear h0
 go_enter Tryz.func95, Tryz.ntmps95
 go_wp2; go_ret
 exact ⟨rfl, rfl⟩
structure OnceC (w1 : World) (kk : Nat) (PP : World → Prop) (D : Nat → Bool) (σ : Nat → Value) (W : World) : Prop where
 pre : D kk = false → Grows w1 W
 post : D kk = true → PP W
def onceK (kk k : Nat) : Bool := !(k == kk)
section
variable {w1 W W' : World} {kk : Nat} {PP : World → Prop} {D : Nat → Bool} {σ σ' : Nat → Value}
theorem OnceC.move {k : Nat} (h : OnceC w1 kk PP D σ W) (hk : onceK kk k = true) : OnceC w1 kk PP (done D k) σ' W := by
 simp only [onceK, Bool.not_eq_true', beq_eq_false_iff_ne, ne_eq] at hk; have e := zAg (D := D) (k := k) (j := kk) (by omega)
 exact ⟨by rw [e]; exact h.pre, by rw [e]; exact h.post⟩
theorem OnceC.next {k : Nat} (h : OnceC w1 kk PP D σ W) (h0 : D kk = false) (hg : Grows W W') (hk : onceK kk k = true) : OnceC w1 kk PP (done D k) σ' W' := by
 simp only [onceK, Bool.not_eq_true', beq_eq_false_iff_ne, ne_eq] at hk; have e := zAg (D := D) (k := k) (j := kk) (by omega)
 exact ⟨fun _ => (h.pre h0).trans (hg.mono (h.pre h0).size), fun e' => by rw [e, h0] at e'; cases e'⟩
theorem OnceC.fire (hp : PP W') : OnceC w1 kk PP (done D kk) σ' W' := ⟨(fun e => by rw [zAj] at e; cases e), fun _ => hp⟩
end
structure SsC (w : World) (V : Array Value) (A2 : Option Addr) (n2 c2 : Nat) (al : Bool) (ds : List Deferred) (hi n : Nat) (F : Int → Nat → Int × Int) (W : World) : Prop where
 bel : Grows w W
 b2 : W.heap[w.heap.size]? = some (.cells V 119 (0, 0))
 b3 : W.heap[w.heap.size + 1]? = some (.cells #[.slice A2 n2 c2] 23 (0, 0))
 b4 : W.heap[w.heap.size + 1 + 1]? = some (.cells [Value.map (some (w.heap.size + 1 + 1 + 1 + 1))].toArray 124 (0, 0))
 b5 : W.heap[w.heap.size + 1 + 1 + 1]? = some (.cells [Value.bool al].toArray 4 (0, 0))
 map : OwnF W (w.heap.size + 1 + 1 + 1 + 1) n F
 coll : Coll (w.heap.size + 5) hi ds W
 hiw : w.heap.size + 5 ≤ hi ∧ hi ≤ W.heap.size
section
variable {w W W' : World} {V : Array Value} {A2 : Option Addr} {n2 c2 : Nat} {al al' : Bool} {ds : List Deferred} {hi n : Nat} {F F' : Int → Nat → Int × Int}
theorem SsC.below (h : SsC w V A2 n2 c2 al ds hi n F W) {b : Nat} (hb : Below b W W') (hh : hi ≤ b) : SsC w V A2 n2 c2 al ds hi n F W' := by
 have h1 := h.hiw; exact ⟨h.bel.trans (zEi hb (by omega)), (hb.block _ (by omega)).trans h.b2, (hb.block _ (by omega)).trans h.b3, (hb.block _ (by omega)).trans h.b4, (hb.block _ (by omega)).trans h.b5, h.map.block (hb.block _ (by omega)), h.coll.same (fun k _ hk _ => hb.block k (by omega)), h1.1, Nat.le_trans h1.2 hb.size⟩
theorem SsC.grows (h : SsC w V A2 n2 c2 al ds hi n F W) (hb : Grows W W') : SsC w V A2 n2 c2 al ds hi n F W' := h.below hb h.hiw.2
theorem SsC.put (h : SsC w V A2 n2 c2 al ds hi n F W) {b : Nat} (hP : Put W W' b) (hb : w.heap.size + 5 ≤ b) {cs : Array Value} {t : TypeId} {fr : Nat × Nat} (hc : W.heap[b]? = some (.cells cs t fr)) : SsC w V A2 n2 c2 al ds hi n F W' := by
 have h1 := h.hiw; refine ⟨h.bel.trans (hP.below (by omega)), (hP.other _ (by omega)).trans h.b2, (hP.other _ (by omega)).trans h.b3, (hP.other _ (by omega)).trans h.b4, (hP.other _ (by omega)).trans h.b5, h.map.block (hP.other _ (by omega)), h.coll.same (fun k _ _ hk => hP.other k (fun e => ?_)), h1.1, by rw [hP.size]; exact h1.2⟩
 obtain ⟨ds', hd⟩ := hk; rw [e, hc] at hd; cases hd
theorem SsC.put5 (h : SsC w V A2 n2 c2 al ds hi n F W) (hP : Put W W' (w.heap.size + 1 + 1 + 1)) (hc : W'.heap[w.heap.size + 1 + 1 + 1]? = some (.cells [Value.bool al'].toArray 4 (0, 0))) : SsC w V A2 n2 c2 al' ds hi n F W' := by
 have h1 := h.hiw; exact ⟨h.bel.trans (hP.below (by omega)), (hP.other _ (by omega)).trans h.b2, (hP.other _ (by omega)).trans h.b3, (hP.other _ (by omega)).trans h.b4, hc, h.map.block (hP.other _ (by omega)), h.coll.same (fun k hk _ _ => hP.other k (by omega)), h1.1, by rw [hP.size]; exact h1.2⟩
theorem SsC.put4 (h : SsC w V A2 n2 c2 al ds hi n F W) (hP : Put W W' (w.heap.size + 1 + 1)) (hc : W'.heap[w.heap.size + 1 + 1]? = some (.cells [Value.map (some (w.heap.size + 1 + 1 + 1 + 1))].toArray 124 (0, 0))) : SsC w V A2 n2 c2 al ds hi n F W' := by
 have h1 := h.hiw; exact ⟨h.bel.trans (hP.below (by omega)), (hP.other _ (by omega)).trans h.b2, (hP.other _ (by omega)).trans h.b3, hc, (hP.other _ (by omega)).trans h.b5, h.map.block (hP.other _ (by omega)), h.coll.same (fun k hk _ _ => hP.other k (by omega)), h1.1, by rw [hP.size]; exact h1.2⟩
theorem SsC.keep (h : SsC w V A2 n2 c2 al ds hi n F W) {m : Nat} (hg : W.grownBy W' (some (w.heap.size + 1 + 1 + 1 + 1))) (hO : OwnF W' (w.heap.size + 1 + 1 + 1 + 1) m F') : SsC w V A2 n2 c2 al ds hi m F' W' := by
 have h1 := h.hiw
 exact ⟨h.bel.grown hg h.bel.size (fun g e => by cases e; omega), (hg.block _ (by omega) (by simp; try omega)).trans h.b2, (hg.block _ (by omega) (by simp; try omega)).trans h.b3, (hg.block _ (by omega) (by simp; try omega)).trans h.b4, (hg.block _ (by omega) (by simp)).trans h.b5, hO,
  h.coll.same (fun k hk hk2 _ => hg.block k (by omega) (by simp; omega)), h1.1, Nat.le_trans h1.2 hg.size⟩
theorem SsC.push (h : SsC w V A2 n2 c2 al ds hi n F W) {D : Nat} (hD : hi ≤ D) (hw : W.heap[D]? = some (.deferred (some []))) : SsC w V A2 n2 c2 al ({ target := .collected D, args := #[] } :: ds) (D + 1) n F W :=
 ⟨h.bel, h.b2, h.b3, h.b4, h.b5, h.map, h.coll.push (by have := h.hiw; omega) hD hw, by have := h.hiw; omega, zAa hw⟩
theorem SsC.up (h : SsC w V A2 n2 c2 al ds hi n F W) {hi' m : Nat} (hh : hi ≤ hi') (hw : hi' ≤ W.heap.size) (hm : n ≤ m) : SsC w V A2 n2 c2 al ds hi' m F W :=
 ⟨h.bel, h.b2, h.b3, h.b4, h.b5, h.map.mono hm, h.coll.hi hh, by have := h.hiw; omega, hw⟩
end
theorem zGy {X : Nat → Prop} {W W' : World} {b : Nat} (hg : W.grownBy W' (some b)) (hb : X b) : KeepsX X W W' := ⟨hg.size, fun j hj hx => hg.block j hj (fun e => by simp only [Option.some.injEq] at e; subst e; exact hx hb)⟩
theorem zDa {X : Nat → Prop} {W W' : World} (hg : Grows W W') : KeepsX X W W' := ⟨hg.size, fun j hj _ => hg.block j hj⟩
end Go.Proofs.YtnjgibbfcigbfaaGreat
