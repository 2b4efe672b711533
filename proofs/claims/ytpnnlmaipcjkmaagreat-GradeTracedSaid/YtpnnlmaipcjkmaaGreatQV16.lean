/-
  Stresses by grades and tests (the program's): the walk.
-/
import Derived.TacticsInMore
import Derived.LoopNIn
import Derived.LoopIn
import Derived.Test.YtpnnlmaipcjkmaaGreatQV14
import Derived.Test.YtpnnlmaipcjkmaaGreatQV15
import Derived.Maps.OwnSet
import Derived.RangeFuncBound
import Derived.RangeFuncCalls
import Derived.Shelf.Abstract
set_option linter.all false
namespace Go.Proofs.YtpnnlmaipcjkmaaGreat
open Go.RowKit
open R6 (done done_ne done_me upd_ne upd_me)

attribute [local go_sem] Oper.semAt_some
attribute [local go_sem] gives

theorem vals_same {w w' : World} {B : Nat} {A : Option Addr} {vs : List Value} (h : Vals w B A vs) (hk : ∀ k, k < B → w'.heap[k]? = w.heap[k]?) : Vals w' B A vs :=
  fun hl => let ⟨b, off, e, hb, hc⟩ := h hl; ⟨b, off, e, hb, fun k v hv => (World.cell?_of_block (w := w) (hk b hb)).trans (hc k v hv)⟩
theorem GdAt.same {w w' : World} {B : Nat} {gs : List Gd} {AG : Option Addr} (h : GdAt w B gs AG) (hk : ∀ k, k < B → w'.heap[k]? = w.heap[k]?) : GdAt w' B gs AG := ⟨vals_same h.g hk, h.lg⟩

def allG (gs : List Gd) (ps : List Pol) (gr : Nat) : List (Array Value) := (peers gs ps gr).map fun p => #[.agg (pcl p).toArray]
def cntG (gs : List Gd) (ps : List Pol) (gr m : Nat) : Nat := (peers gs (ps.take m) gr).length
theorem allG_len (gs : List Gd) (ps : List Pol) (gr : Nat) : (allG gs ps gr).length = cntG gs ps gr ps.length := by simp [allG, cntG]
theorem peers_take_step (gs : List Gd) (ps : List Pol) (gr m : Nat) (hm : m < ps.length) : peers gs (ps.take (m + 1)) gr = peers gs (ps.take m) gr ++ (if gOf gs ps[m] = gr then [ps[m]] else []) := by
  unfold peers
  rw [List.take_add_one, List.getElem?_eq_getElem hm, List.filter_append]
  by_cases h : gOf gs ps[m] = gr <;> simp [h]
theorem cntG_step (gs : List Gd) (ps : List Pol) (gr m : Nat) (hm : m < ps.length) : cntG gs ps gr (m + 1) = cntG gs ps gr m + (if gOf gs ps[m] = gr then 1 else 0) := by
  unfold cntG
  rw [peers_take_step gs ps gr m hm, List.length_append]
  split <;> rfl
theorem peers_pre (gs : List Gd) (ps : List Pol) (gr m : Nat) : ∃ r, peers gs ps gr = peers gs (ps.take m) gr ++ r := ⟨peers gs (ps.drop m) gr, by unfold peers; rw [← List.filter_append, List.take_append_drop]⟩
theorem allG_at (gs : List Gd) (ps : List Pol) (gr m : Nat) (hm : m < ps.length) (h : gOf gs ps[m] = gr) : (allG gs ps gr)[cntG gs ps gr m]? = some #[.agg (pcl ps[m]).toArray] := by
  obtain ⟨r, hr⟩ := peers_pre gs ps gr (m + 1)
  unfold allG cntG
  rw [hr, peers_take_step gs ps gr m hm, if_pos h]
  simp
theorem cntG_lt (gs : List Gd) (ps : List Pol) (gr m : Nat) (hm : m < ps.length) (h : gOf gs ps[m] = gr) : cntG gs ps gr m < (allG gs ps gr).length :=
  (List.getElem?_eq_some_iff.1 (allG_at gs ps gr m hm h)).1

def capG (b : Nat) (k : Nat) : Prop := k = b ∨ k = b + 1
def OwnG (n₀ b : Nat) : Nat → Prop := fun j => n₀ ≤ j ∧ ¬ capG b j
def notV (v : Value) : Value := match v with
  | .bool x => .bool (!x)
  | _ => undef
theorem rowSheetW : RowTy Tryz.prog 119 4 := ⟨⟨_, Tryz.underlying119, rfl⟩, by kernel_rfl⟩

structure OgC (w5 : World) (J' Jx' : World → Prop) (Y : Nat → Prop) (D : Nat → Bool) (σ : Nat → Value) (W : World) : Prop where
  pre : D 8 = false → Below w5.heap.size w5 W
  post : D 8 = true → (σ 22 = .bool true ∧ J' W ∧ KeepsX Y w5 W) ∨ (σ 22 = .bool false ∧ Jx' W)
def ogK (k : Nat) (d : Option Nat) : Bool := !(k == 8 || d == some 22)
section
variable {w5 W W' : World} {J' Jx' : World → Prop} {Y : Nat → Prop} {D : Nat → Bool} {σ : Nat → Value}
theorem OgC.move {k : Nat} {d : Option Nat} {v : Value} (h : OgC w5 J' Jx' Y D σ W) (hk : ogK k d = true) : OgC w5 J' Jx' Y (done D k) (R4.upd σ d v) W := by
  simp only [ogK, Bool.not_eq_true', Bool.or_eq_false_iff, beq_eq_false_iff_ne, ne_eq] at hk
  have e8 := done_ne (D := D) (k := k) (j := 8) (by omega)
  have u1 := upd_ne (ρ := σ) (v := v) hk.2
  exact ⟨by rw [e8]; exact h.pre, by rw [e8, u1]; exact h.post⟩
theorem OgC.next {k : Nat} {d : Option Nat} {v : Value} (h : OgC w5 J' Jx' Y D σ W) (h8 : D 8 = false) (hg : Grows W W') (hk : ogK k d = true) : OgC w5 J' Jx' Y (done D k) (R4.upd σ d v) W' := by
  simp only [ogK, Bool.not_eq_true', Bool.or_eq_false_iff, beq_eq_false_iff_ne, ne_eq] at hk
  have e8 := done_ne (D := D) (k := k) (j := 8) (by omega)
  exact ⟨fun _ => (h.pre h8).trans (hg.mono (h.pre h8).size), fun e => by rw [e8, h8] at e; cases e⟩
end

set_option maxRecDepth 100000 in
set_option maxHeartbeats 8000000 in
theorem ofGrade1 (gs : List Gd) (vary : Int) (ps : List Pol) (AP : Option Addr) (cp : Nat) (AT : Option Addr) (nt ct : Nat) (AG : Option Addr) (cg : Nat) (gr : Nat) (n n₀ b : Nat) (hn : 1 ≤ n) (w : World) (hn₀ : n₀ ≤ w.heap.size) (hnb : n₀ ≤ b) (hb : b + 1 < w.heap.size)
    (hz : Vals w n₀ AP (ps.flatMap pcl)) (hl : ps.length ≤ 1000000) (hg : GdAt w n₀ gs AG) (hy : ∀ p ∈ ps, yrs p) (hgr : gr ≤ 1000)
    (hb0 : w.heap[b]? = some (.cells #[.slice AP ps.length cp, .slice AT nt ct, .slice AG gs.length cg, .int .i64 vary] 119 (0, 0))) (hb1 : w.heap[b + 1]? = some (.cells #[.int .i64 (gr : Int)] 3 (0, 0))) :
    SeqP Fence.wide n Tryz.prog 137 #[.pointer (some ⟨b, 0, none⟩), .pointer (some ⟨b + 1, 0, none⟩)] (allG gs ps gr) n₀ (capG b) w := by
  intro L X J Jx W hW hX hJ hJx hY h0
  have hall := allG_len gs ps gr
  have hat := fun m hm h => allG_at gs ps gr m hm h
  have hlt := fun m hm h => cntG_lt gs ps gr m hm h
  have hcs := fun m hm => cntG_step gs ps gr m hm
  have hc0 : cntG gs ps gr 0 = 0 := by simp [cntG, peers]
  generalize allG gs ps gr = all at *
  generalize cntG gs ps gr = cnt at *
  have hbW := (hW.block b (by omega)).trans hb0
  have hb1W := (hW.block (b + 1) (by omega)).trans hb1
  have hWs : b + 1 < W.heap.size := Nat.lt_of_lt_of_le hb hW.size
  have hnW : n₀ ≤ W.heap.size := Nat.le_trans hn₀ hW.size
  have hlow : ∀ j, j < n₀ → W.heap[j]? = w.heap[j]? := fun j hj => hW.block j (by omega)
  have hcW := fun i => cell_of_row W b i _ _ _ hbW
  have hc00 := hcW 0
  have HY := Lib.hid hY
  have HJ := Lib.hid (And.intro hJ (And.intro hJx h0))
  have HX := Lib.hid hX
  have HC := Lib.hid (And.intro hall (And.intro hat (And.intro hlt (And.intro hcs hc0))))
  have HZ := Lib.hid (And.intro (vals_same hz hlow) (And.intro (hg.same hlow) hy))
  have HBW := Lib.hid (And.intro hbW hb1W)
  clear hY hJ hJx h0 hX hall hat hlt hcs hc0 hz hg hy hbW hb1W hb0 hb1 hlow hcW
  refine callsIn_of_wp Tryz.func137 rfl trivial ?_ rfl
  simp only [Tryz.ntmps137, List.size_toArray, List.length_cons, List.length_nil, Nat.reduceAdd, Nat.reduceSub, Array.replicate_succ, Array.replicate_zero, List.push_toArray, List.append_toArray, List.nil_append, List.cons_append]
  gi_wp2_with fail
  clear hc00
  gi_loopw [10] (fun i wr => ∃ m : Nat, m ≤ ps.length ∧ i = .int .i64 m ∧ Hid (J (cnt m) wr) ∧ Hid (KeepsX (OwnG n₀ b) W wr))
    (fun i _ => ps.length - (intOf i).toNat)
  case atStart => exact ⟨0, Nat.zero_le _, rfl, by rw [HC.out.2.2.2.2]; exact HJ.out.2.2, KeepsX.refl _ _⟩
  case round =>
    obtain ⟨m, hm, rfl, hJm, hKm⟩ := hrel
    by_cases hlt : m < ps.length
    · have hmz : (m : Int) < ps.length := by omega
      have hsame : ∀ j, j < n₀ → wr.heap[j]? = W.heap[j]? := fun j hj => hKm.out.same j (by omega) (fun h => by have := h.1; omega)
      obtain ⟨c, off, hA, hcB, hc⟩ := vals_elem pcl_len (vals_same HZ.out.1 hsame) (by decide) hlt
      subst hA
      have hgd := HZ.out.2.1.same hsame
      have hyr := HZ.out.2.2 ps[m] (List.getElem_mem hlt)
      have hat := HC.out.2.1 m hlt
      have hcl := HC.out.2.2.1 m hlt
      have hst := HC.out.2.2.2.1 m hlt
      generalize ps[m] = y at hc hyr hat hst hcl
      have hbr := (hKm.out.same b (by omega) (fun h => h.2 (.inl rfl))).trans HBW.out.1
      have hbr1 := (hKm.out.same (b + 1) (by omega) (fun h => h.2 (.inr rfl))).trans HBW.out.2
      have hgo := fun (W' : World) (h : Below wr.heap.size wr W') => grGradeOf_any gs vary y (some ⟨c, off, none⟩) ps.length cp AT nt ct AG cg n₀ W' (by have := hKm.out.size; have := h.size; omega) (hgd.below (h.mono (by have := hKm.out.size; omega))) hyr
      have hsz : W.heap.size ≤ wr.heap.size := hKm.out.size
      have HCC := Lib.hid hc
      have HG := Lib.hid (And.intro hgo (And.intro hbr (And.intro hbr1 hsz)))
      clear hsame hgd hyr hc hgo hbr hbr1 hsz
      by_cases he : gOf gs y = gr
      · have hat' := Lib.hid (And.intro (hat he) (hcl he))
        rw [if_pos he] at hst
        rw [he] at HG
        have HST := Lib.hid hst
        clear hat hst he hcl
        gi_wp2_with (first
          | (show wpListIn _ _ _ _ _ (Oper.mk (some 13) _ _ _ _ _ :: _) _ _
             refine wpListIn_load_at 56 (.tmp 12) rfl rfl rfl (pcl y) HCC.out rowPole ?_)
          | (show wpListIn _ _ _ _ _ (Oper.mk none (Op.store _ (Operand.tmp 5) (Operand.tmp 13)) _ _ _ _ :: _) _ _
             refine wpListIn_store_blk 56 (.tmp 5) (.tmp 13) rfl rfl rfl rfl (alloc_at0 wr _) rfl (by rw [List.all_toArray, List.all_eq_true]; exact fun v hv => pcl_one [y] v (by simpa using hv)) rowPole ?_
             intro w5 hP5 hM5
             have hb5 : Below wr.heap.size wr w5 := (grow1 wr _).trans (hP5.below (Nat.le_refl _))
             have H5 := Lib.hid (And.intro hb5 (And.intro hM5 (And.intro (HJ.out.1 _ _ _ hJm.out (hb5.mono HG.out.2.2.2)) (And.intro ((hb5.block _ (lt_of_heap HG.out.2.1)).trans HG.out.2.1) ((hb5.block _ (lt_of_heap HG.out.2.2.1)).trans HG.out.2.2.1)))))
             clear hP5 hM5 hb5))
        refine R7.wpIn_walk (fun _ => trivial) (C := OgC w5 (J (cnt m + 1)) (Jx (cnt m)) (OwnG n₀ b)) 26 (by kernel_rfl) (by kernel_rfl) rfl ⟨fun _ => (Below.refl _ _).drew, (fun e => by cases e)⟩ ?_
        simp only []
        refine' R7.WalkR.det (fun _ => rfl) (fun D ρ W1 hK hC => R7.givesF.of (fun c h => by cases h) ?_) ?_
        rotate_left
        · have hp := hC.pre (hK.post 8 (by decide +kernel))
          exact gives_load_blk 119 (.tmp 1) rfl rfl ((hp.block _ (lt_of_heap H5.out.2.2.2.1)).trans H5.out.2.2.2.1) [.slice (some ⟨c, off, none⟩) ps.length cp, .slice AT nt ct, .slice AG gs.length cg, .int .i64 vary] at0 rowSheetW ⟨rfl, hC.move (by decide)⟩
        simp only [Act.put, List.setIfInBounds_toArray, List.set_cons_succ, List.set_cons_zero]
        refine' R7.WalkR.det (fun _ => rfl) (fun D ρ W1 hK hC => R7.givesF.of (fun c h => by cases h) ?_) ?_
        rotate_left
        · have hp := hC.pre (hK.post 8 (by decide +kernel))
          exact gives_load_blk 56 (.tmp 5) rfl rfl ((hp.block _ (lt_of_heap H5.out.2.1)).trans H5.out.2.1) (pcl y) at0 rowPole ⟨rfl, hC.move (by decide)⟩
        simp only [Act.put, List.setIfInBounds_toArray, List.set_cons_succ, List.set_cons_zero]
        repeat (first
          | (refine' R7.WalkR.det (fun _ => rfl) (fun D ρ W1 hK hC => R7.givesF.of (fun c h => by cases h) ?_) ?_
             rotate_left
             · have h8 := hK.post 8 (by decide +kernel)
               have hp := hC.pre h8
               have f1 : W1.cell? ⟨b + 1, 0, none⟩ = some (.int .i64 (gr : Int)) := cell_of_row W1 _ 0 _ _ _ ((hp.block _ (lt_of_heap H5.out.2.2.2.2)).trans H5.out.2.2.2.2)
               have HC1 := Lib.hid hC
               have HP := Lib.hid hp
               have H8 := Lib.hid h8
               clear hC hK hp h8
               go_simp
               first
                 | with_reducible exact ⟨rfl, HC1.out.move (by decide)⟩
                 | (go_at_call 55; refine (HG.out.1 W1 (H5.out.1.trans (HP.out.mono H5.out.1.size))).mono ?_; rintro e W2 ⟨rfl, hB2⟩; exact ⟨_, rfl, rfl, HC1.out.next H8.out hB2 (by decide)⟩)
             simp only [Act.put, List.setIfInBounds_toArray, List.set_cons_succ, List.set_cons_zero]))
        refine' R7.WalkR.det (fun _ => rfl) (fun D ρ W1 hK hC => R7.givesF.of (fun c h => by cases h) ?_) ?_
        rotate_left
        · have hp := hC.pre (hK.post 8 (by decide +kernel))
          exact gives_load_blk 56 (.tmp 5) rfl rfl ((hp.block _ (lt_of_heap H5.out.2.1)).trans H5.out.2.1) (pcl y) at0 rowPole ⟨rfl, hC.move (by decide)⟩
        simp only [Act.put, List.setIfInBounds_toArray, List.set_cons_succ, List.set_cons_zero]
        refine' R7.WalkR.nd (fun _ => rfl) rfl (fun D ρ W1 hK hC => ?_) ?_
        · have h8 := hK.me
          have hp := hC.pre h8
          have hJ1 := HJ.out.1 _ _ _ H5.out.2.2.1 (hp.mono (by have := H5.out.1.size; have := HG.out.2.2.2; omega))
          have hyk := HY.out (cnt m) _ W1 hat'.out.1 hJ1 (by have := H5.out.1.size; have := HG.out.2.2.2; have := hp.size; omega)
          refine R7.givesF.yield (.tmp 20) #[.tmp 21] #[56] rfl (fun _ => trivial) hn (l := L) rfl (by simp only [List.map_toArray, List.map_cons, List.map_nil]; rfl) hyk ?_
          rintro e W' (⟨rfl, hJ2, hK2⟩ | ⟨rfl, hx2⟩)
          · refine ⟨_, rfl, (fun e => by rw [done_me] at e; cases e), fun _ => .inl ⟨upd_me, hJ2, ?_⟩⟩
            exact (⟨hp.size, fun j hj _ => hp.block j hj⟩ : KeepsX (OwnG n₀ b) w5 W1).trans (hK2.more (fun j hj => ⟨(HX.out j hj).1, (HX.out j hj).2.1⟩))
          · exact ⟨_, rfl, (fun e => by rw [done_me] at e; cases e), fun _ => .inr ⟨upd_me, hx2⟩⟩
        simp only [Act.put, List.setIfInBounds_toArray, List.set_cons_succ, List.set_cons_zero]
        refine' R7.WalkR.fn 22 notV (fun _ => rfl) (by decide +kernel) (fun D ρ W1 hK hC => R7.givesF.of (fun c h => by cases h) ?_) ?_
        · have hpo := hC.post (hK.pre 8 (by decide +kernel))
          have HC1 := Lib.hid hC
          clear hC hK
          rcases hpo with ⟨hv, -⟩ | ⟨hv, -⟩
          · go_simp
            first | exact HC1.out.move (by decide) | exact ⟨rfl, HC1.out.move (by decide)⟩
          · go_simp
            first | exact HC1.out.move (by decide) | exact ⟨rfl, HC1.out.move (by decide)⟩
        simp only [Act.put, List.setIfInBounds_toArray, List.set_cons_succ, List.set_cons_zero]
        refine' R7.WalkR.fn 22 notV (fun _ => rfl) (by decide +kernel) (fun D ρ W1 hK hC => R7.givesF.of (fun c h => by cases h) ?_) ?_
        · have hpo := hC.post (hK.pre 8 (by decide +kernel))
          have HC1 := Lib.hid hC
          clear hC hK
          rcases hpo with ⟨hv, -⟩ | ⟨hv, -⟩
          · go_simp
            first | exact HC1.out.move (by decide) | exact ⟨rfl, HC1.out.move (by decide)⟩
          · go_simp
            first | exact HC1.out.move (by decide) | exact ⟨rfl, HC1.out.move (by decide)⟩
        simp only [Act.put, List.setIfInBounds_toArray, List.set_cons_succ, List.set_cons_zero]
        refine R7.WalkR.nil (fun D ρ W6 hD hC => ?_)
        rcases hC.post (hD 8 (by omega)) with ⟨hv, hJ6, hK6⟩ | ⟨hv, hx6⟩
        · have H6 := Lib.hid (And.intro hJ6 ((hKm.out.trans (⟨H5.out.1.size, fun j hj _ => H5.out.1.block j hj⟩ : KeepsX (OwnG n₀ b) wr w5)).trans hK6))
          simp only [hv, notV]
          clear hC hD hJ6 hK6 hv
          gi_wp2_with fail
          case roundEnd =>
            go_roundw
            case rel => exact ⟨m + 1, by omega, by go_num, by rw [HST.out]; exact H6.out.1, H6.out.2⟩
            case measure => simp [intOf] <;> omega
        · have H6 := Lib.hid hx6
          simp only [hv, notV]
          clear hC hD hx6 hv
          gi_wp2_with fail
          refine bodyPost_ret (results_none rfl _ _ _) rfl ?_
          exact ⟨⟨_, rfl⟩, .inr ⟨cnt m, hat'.out.2, H6.out⟩⟩
      · rw [if_neg he, Nat.add_zero] at hst
        have HST := Lib.hid hst
        have hne : ¬ ((gOf gs y : Nat) : Int) = (gr : Int) := by omega
        have hnd : (((gOf gs y : Nat) : Int) == (gr : Int)) = false := by simpa using hne
        generalize ((gOf gs y : Nat) : Int) = q at HG hne hnd
        have HND := Lib.hid hnd
        clear hat hst he hcl hne hnd
        gi_wp2_with (first
          | (show wpListIn _ _ _ _ _ (Oper.mk (some 13) _ _ _ _ _ :: _) _ _
             refine wpListIn_load_at 56 (.tmp 12) rfl rfl rfl (pcl y) HCC.out rowPole ?_)
          | (show wpListIn _ _ _ _ _ (Oper.mk none (Op.store _ (Operand.tmp 5) (Operand.tmp 13)) _ _ _ _ :: _) _ _
             refine wpListIn_store_blk 56 (.tmp 5) (.tmp 13) rfl rfl rfl rfl (alloc_at0 wr _) rfl (by rw [List.all_toArray, List.all_eq_true]; exact fun v hv => pcl_one [y] v (by simpa using hv)) rowPole ?_
             intro w5 hP5 hM5
             have hb5 : Below wr.heap.size wr w5 := (grow1 wr _).trans (hP5.below (Nat.le_refl _))
             have H5 := Lib.hid (And.intro hb5 (And.intro hM5 (And.intro (HJ.out.1 _ _ _ hJm.out (hb5.mono HG.out.2.2.2)) (And.intro ((hb5.block _ (lt_of_heap HG.out.2.1)).trans HG.out.2.1) ((hb5.block _ (lt_of_heap HG.out.2.2.1)).trans HG.out.2.2.1)))))
             clear hP5 hM5 hb5))
        refine R7.wpIn_walk (fun _ => trivial) (C := BoxM w5 [] [] (fun _ => [])) 26 (by kernel_rfl) (by kernel_rfl) rfl (BoxM.start (Below.refl _ _) trivial (fun _ => rfl)) ?_
        simp only []
        refine' R7.WalkR.det (fun _ => rfl) (fun D ρ W1 hK hC => R7.givesF.of (fun c h => by cases h) ?_) ?_
        rotate_left
        · exact gives_load_blk 119 (.tmp 1) rfl rfl ((hC.bel.block _ (lt_of_heap H5.out.2.2.2.1)).trans H5.out.2.2.2.1) [.slice (some ⟨c, off, none⟩) ps.length cp, .slice AT nt ct, .slice AG gs.length cg, .int .i64 vary] at0 rowSheetW ⟨rfl, hC.move (by decide)⟩
        simp only [Act.put, List.setIfInBounds_toArray, List.set_cons_succ, List.set_cons_zero]
        refine' R7.WalkR.det (fun _ => rfl) (fun D ρ W1 hK hC => R7.givesF.of (fun c h => by cases h) ?_) ?_
        rotate_left
        · exact gives_load_blk 56 (.tmp 5) rfl rfl ((hC.bel.block _ (lt_of_heap H5.out.2.1)).trans H5.out.2.1) (pcl y) at0 rowPole ⟨rfl, hC.move (by decide)⟩
        simp only [Act.put, List.setIfInBounds_toArray, List.set_cons_succ, List.set_cons_zero]
        repeat (first
          | (refine R7.WalkR.un (fun _ => rfl) (fun D ρ W1 hK hC => hC.move (by decide)) ?_
             simp only [Act.put, List.setIfInBounds_toArray, List.set_cons_succ, List.set_cons_zero])
          | (refine' R7.WalkR.det (fun _ => rfl) (fun D ρ W1 hK hC => R7.givesF.of (fun c h => by cases h) ?_) ?_
             rotate_left
             · have f1 : W1.cell? ⟨b + 1, 0, none⟩ = some (.int .i64 (gr : Int)) := cell_of_row W1 _ 0 _ _ _ ((hC.bel.block _ (lt_of_heap H5.out.2.2.2.2)).trans H5.out.2.2.2.2)
               have n1 := HND.out
               have HC1 := Lib.hid hC
               clear hC hK
               go_simp
               first
                 | with_reducible exact ⟨rfl, HC1.out.move (by decide)⟩
                 | (go_at_call 55; refine (HG.out.1 W1 (H5.out.1.trans (HC1.out.bel.mono H5.out.1.size))).mono ?_; rintro e W2 ⟨rfl, hB2⟩; exact ⟨_, rfl, rfl, (HC1.out.next hB2).move (by decide)⟩)
             simp only [Act.put, List.setIfInBounds_toArray, List.set_cons_succ, List.set_cons_zero]))
        refine R7.WalkR.nil (fun D ρ W6 hD hC => ?_)
        have hb6 : Below wr.heap.size wr W6 := H5.out.1.trans (hC.bel.mono H5.out.1.size)
        have H6 := Lib.hid (And.intro (HJ.out.1 _ _ _ hJm.out (hb6.mono HG.out.2.2.2)) (hKm.out.trans (⟨hb6.size, fun j hj _ => hb6.block j hj⟩ : KeepsX (OwnG n₀ b) wr W6)))
        clear hC hD hb6
        gi_wp2_with fail
        case roundEnd =>
          go_roundw
          case rel => exact ⟨m + 1, by omega, by go_num, by rw [HST.out]; exact H6.out.1, H6.out.2⟩
          case measure => simp [intOf] <;> omega
    · have hme : m = ps.length := by omega
      have hmz : ¬ (m : Int) < ps.length := by omega
      have HM := Lib.hid hme
      clear hme
      gi_wp2_with fail
      go_end0
      exact ⟨⟨_, rfl⟩, .inl (by rw [HC.out.1, ← HM.out]; exact hJm.out)⟩

end Go.Proofs.YtpnnlmaipcjkmaaGreat

namespace Go.Proofs.YtpnnlmaipcjkmaaGreat
open Go.RowKit Go.Maps
open R6 (done done_ne done_me upd_ne upd_me)

theorem keyI5 : Maps.Keyed Tryz.prog 3 := Maps.int_keyed Tryz.underlying3
def rdE (v : Value) : Option (DataW Value × List MemPlace) := some (.held v, [])
def zst : Value := .agg (st6 fun _ => (0, 0)).toArray
theorem zeroSt (w : World) : (zeroValue 128).run Tryz.prog w = .ok zst w := by kernel_rfl
theorem sizeMapS : (Tryz.prog.info? 124).map (·.size) = some 1 := by kernel_rfl
def stv6 (f : Nat → Int × Int) : Value := .agg (st6 f).toArray
def MapF (D : DataW Value) (F : Int → Nat → Int × Int) : Prop := ∀ id : Int, D.atKey (.int .i64 id) (.held zst) = .held (stv6 (F id))
def OwnF (W : World) (mb n : Nat) (F : Int → Nat → Int × Int) : Prop := ∃ D : DataW Value, W.ownsMap Tryz.prog 3 rdE mb n D ∧ MapF D F
def updI (F : Int → Nat → Int × Int) (id : Int) (f : Nat → Int × Int) : Int → Nat → Int × Int := fun i => if i = id then f else F i
theorem OwnF.made {W : World} {mb : Nat} (h : W.heap[mb]? = some (.map #[] 0)) : OwnF W mb 0 fun _ _ => (0, 0) := by
  refine ⟨.map [], ⟨#[], 0, h, ?_⟩, fun id => rfl⟩
  have := World.ownsMap_made (H := Value) W Tryz.prog 3 rdE
  obtain ⟨es, cl, hb, r⟩ := this
  rw [World.alloc_heap_new] at hb
  simp only [Option.some.injEq, Obj.map.injEq] at hb
  obtain ⟨rfl, rfl⟩ := hb
  exact r
theorem OwnF.block {W W' : World} {mb n : Nat} {F : Int → Nat → Int × Int} (h : OwnF W mb n F) (e : W'.heap[mb]? = W.heap[mb]?) : OwnF W' mb n F := by
  obtain ⟨D, h1, h2⟩ := h
  refine ⟨D, ?_, h2⟩
  unfold World.ownsMap at h1 ⊢
  rw [e]
  exact h1
theorem OwnF.lt {W : World} {mb n : Nat} {F : Int → Nat → Int × Int} (h : OwnF W mb n F) : mb < W.heap.size := let ⟨_, h1, _⟩ := h; h1.lt
theorem OwnF.mono {W : World} {mb n m : Nat} {F : Int → Nat → Int × Int} (h : OwnF W mb n F) (hn : n ≤ m) : OwnF W mb m F := let ⟨D, h1, h2⟩ := h; ⟨D, h1.mono hn, h2⟩
def idOk (i : Int) : Prop := -9223372036854775808 ≤ i ∧ i ≤ 9223372036854775807
section
variable {op : Oper} {a : Act} {w : World} {R : Value → World → Prop} {M n : Nat} {F : Int → Nat → Int × Int}
theorem gives_look (m x : Operand) (hop : op.op = Op.lookup 124 m x false) (hm : a.eval m = .map (some M)) (hO : OwnF w M n F) {id : Int} (hid : idOk id) (hx : a.eval x = .int .i64 id) (h : R (stv6 (F id)) w) : gives Tryz.prog op a w R := by
  obtain ⟨D, h1, h2⟩ := hO
  obtain ⟨v, ps, hrun, hv⟩ := h1.lookup keyI5 Tryz.underlying124 (zeroSt w) (zd := .held zst) (zp := []) rfl (Maps.keyOf_int_mk Tryz.underlying3 (WalkArith.wf_i64 hid))
  simp only [rdE, Option.some.injEq, Prod.mk.injEq, h2 id, DataW.held.injEq] at hv
  rw [hv.1] at hrun
  unfold gives
  simp [execOp, hop, hm, hx, hrun, Result.andThen]
  exact h
theorem gives_keep (m x v : Operand) (hop : op.op = Op.mapUpdate 124 m x v) (hm : a.eval m = .map (some M)) (hO : OwnF w M n F) (hn : n < maxLen) {id : Int} (hid : idOk id) (hx : a.eval x = .int .i64 id) {f : Nat → Int × Int} (hv : a.eval v = stv6 f)
    (h : ∀ w', OwnF w' M (n + 1) (updI F id f) → w.grownBy w' (some M) → R undef w') : gives Tryz.prog op a w R := by
  obtain ⟨D, h1, h2⟩ := hO
  have hkey := Maps.keyOf_int_mk Tryz.underlying3 (WalkArith.wf_i64 hid)
  obtain ⟨w', hrun, r1, r2⟩ := h1.update keyI5 Tryz.underlying124 hn hkey (val := stv6 f) (d := .held (stv6 f)) (ps := []) rfl
  unfold gives
  simp [execOp, hop, hm, hx, hv, hrun, Result.andThen]
  refine h w' ⟨_, r1, fun i => ?_⟩ r2
  unfold updI
  by_cases e : i = id
  · subst e
    rw [if_pos rfl]
    exact atKey_put_same h1.isMap (keyI5.key hkey) _ _
  · rw [if_neg e, atKey_put_other (fun h => e (by injection h))]
    exact h2 i
end

def Coll (lo hi : Nat) : List Deferred → World → Prop
  | [], _ => True
  | d :: ds, w => (∃ D, d = { target := .collected D, args := #[] } ∧ lo ≤ D ∧ D < hi ∧ w.heap[D]? = some (.deferred (some [])) ∧ ∀ d' ∈ ds, d'.target ≠ .collected D) ∧ Coll lo hi ds w
theorem Coll.hi {lo hi hi' : Nat} (hh : hi ≤ hi') : ∀ {ds : List Deferred} {w : World}, Coll lo hi ds w → Coll lo hi' ds w
  | [], _, _ => trivial
  | _ :: _, _, ⟨⟨D, h1, h2, h3, h4⟩, h5⟩ => ⟨⟨D, h1, h2, by omega, h4⟩, Coll.hi hh h5⟩
theorem Coll.same {lo hi : Nat} {w w' : World} (hk : ∀ k, lo ≤ k → k < hi → (∃ ds, w.heap[k]? = some (.deferred ds)) → w'.heap[k]? = w.heap[k]?) : ∀ {ds : List Deferred}, Coll lo hi ds w → Coll lo hi ds w'
  | [], _ => trivial
  | _ :: _, ⟨⟨D, h1, h2, h3, h4, h5⟩, h6⟩ => ⟨⟨D, h1, h2, h3, (hk D h2 h3 ⟨_, h4⟩).trans h4, h5⟩, Coll.same hk h6⟩
theorem Coll.tgt {lo hi : Nat} {w : World} : ∀ {ds : List Deferred}, Coll lo hi ds w → ∀ d ∈ ds, ∃ D, d.target = .collected D ∧ D < hi
  | [], _, _, h => by cases h
  | _ :: _, ⟨⟨D, h1, _, h3, _⟩, h6⟩, d, hd => by
    rcases List.mem_cons.1 hd with rfl | hd
    · exact ⟨D, by rw [h1], h3⟩
    · exact Coll.tgt h6 d hd
theorem Coll.push {lo hi D : Nat} {w : World} {ds : List Deferred} (h : Coll lo hi ds w) (hlo : lo ≤ D) (hD : hi ≤ D) (hw : w.heap[D]? = some (.deferred (some []))) : Coll lo (D + 1) ({ target := .collected D, args := #[] } :: ds) w :=
  ⟨⟨D, rfl, hlo, by omega, hw, fun d' hd' e => by
    obtain ⟨D', h1, h2⟩ := h.tgt d' hd'
    rw [h1] at e
    simp only [Target.collected.injEq] at e
    omega⟩, h.hi (by omega)⟩
theorem Coll.gone {lo hi D : Nat} {w : World} : ∀ {ds : List Deferred}, (∀ d' ∈ ds, d'.target ≠ .collected D) → Coll lo hi ds w → Coll lo hi ds (w.putObj D (.deferred none))
  | [], _, _ => trivial
  | e :: _, h5, ⟨⟨E, g1, g2, g3, g4, g5⟩, g6⟩ =>
    ⟨⟨E, g1, g2, g3, (World.putObj_heap_other (fun q => h5 e (List.mem_cons_self ..) (by rw [g1, q]))).trans g4, g5⟩, Coll.gone (fun d' hd' => h5 d' (List.mem_cons_of_mem _ hd')) g6⟩
theorem leaves_coll {F : Fence} {n : Nat} {P : Program} {fn : Func} {tmps : Array Value} {R : Ending → World → Prop} {lo hi : Nat} : ∀ (ds : List Deferred) (w : World), Coll lo hi ds w → (∀ w', Below lo w w' → LeavesIn F n P fn tmps R [] .returning w') → LeavesInM F n P fn tmps R ds .returning w
  | [], w, _, h => h w (Below.refl _ _)
  | d :: ds, w, ⟨⟨D, h1, h2, h3, h4, h5⟩, h6⟩, h => by
    refine ⟨by simp, .inl ⟨D, _, by rw [h1], run_takeDeferred h4, ?_⟩⟩
    have hb : Below lo w (w.putObj D (.deferred none)) := below_putObj (Below.refl _ _) h2 _
    exact leaves_coll (hi := hi) ds _ (Coll.gone h5 h6) (fun w' hw' => h w' (hb.trans hw'))

section
variable {F : Fence} {n : Nat} {P : Program}
theorem wpIn_rangeB {g : Operand} {p q : Nat} {assign body : Code} {Q : Exit → Act → World → Prop} {a : Act} {w : World}
    (hro : F.round = none) (h1 : 1 ≤ n) {gf : Nat} {lb : Array Value} (hg : a.eval g = .func (.func gf) #[] lb) (hFg : F.fn gf) (eg : ∀ args w, (callFunc gf args).run P w = .ok (.enter gf args) w)
    {all : List (Array Value)} {n₀ : Nat} {Cap : Nat → Prop} {w0 : World} (hseq : SeqP F (n - 1) P gf lb all n₀ Cap w0) (hb0 : Below w0.heap.size w0 w) (hn₀ : n₀ ≤ w.heap.size) (hCap : ∀ k, Cap k → k < w.heap.size)
    (vl : Nat → Value) (Bx : Nat → Obj) (hrow : ∀ k r, all[k]? = some r → r = #[vl k])
    (X : Nat → Prop) (hX : ∀ k, X k → n₀ ≤ k ∧ ¬ Cap k ∧ k < w.heap.size)
    (I : Nat → World → Prop) (hI : ∀ k A B, I k A → Below w.heap.size A B → I k B) (h0 : I 0 w)
    (hassign : ∀ (l k : Nat) (W : World) (K : Act → World → Prop), k < all.length → I k W → (∀ b' W', Below W.heap.size W W' → W.heap.size ≤ b' → W'.heap[b']? = some (Bx k) → K { tmps := (a.tmps.setIfInBounds p (vl k)).setIfInBounds q (.pointer (some ⟨b', 0, none⟩)), defers := [] } W') →
      assign.wpIn (F.inRound l) (n - 1 - 1) P (Exit.then K (fun _ _ _ => False)) { tmps := a.tmps.setIfInBounds p (vl k), defers := [] } W)
    (hbody : ∀ (l k b b' : Nat) (W : World), k < all.length → w.heap.size ≤ b → b ≤ b' → b ≤ W.heap.size → I k W → W.heap[b']? = some (Bx k) →
      body.wpIn (F.inRound l) (n - 1 - 1) P (postX (fun j => X j ∨ b ≤ j) (I (k + 1)) (fun _ _ => False) W) { tmps := (a.tmps.setIfInBounds p (vl k)).setIfInBounds q (.pointer (some ⟨b', 0, none⟩)), defers := [] } W)
    (hdone : ∀ (D : Nat) (W : World), D = w.heap.size → I all.length W → W.heap[D]? = some (.deferred (some [])) → Q .normal { a with defers := { target := .collected D, args := #[] } :: a.defers } W) :
    (Code.rangeFunc g #[p] assign body).wpIn F n P Q a w := by
  refine wpIn_rangeP hro h1 hg hFg eg hseq hb0 hn₀ hCap (fun r hr => ?_) X hX I (fun _ _ _ => False) hI (fun _ _ _ _ h _ => h) h0
    (fun k b a' A' => ∃ b', b ≤ b' ∧ A'.heap[b']? = some (Bx k) ∧ a' = { tmps := (a.tmps.setIfInBounds p (vl k)).setIfInBounds q (.pointer (some ⟨b', 0, none⟩)), defers := [] })
    (fun k b a' A B hx hj => let ⟨b', hb, hc, ha⟩ := hx; ⟨b', hb, (hj b' hb).trans hc, ha⟩) ?_ ?_ hdone (fun D c k W _ _ h => h.elim)
  · obtain ⟨k, hk⟩ := List.getElem?_of_mem hr
    rw [hrow k r hk]
    rfl
  · intro l k r W K hr hi hK
    rw [hrow k r hr]
    have e : (#[p].zip #[vl k]).foldl (fun t (x : Nat × Value) => t.setIfInBounds x.1 x.2) a.tmps = a.tmps.setIfInBounds p (vl k) := by simp
    have e2 := hassign l k W K (List.getElem?_eq_some_iff.1 hr).1 hi (fun b' W' h1 h2 h3 => hK _ _ h1 ⟨b', h2, h3, rfl⟩)
    rw [← e] at e2
    exact e2
  · rintro l k b r a' W hr hwb hbW hi ⟨b', hbb, hc, rfl⟩
    exact hbody l k b b' W (List.getElem?_eq_some_iff.1 hr).1 hwb hbb hbW hi hc
end

theorem own_small {p : Pol} {g : Gd} {ts : List Ts} {k : Nat} (hs : okSecs p = true) (ht : ∀ t ∈ ts, okT t) (h1 : 1 ≤ (st0 g k).1 ∧ (st0 g k).1 ≤ 200000) (h2 : 1 ≤ (st0 g k).2 ∧ (st0 g k).2 ≤ 200000) :
    (1 ≤ (own p g ts k).1 ∧ (own p g ts k).1 ≤ 1000000000) ∧ (0 ≤ (own p g ts k).2 ∧ (own p g ts k).2 ≤ 200000) := by
  have key : ∀ (us : List Ts) (s : Int × Int), (∀ t ∈ us, okT t) → (1 ≤ s.1 ∧ s.1 ≤ 1000000000) → (0 ≤ s.2 ∧ s.2 ≤ 200000) → (1 ≤ (us.foldl (own1 p k) s).1 ∧ (us.foldl (own1 p k) s).1 ≤ 1000000000) ∧ (0 ≤ (us.foldl (own1 p k) s).2 ∧ (us.foldl (own1 p k) s).2 ≤ 200000) := by
    intro us
    induction us with
    | nil => intro s _ a b; exact ⟨a, b⟩
    | cons t us ih =>
      intro s hu a b
      have hn := needN_bnd (ar_pos hs k).1 (hu t (List.mem_cons_self ..)).2.1 (hu t (List.mem_cons_self ..)).2.2
      rw [List.foldl_cons]
      refine ih _ (fun t' ht' => hu t' (List.mem_cons_of_mem _ ht')) ?_ ?_
      · unfold own1; split
        · split <;> simp only <;> omega
        · exact a
      · unfold own1; split
        · split <;> simp only <;> omega
        · exact b
  exact key ts _ ht ⟨h1.1, by omega⟩ ⟨by omega, h2.2⟩
def okG2 (g : Gd) : Prop := ∀ k, k < 3 → (1 ≤ (st0 g k).1 ∧ (st0 g k).1 ≤ 200000) ∧ (1 ≤ (st0 g k).2 ∧ (st0 g k).2 ≤ 200000)
theorem okG2.g {g : Gd} (h : okG2 g) : okG g := fun k hk => ⟨(h k hk).1.1, (h k hk).2.2⟩
theorem nearG_step (g : Gd) (vary : Int) (ts : List Ts) (l : List Pol) (k : Nat) (hk : k < l.length) : (fun s => nearG g vary ts (l.take (k + 1)) s) = fun s => cut1 (nearG g vary ts (l.take k) s) (wid1 vary (own l[k] g ts s)) := by
  funext s
  unfold nearG
  rw [List.take_add_one, List.getElem?_eq_getElem hk, List.foldl_append]
  rfl
def okL (gs : List Gd) (vary : Int) (ps : List Pol) (ts : List Ts) (q : Pol) : Bool := (List.range 3).all fun k => decide ((spanT gs vary ps ts q k).1 ≤ (spanT gs vary ps ts q k).2)
def okI (gs : List Gd) (vary : Int) (ps : List Pol) (ts : List Ts) : Nat → Bool
  | 0 => true
  | i + 1 => okI gs vary ps ts i && (peers gs ps (i + 1)).all (okL gs vary ps ts)
theorem okI_iff {gs : List Gd} {vary : Int} {ps : List Pol} {ts : List Ts} : ∀ i, okI gs vary ps ts i = true ↔ ∀ p ∈ ps, gOf gs p ≠ 0 → gOf gs p ≤ i → okL gs vary ps ts p = true
  | 0 => by simp only [okI, true_iff]; intro p _ h1 h2; omega
  | i + 1 => by
    simp only [okI, Bool.and_eq_true, okI_iff i, List.all_eq_true]
    constructor
    · rintro ⟨h1, h2⟩ p hp h3 h4
      by_cases e : gOf gs p = i + 1
      · exact h2 p (mem_peers.2 ⟨hp, e⟩)
      · exact h1 p hp h3 (by omega)
    · intro h
      exact ⟨fun p hp h3 h4 => h p hp h3 (by omega), fun p hp => h p (mem_peers.1 hp).1 (by rw [(mem_peers.1 hp).2]; omega) (by rw [(mem_peers.1 hp).2]; omega)⟩
theorem okI_truth {gs : List Gd} {vary : Int} {ps : List Pol} {ts : List Ts} (hv : 0 ≤ vary) : okI gs vary ps ts gs.length = truth gs vary ps ts := by
  rw [truth_left hv, Bool.eq_iff_iff, okI_iff]
  unfold leftAll
  simp only [List.all_eq_true, Bool.or_eq_true, beq_iff_eq]
  constructor
  · intro h p hp
    by_cases e : gOf gs p = 0
    · exact .inl e
    · exact .inr (by have := h p hp e (gOf_le gs p); unfold okL at this; simpa using this)
  · intro h p hp e _
    rcases h p hp with h1 | h1
    · exact absurd h1 e
    · unfold okL; simpa using h1
theorem peers_gAt {gs : List Gd} {ps : List Pol} {i : Nat} (hi : i < gs.length) {q : Pol} (hq : q ∈ peers gs ps (i + 1)) : gAt gs q = gs[i] := by
  rw [gAt_peer hq]
  simp [hi]
theorem left_span {gs : List Gd} {vary : Int} {ps : List Pol} {ts : List Ts} {i : Nat} (hi : i < gs.length) {q : Pol} (hq : q ∈ peers gs ps (i + 1)) : (fun k => leftG gs[i] vary ts (peers gs ps (i + 1)) k q) = fun k => spanT gs vary ps ts q k := by
  funext k
  have e := (mem_peers.1 hq).2
  have := leftG_span (gs := gs) (vary := vary) (ps := ps) (ts := ts) (p := q) (k := k) (g := gs[i]) (by rw [e]; exact fun r hr => peers_gAt hi hr) (peers_gAt hi hq)
  rwa [e] at this
def Up (ps : List Pol) : Prop := ps.Pairwise fun p q => p.id < q.id
theorem byIdL_up (ok : Pol → Bool) : ∀ (ps : List Pol) (n : Int), byIdL Pol.id ok ps n = true → Up ps ∧ ∀ p ∈ ps, n ≤ p.id ∧ p.id ≤ 9999 ∧ ok p = true
  | [], _, _ => ⟨.nil, fun _ h => by cases h⟩
  | p :: ps, n, h => by
    simp only [byIdL, Bool.and_eq_true, inR_iff] at h
    obtain ⟨⟨h1, h2⟩, h3, h4⟩ := h
    obtain ⟨i1, i2⟩ := byIdL_up ok ps _ h4
    refine ⟨.cons (fun q hq => ?_) i1, fun q hq => ?_⟩
    · have := (i2 q hq).1; omega
    · rcases List.mem_cons.1 hq with rfl | hq
      · exact ⟨h1, h2, h3⟩
      · have := i2 q hq; exact ⟨by omega, this.2.1, this.2.2⟩
theorem Up.peers {gs : List Gd} {ps : List Pol} {n : Nat} (h : Up ps) : Up (peers gs ps n) := h.filter _
theorem Up.ne {l : List Pol} (h : Up l) {i j : Nat} (hi : i < l.length) (hj : j < l.length) (hij : i ≠ j) : l[i].id ≠ l[j].id := by
  rcases Nat.lt_or_gt_of_ne hij with h1 | h1
  · have := List.pairwise_iff_getElem.1 h i j hi hj h1; omega
  · have := List.pairwise_iff_getElem.1 h j i hj hi h1; omega
theorem Up.inj {l : List Pol} (h : Up l) {p q : Pol} (hp : p ∈ l) (hq : q ∈ l) (e : p.id = q.id) : p = q := by
  obtain ⟨i, hi, rfl⟩ := List.mem_iff_getElem.1 hp
  obtain ⟨j, hj, rfl⟩ := List.mem_iff_getElem.1 hq
  by_cases hij : i = j
  · subst hij; rfl
  · exact absurd e (h.ne hi hj hij)

end Go.Proofs.YtpnnlmaipcjkmaaGreat

namespace Go.Proofs.YtpnnlmaipcjkmaaGreat
open Go.RowKit Go.Maps
open R6 (done done_ne done_me upd_ne upd_me)

attribute [local go_sem] gives

section
variable {F : Fence} {n : Nat} {P : Program} {ops : Array Oper} {rest : List Oper} {op : Oper} {a : Act} {w : World} {Q : Exit → Act → World → Prop}
theorem wpListIn_store_v5 (ty : TypeId) (x y : Operand) (hgd : op.guard = none) (ho : op.op = .store ty x y) (hd : op.dst = none) {b o : Nat} (hx : a.eval x = .pointer (some ⟨b, o, none⟩)) {v : Value} (hy : a.eval y = v) (hv : v.cells = #[v]) (h1 : v.oneCell' = true)
    {L : List Value} {t : TypeId} (hb : w.heap[b]? = some (.cells L.toArray t (0, 0))) (hfit : o < L.length) (hty : (P.info? ty).map (·.size) = some 1)
    (h : ∀ w', Put w w' b → w'.heap[b]? = some (.cells (L.set o v).toArray t (0, 0)) → wpListIn F n P ops Q rest a w') : wpListIn F n P ops Q (op :: rest) a w := by
  refine wpListIn_plain hgd fun K hK => ?_
  have hrun := run_store_one (P := P) (v := v) hb hfit hv h1 hty
  unfold Oper.wpIn
  refine ⟨by simp [Oper.about, ho], ?_⟩
  rw [Oper.semAt_plain F _ _ (by rw [ho]; intro c hc'; cases hc')]
  unfold execOp
  simp only [ho, hx, hy, Sem.run_bind, Sem.run_pure, hrun, Result.andThen_ok]
  refine hK _ _ ?_
  rw [hd]
  refine h _ (put_setCells b [v] o w) ?_
  have := heap_setCell_same w b o _ _ v hb
  rwa [List.setIfInBounds_toArray] at this
theorem wpListIn_gives {l m : Nat} (hw : Region.wanted op (yielded ops a.tmps) = true) (hnd : ∀ c, op.op ≠ .defer c) {R : Value → World → Prop} (h : gives P op a w R)
    (hK : ∀ v w', R v w' → wpListIn (Fence.wide.inRound l) m P ops Q rest (a.put op.dst v) w') : wpListIn (Fence.wide.inRound l) m P ops Q (op :: rest) a w :=
  wpListIn_step fun K hKK => by
    rw [if_pos hw]
    exact wpIn_of_wp (K := K) l m hnd (h.wp rfl (fun v w' hr => hKK _ _ (hK v w' hr))) (fun _ _ h => h)
end

theorem below_low5 {B B' : Nat} {a b : World} (h : Below B a b) (hB : B' ≤ B) : Below B' a b := ⟨h.os, h.tape, h.output, h.size, fun k hk => h.block k (by omega)⟩

theorem grOfGrade_any (v0 v1 v2 v3 : Value) (h0 : v0.oneCell' = true) (gr : Int) (w : World) : Calls Tryz.prog 95 #[.agg #[v0, v1, v2, v3], .int .i64 gr] w fun e w' =>
    e = .returned (.func (.func 137) #[] #[.pointer (some ⟨w.heap.size, 0, none⟩), .pointer (some ⟨w.heap.size + 1, 0, none⟩)]) ∧
      w' = (w.alloc (.cells #[v0, v1, v2, v3] 119)).alloc (.cells #[.int .i64 gr] 3) := by
  clear h0
  go_enter Tryz.func95, Tryz.ntmps95
  go_wp2
  go_ret
  exact ⟨rfl, rfl⟩

structure OnceC (w1 : World) (kk : Nat) (PP : World → Prop) (D : Nat → Bool) (σ : Nat → Value) (W : World) : Prop where
  pre : D kk = false → Below w1.heap.size w1 W
  post : D kk = true → PP W
def onceK (kk k : Nat) : Bool := !(k == kk)
section
variable {w1 W W' : World} {kk : Nat} {PP : World → Prop} {D : Nat → Bool} {σ σ' : Nat → Value}
theorem OnceC.move {k : Nat} (h : OnceC w1 kk PP D σ W) (hk : onceK kk k = true) : OnceC w1 kk PP (done D k) σ' W := by
  simp only [onceK, Bool.not_eq_true', beq_eq_false_iff_ne, ne_eq] at hk
  have e := done_ne (D := D) (k := k) (j := kk) (by omega)
  exact ⟨by rw [e]; exact h.pre, by rw [e]; exact h.post⟩
theorem OnceC.next {k : Nat} (h : OnceC w1 kk PP D σ W) (h0 : D kk = false) (hg : Grows W W') (hk : onceK kk k = true) : OnceC w1 kk PP (done D k) σ' W' := by
  simp only [onceK, Bool.not_eq_true', beq_eq_false_iff_ne, ne_eq] at hk
  have e := done_ne (D := D) (k := k) (j := kk) (by omega)
  exact ⟨fun _ => (h.pre h0).trans (hg.mono (h.pre h0).size), fun e' => by rw [e, h0] at e'; cases e'⟩
theorem OnceC.fire (hp : PP W') : OnceC w1 kk PP (done D kk) σ' W' := ⟨(fun e => by rw [done_me] at e; cases e), fun _ => hp⟩
end

structure SsC (w : World) (V : Array Value) (A2 : Option Addr) (n2 c2 : Nat) (al : Bool) (ds : List Deferred) (hi n : Nat) (F : Int → Nat → Int × Int) (W : World) : Prop where
  bel : Below w.heap.size w W
  b2 : W.heap[w.heap.size]? = some (.cells V 119 (0, 0))
  b3 : W.heap[w.heap.size + 1]? = some (.cells #[.slice A2 n2 c2] 23 (0, 0))
  b4 : W.heap[w.heap.size + 1 + 1]? = some (.cells [Value.map (some (w.heap.size + 1 + 1 + 1 + 1))].toArray 124 (0, 0))
  b5 : W.heap[w.heap.size + 1 + 1 + 1]? = some (.cells [Value.bool al].toArray 4 (0, 0))
  map : OwnF W (w.heap.size + 1 + 1 + 1 + 1) n F
  coll : Coll (w.heap.size + 5) hi ds W
  hiw : w.heap.size + 5 ≤ hi ∧ hi ≤ W.heap.size
section
variable {w W W' : World} {V : Array Value} {A2 : Option Addr} {n2 c2 : Nat} {al al' : Bool} {ds : List Deferred} {hi n : Nat} {F F' : Int → Nat → Int × Int}
theorem SsC.below (h : SsC w V A2 n2 c2 al ds hi n F W) {b : Nat} (hb : Below b W W') (hh : hi ≤ b) : SsC w V A2 n2 c2 al ds hi n F W' := by
  have h1 := h.hiw
  exact ⟨h.bel.trans (below_low5 hb (by omega)), (hb.block _ (by omega)).trans h.b2, (hb.block _ (by omega)).trans h.b3, (hb.block _ (by omega)).trans h.b4, (hb.block _ (by omega)).trans h.b5, h.map.block (hb.block _ (by omega)), h.coll.same (fun k _ hk _ => hb.block k (by omega)), h1.1, Nat.le_trans h1.2 hb.size⟩
theorem SsC.grows (h : SsC w V A2 n2 c2 al ds hi n F W) (hb : Grows W W') : SsC w V A2 n2 c2 al ds hi n F W' := h.below hb h.hiw.2
theorem SsC.put (h : SsC w V A2 n2 c2 al ds hi n F W) {b : Nat} (hP : Put W W' b) (hb : w.heap.size + 5 ≤ b) {cs : Array Value} {t : TypeId} {fr : Nat × Nat} (hc : W.heap[b]? = some (.cells cs t fr)) : SsC w V A2 n2 c2 al ds hi n F W' := by
  have h1 := h.hiw
  refine ⟨h.bel.trans (hP.below (by omega)), (hP.other _ (by omega)).trans h.b2, (hP.other _ (by omega)).trans h.b3, (hP.other _ (by omega)).trans h.b4, (hP.other _ (by omega)).trans h.b5, h.map.block (hP.other _ (by omega)), h.coll.same (fun k _ _ hk => hP.other k (fun e => ?_)), h1.1, by rw [hP.size]; exact h1.2⟩
  obtain ⟨ds', hd⟩ := hk
  rw [e, hc] at hd
  cases hd
theorem SsC.put5 (h : SsC w V A2 n2 c2 al ds hi n F W) (hP : Put W W' (w.heap.size + 1 + 1 + 1)) (hc : W'.heap[w.heap.size + 1 + 1 + 1]? = some (.cells [Value.bool al'].toArray 4 (0, 0))) : SsC w V A2 n2 c2 al' ds hi n F W' := by
  have h1 := h.hiw
  exact ⟨h.bel.trans (hP.below (by omega)), (hP.other _ (by omega)).trans h.b2, (hP.other _ (by omega)).trans h.b3, (hP.other _ (by omega)).trans h.b4, hc, h.map.block (hP.other _ (by omega)), h.coll.same (fun k hk _ _ => hP.other k (by omega)), h1.1, by rw [hP.size]; exact h1.2⟩
theorem SsC.put4 (h : SsC w V A2 n2 c2 al ds hi n F W) (hP : Put W W' (w.heap.size + 1 + 1)) (hc : W'.heap[w.heap.size + 1 + 1]? = some (.cells [Value.map (some (w.heap.size + 1 + 1 + 1 + 1))].toArray 124 (0, 0))) : SsC w V A2 n2 c2 al ds hi n F W' := by
  have h1 := h.hiw
  exact ⟨h.bel.trans (hP.below (by omega)), (hP.other _ (by omega)).trans h.b2, (hP.other _ (by omega)).trans h.b3, hc, (hP.other _ (by omega)).trans h.b5, h.map.block (hP.other _ (by omega)), h.coll.same (fun k hk _ _ => hP.other k (by omega)), h1.1, by rw [hP.size]; exact h1.2⟩
theorem SsC.keep (h : SsC w V A2 n2 c2 al ds hi n F W) {m : Nat} (hg : W.grownBy W' (some (w.heap.size + 1 + 1 + 1 + 1))) (hO : OwnF W' (w.heap.size + 1 + 1 + 1 + 1) m F') : SsC w V A2 n2 c2 al ds hi m F' W' := by
  have h1 := h.hiw
  exact ⟨h.bel.grown hg h.bel.size (fun g e => by cases e; omega), (hg.block _ (by omega) (by simp; try omega)).trans h.b2, (hg.block _ (by omega) (by simp; try omega)).trans h.b3, (hg.block _ (by omega) (by simp; try omega)).trans h.b4, (hg.block _ (by omega) (by simp)).trans h.b5, hO,
    h.coll.same (fun k hk hk2 _ => hg.block k (by omega) (by simp; omega)), h1.1, Nat.le_trans h1.2 hg.size⟩
theorem SsC.push (h : SsC w V A2 n2 c2 al ds hi n F W) {D : Nat} (hD : hi ≤ D) (hw : W.heap[D]? = some (.deferred (some []))) : SsC w V A2 n2 c2 al ({ target := .collected D, args := #[] } :: ds) (D + 1) n F W :=
  ⟨h.bel, h.b2, h.b3, h.b4, h.b5, h.map, h.coll.push (by have := h.hiw; omega) hD hw, by have := h.hiw; omega, lt_of_heap hw⟩
theorem SsC.up (h : SsC w V A2 n2 c2 al ds hi n F W) {hi' m : Nat} (hh : hi ≤ hi') (hw : hi' ≤ W.heap.size) (hm : n ≤ m) : SsC w V A2 n2 c2 al ds hi' m F W :=
  ⟨h.bel, h.b2, h.b3, h.b4, h.b5, h.map.mono hm, h.coll.hi hh, by have := h.hiw; omega, hw⟩
end
theorem keepsX_grown {X : Nat → Prop} {W W' : World} {b : Nat} (hg : W.grownBy W' (some b)) (hb : X b) : KeepsX X W W' := ⟨hg.size, fun j hj hx => hg.block j hj (fun e => by simp only [Option.some.injEq] at e; subst e; exact hx hb)⟩
theorem keepsX_grows {X : Nat → Prop} {W W' : World} (hg : Grows W W') : KeepsX X W W' := ⟨hg.size, fun j hj _ => hg.block j hj⟩

end Go.Proofs.YtpnnlmaipcjkmaaGreat

namespace Go.Proofs.YtpnnlmaipcjkmaaGreat
open Go.RowKit Go.Maps Go.Shelf
open R6 (done done_ne done_me upd_ne upd_me)

attribute [local go_sem] Oper.semAt_some
attribute [local go_sem] gives

def StrF (gs : List Gd) (vary : Int) (ps : List Pol) (ts : List Ts) (i : Nat) (F : Int → Nat → Int × Int) : Prop := ∀ p ∈ ps, gOf gs p ≠ 0 → gOf gs p ≤ i → F p.id = fun k => spanT gs vary ps ts p k
def StrPost (w : World) (gs : List Gd) (vary : Int) (ps : List Pol) (ts : List Ts) (e : Ending) (w' : World) : Prop :=
  ∃ mb n F, e = .returned (.tuple #[.map (some mb), .bool (truth gs vary ps ts)]) ∧ w.heap.size ≤ mb ∧ OwnF w' mb n F ∧ StrF gs vary ps ts gs.length F ∧ Below w.heap.size w w'
theorem okPol_secs {p : Pol} (h : okPol p = true) : okSecs p = true := by
  simp only [okPol, Bool.and_eq_true] at h
  exact h.2.2.2.1
theorem st6_drop (g : Gd) : ∀ j v, (st6 (st0 g))[j]? = some v → (gcl g).toArray[2 + j]? = some v := fun j v hv => by
  have e : st6 (st0 g) = (gcl g).drop 2 := rfl
  rw [e, List.getElem?_drop] at hv
  rw [List.getElem?_toArray]
  exact hv
theorem okI_take {gs : List Gd} {vary : Int} {ps : List Pol} {ts : List Ts} {l : List Pol} {k : Nat} (hk : k < l.length) : (l.take (k + 1)).all (okL gs vary ps ts) = ((l.take k).all (okL gs vary ps ts) && okL gs vary ps ts l[k]) := by
  rw [List.take_add_one, List.getElem?_eq_getElem hk, List.all_append]
  simp

set_option maxRecDepth 100000 in
set_option maxHeartbeats 16000000 in
theorem grStresses_any (gs : List Gd) (vary : Int) (ps : List Pol) (ts : List Ts) (AP : Option Addr) (cp : Nat) (AT : Option Addr) (nt ct : Nat) (AG : Option Addr) (cg : Nat) (A2 : Option Addr) (c2 : Nat) (B : Nat) (w : World) (hB : B ≤ w.heap.size)
    (hz : Vals w B AP (ps.flatMap pcl)) (hg : GdAt w B gs AG) (h2 : Vals w B A2 (ts.flatMap tcl)) (hl2 : ts.length ≤ 100000) (hv : 0 ≤ vary ∧ vary ≤ 200000) (hgs : gs.length ≤ 3) (hps : ps.length ≤ 12) (hup : Up ps)
    (hpo : ∀ p ∈ ps, (0 ≤ p.id ∧ p.id ≤ 9999) ∧ okPol p = true) (ht : ∀ t ∈ ts, okT t) (hok : ∀ g ∈ gs, okG2 g) :
    Calls Tryz.prog 57 #[.agg #[.slice AP ps.length cp, .slice AT nt ct, .slice AG gs.length cg, .int .i64 vary], .slice A2 ts.length c2] w (StrPost w gs vary ps ts) := by
  have hlg := hg.lg
  have HZ := Lib.hid (And.intro hz (And.intro hg (And.intro h2 hB)))
  have HP := Lib.hid (And.intro hup (And.intro hpo (And.intro ht hok)))
  clear hz hg h2 hup hpo ht hok
  refine (callsIn_wide (n := 4)).1 ?_
  refine callsIn_of_wp_marks Tryz.func57 rfl trivial ?_ rfl
  simp only [Tryz.ntmps57, List.size_toArray, List.length_cons, List.length_nil, Nat.reduceAdd, Nat.reduceSub, Array.replicate_succ, Array.replicate_zero, List.push_toArray, List.append_toArray, List.nil_append, List.cons_append]
  obtain ⟨w0, hw0⟩ : ∃ w0, (((w.alloc (.cells #[.slice AP ps.length cp, .slice AT nt ct, .slice AG gs.length cg, .int .i64 vary] 119)).alloc (.cells #[.slice A2 ts.length c2] 23)).alloc (.cells #[.map none] 124)).alloc (.cells #[.bool false] 4) = w0 := ⟨_, rfl⟩
  have hs0 : w0.heap.size = w.heap.size + 4 := by rw [← hw0]; simp
  have hb0 : Below w.heap.size w w0 := by rw [← hw0]; exact ((grow2 _ _ _).alloc (by simp; omega) _).alloc (by simp; omega) _
  have m2 : w0.heap[w.heap.size]? = some (.cells #[.slice AP ps.length cp, .slice AT nt ct, .slice AG gs.length cg, .int .i64 vary] 119 (0, 0)) := by rw [← hw0]; exact (Below.heap_alloc _ _ _ (by simp only [World.size_alloc]; omega)).trans (alloc3_at0 _ _ _ _)
  have m3 : w0.heap[w.heap.size + 1]? = some (.cells #[.slice A2 ts.length c2] 23 (0, 0)) := by rw [← hw0]; exact (Below.heap_alloc _ _ _ (by simp only [World.size_alloc]; omega)).trans (alloc3_at1 _ _ _ _)
  have m4 : w0.heap[w.heap.size + 1 + 1]? = some (.cells [Value.map none].toArray 124 (0, 0)) := by rw [← hw0]; exact (Below.heap_alloc _ _ _ (by simp only [World.size_alloc]; omega)).trans (alloc3_at2 _ _ _ _)
  have m5 : w0.heap[w.heap.size + 1 + 1 + 1]? = some (.cells [Value.bool false].toArray 4 (0, 0)) := by
    rw [← hw0]
    have := alloc_at0 (((w.alloc (.cells #[.slice AP ps.length cp, .slice AT nt ct, .slice AG gs.length cg, .int .i64 vary] 119)).alloc (.cells #[.slice A2 ts.length c2] 23)).alloc (.cells #[.map none] 124)) (.cells #[.bool false] 4)
    simp only [World.size_alloc] at this
    exact this
  obtain ⟨w1, hw1⟩ : ∃ w1, w0.alloc (.map #[] 0) = w1 := ⟨_, rfl⟩
  have hs1 : w1.heap.size = w.heap.size + 5 := by rw [← hw1]; simp [hs0]
  have g1 : Grows w0 w1 := by rw [← hw1]; exact grow1 _ _
  have m6 : w1.heap[w.heap.size + 1 + 1 + 1 + 1]? = some (.map #[] 0) := by rw [← hw1]; have := alloc_at0 w0 (.map #[] 0); rw [hs0] at this; exact this
  have hmk : ∀ (t : TypeId), (Instr.makeMap t none).run Tryz.prog w0 = .ok (.map (some (w.heap.size + 1 + 1 + 1 + 1))) w1 := fun t => by
    have := @run_makeMap Tryz.prog
    rw [← hw1]
    have e : w.heap.size + 1 + 1 + 1 + 1 = w0.heap.size := by omega
    rw [e]
    simp [this]
  have H1 := Lib.hid (And.intro (hb0.trans (g1.mono hb0.size)) (And.intro ((g1.block _ (lt_of_heap m2)).trans m2) (And.intro ((g1.block _ (lt_of_heap m3)).trans m3) (And.intro ((g1.block _ (lt_of_heap m4)).trans m4) (And.intro ((g1.block _ (lt_of_heap m5)).trans m5) (And.intro m6 hs1))))))
  clear hb0 m2 m3 m4 m5 m6 hs0 hs1 g1 hw1
  gi_wp2_with (first
    | (show wpListIn _ _ _ _ _ (Oper.mk none (Op.store _ (Operand.tmp 4) (Operand.tmp 11)) _ _ _ _ :: _) _ _
       refine wpListIn_store_v5 124 (.tmp 4) (.tmp 11) rfl rfl rfl rfl rfl rfl rfl (L := [.map none]) H1.out.2.2.2.1 (by simp) sizeMapS ?_
       intro w2 hP2 hM2
       have H2 := Lib.hid (And.intro hP2 hM2)
       clear hP2 hM2)
    | (show wpListIn _ _ _ _ _ (Oper.mk none (Op.store _ (Operand.tmp 5) (Operand.const (Value.bool true))) _ _ _ _ :: _) _ _
       refine wpListIn_store_v5 4 (.tmp 5) (.const (.bool true)) rfl rfl rfl rfl rfl rfl rfl (L := [.bool false]) ((H2.out.1.other _ (by omega)).trans H1.out.2.2.2.2.1) (by simp) (by kernel_rfl) ?_
       intro w3 hP3 hM3
       have hS : SsC w #[.slice AP ps.length cp, .slice AT nt ct, .slice AG gs.length cg, .int .i64 vary] A2 ts.length c2 true [] (w.heap.size + 5) 0 (fun _ _ => (0, 0)) w3 := by
         have h1 := H1.out
         have h2 := H2.out
         have hs3 : w3.heap.size = w.heap.size + 5 := by rw [hP3.size, h2.1.size]; exact h1.2.2.2.2.2.2
         exact ⟨(h1.1.trans (h2.1.below (by omega))).trans (hP3.below (by omega)), (hP3.other _ (by omega)).trans ((h2.1.other _ (by omega)).trans h1.2.1), (hP3.other _ (by omega)).trans ((h2.1.other _ (by omega)).trans h1.2.2.1), (hP3.other _ (by omega)).trans h2.2, hM3,
           OwnF.made ((hP3.other _ (by omega)).trans ((h2.1.other _ (by omega)).trans h1.2.2.2.2.2.1)), trivial, by omega⟩
       have hc2 := fun i => cell_of_row w3 w.heap.size i _ _ _ hS.b2
       have HS := Lib.hid hS
       clear hP3 hM3 hS hmk))
  clear hc2
  refine wpIn_loop (fun a' W => ∃ (u6 u7 u8 u9 u10 u16 u17 u18 u19 u20 u21 u22 u23 u24 u25 u26 u27 u28 u29 u30 u31 u32 u33 u34 u35 u36 u37 u38 u39 u40 u41 u42 u43 u44 u45 u46 u47 u48 u49 u50 u51 u52 u53 u54 u55 u56 u57 u58 u59 u60 u61 u62 u63 u64 u65 u66 u67 u68 : Value) (ds : List Deferred), (∃ (i hi n : Nat) (F : Int → Nat → Int × Int), i ≤ gs.length ∧ u16 = .int .i64 i ∧ Hid (SsC w #[.slice AP ps.length cp, .slice AT nt ct, .slice AG gs.length cg, .int .i64 vary] A2 ts.length c2 (okI gs vary ps ts i) ds hi n F W ∧ n ≤ 24 * i ∧ StrF gs vary ps ts i F)) ∧ a' = { tmps := #[.agg #[.slice AP ps.length cp, .slice AT nt ct, .slice AG gs.length cg, .int .i64 vary], .slice A2 ts.length c2, .pointer (some ⟨w.heap.size, 0, none⟩), .pointer (some ⟨w.heap.size + 1, 0, none⟩), .pointer (some ⟨w.heap.size + 1 + 1, 0, none⟩), .pointer (some ⟨w.heap.size + 1 + 1 + 1, 0, none⟩), u6, u7, u8, u9, u10, .map (some (w.heap.size + 1 + 1 + 1 + 1)), .pointer (some ⟨w.heap.size, 2, none⟩), .pointer (some ⟨w.heap.size, 2, none⟩), .slice AG gs.length cg, .int .i64 gs.length, u16, u17, u18, u19, u20, u21, u22, u23, u24, u25, u26, u27, u28, u29, u30, u31, u32, u33, u34, u35, u36, u37, u38, u39, u40, u41, u42, u43, u44, u45, u46, u47, u48, u49, u50, u51, u52, u53, u54, u55, u56, u57, u58, u59, u60, u61, u62, u63, u64, u65, u66, u67, u68, undef, undef], defers := ds })
    (fun a' _ => gs.length - (intOf (a'.tmps.getD 16 undef)).toNat) ?_ ?_
  · (repeat apply Exists.intro)
    refine ⟨⟨0, w.heap.size + 5, 0, _, Nat.zero_le _, rfl, HS.out, Nat.le_refl _, fun p _ h1 h2 => absurd (Nat.le_zero.1 h2) h1⟩, rfl⟩
  · rintro a' wr ⟨u6, u7, u8, u9, u10, u16, u17, u18, u19, u20, u21, u22, u23, u24, u25, u26, u27, u28, u29, u30, u31, u32, u33, u34, u35, u36, u37, u38, u39, u40, u41, u42, u43, u44, u45, u46, u47, u48, u49, u50, u51, u52, u53, u54, u55, u56, u57, u58, u59, u60, u61, u62, u63, u64, u65, u66, u67, u68, ds, ⟨i, hi, n, F, hil, rfl, hR⟩, rfl⟩
    clear HS H1 H2
    by_cases hlt : i < gs.length
    · have hiz : (i : Int) < gs.length := by omega
      obtain ⟨c, off, hA, hcB, hc⟩ := vals_elem gcl_len HZ.out.2.1.g (by decide) hlt
      subst hA
      have hc' : ∀ j v, (gcl gs[i])[j]? = some v → wr.cell? ⟨c, off + i * 8 + j, none⟩ = some v := fun j v hv => (hR.out.1.bel.cell (p := ⟨c, off + i * 8 + j, none⟩) (by have := HZ.out.2.2.2; simp; omega)).trans (hc j v hv)
      have hokg := HP.out.2.2.2 gs[i] (List.getElem_mem hlt)
      have hpg := fun q hq => peers_gAt (gs := gs) (ps := ps) hlt (q := q) hq
      have hlsp := fun q hq => left_span (gs := gs) (vary := vary) (ps := ps) (ts := ts) hlt (q := q) hq
      have hlp := HP.out.1.peers (gs := gs) (n := i + 1)
      have hmp := fun q => mem_peers (gs := gs) (ps := ps) (n := i + 1) (q := q)
      have hok1 : okI gs vary ps ts (i + 1) = (okI gs vary ps ts i && (peers gs ps (i + 1)).all (okL gs vary ps ts)) := rfl
      have hpl : (peers gs ps (i + 1)).length ≤ 12 := Nat.le_trans (List.length_filter_le _ _) hps
      have hall : allG gs ps (i + 1) = (peers gs ps (i + 1)).map fun p => #[.agg (pcl p).toArray] := rfl
      have hseq := fun (b : Nat) (W : World) (q1 : w.heap.size ≤ b) (q2 : b + 1 < W.heap.size) (q3 : Below w.heap.size w W) (q4 : W.heap[b]? = some (.cells #[.slice AP ps.length cp, .slice AT nt ct, .slice (some ⟨c, off, none⟩) gs.length cg, .int .i64 vary] 119 (0, 0))) (q5 : W.heap[b + 1]? = some (.cells #[.int .i64 ((i + 1 : Nat) : Int)] 3 (0, 0))) =>
        ofGrade1 gs vary ps AP cp AT nt ct (some ⟨c, off, none⟩) cg (i + 1) (4 - 1) w.heap.size b (by omega) W q3.size q1 q2 ((HZ.out.1.below (q3.mono HZ.out.2.2.2)).mono HZ.out.2.2.2) (by omega) ((HZ.out.2.1.below (q3.mono HZ.out.2.2.2)).mono HZ.out.2.2.2) (fun p hp => okPol_yrs (HP.out.2.1 p hp).2) (by omega) q4 q5
      generalize hgi : gs[i] = g at hc' hokg hpg hlsp
      generalize peers gs ps (i + 1) = l at *
      have HCC := Lib.hid hc'
      have HL := Lib.hid (And.intro hokg (And.intro hlsp (And.intro hlp (And.intro hmp (And.intro hok1 (And.intro hpl (And.intro hall (And.intro hpg hseq))))))))
      clear hc hc' hokg hlsp hlp hmp hok1 hpl hall hpg hseq hgi hlg
      have hcr := fun j => cell_of_row wr w.heap.size j _ _ _ hR.out.1.b2
      gi_wp2_with (first
        | (show wpListIn _ _ _ _ _ (Oper.mk (some 20) _ _ _ _ _ :: _) _ _
           refine wpListIn_load_at 53 (.tmp 19) rfl rfl rfl (gcl g) HCC.out rowGrade ?_)
        | (show wpListIn _ _ _ _ _ (Oper.mk none (Op.store _ (Operand.tmp 7) (Operand.tmp 20)) _ _ _ _ :: _) _ _
           refine wpListIn_store_blk 53 (.tmp 7) (.tmp 20) rfl rfl rfl rfl (alloc_at0 wr _) rfl (by rw [List.all_toArray, List.all_eq_true]; exact fun v hv => gcl_one [g] v (by simpa using hv)) rowGrade ?_
           intro w5 hP5 hM5
           have hb5 : Below wr.heap.size wr w5 := (grow1 wr _).trans (hP5.below (Nat.le_refl _))
           have H5 := Lib.hid (And.intro (hR.out.1.grows hb5) (And.intro hM5 (And.intro hb5 (show wr.heap.size < w5.heap.size from lt_of_heap hM5))))
           clear hP5 hM5 hb5 hcr)
        | (show wpListIn _ _ _ _ _ (Oper.mk (some 22) _ _ _ _ _ :: _) _ _
           refine wpListIn_load_blk 51 (.tmp 21) rfl rfl rfl H5.out.2.1 (st6 (st0 g)) (st6_drop g) rowSpans3 ?_)
        | (show wpListIn _ _ _ _ _ (Oper.mk none (Op.store _ (Operand.tmp 8) (Operand.tmp 22)) _ _ _ _ :: _) _ _
           refine wpListIn_store_blk 128 (.tmp 8) (.tmp 22) rfl rfl rfl rfl (alloc_at0 w5 _) rfl (by rw [List.all_toArray, List.all_eq_true]; exact st6_one _) rowStress ?_
           intro w6 hP6 hM6
           have hb6 : Below w5.heap.size w5 w6 := (grow1 w5 _).trans (hP6.below (Nat.le_refl _))
           have H6 := Lib.hid (And.intro (H5.out.1.grows hb6) (And.intro ((hb6.block _ (lt_of_heap H5.out.2.1)).trans H5.out.2.1) (And.intro hM6 (show w5.heap.size < w6.heap.size from lt_of_heap hM6))))
           clear hP6 hM6 hb6)
        | (show wpListIn _ _ _ _ _ (Oper.mk (some 23) _ _ _ _ _ :: _) _ _
           refine wpListIn_load_blk 119 (.tmp 2) rfl rfl rfl H6.out.1.b2 [.slice AP ps.length cp, .slice AT nt ct, .slice (some ⟨c, off, none⟩) gs.length cg, .int .i64 vary] at0 rowSheetW ?_)
        | (refine ⟨trivial, ?_⟩
           gi_at_call 95
           refine (callsIn_wide.2 (grOfGrade_any _ _ _ _ rfl _ w6)).mono ?_
           rintro e w7 ⟨rfl, hw7⟩
           have H7 := Lib.hid hw7
           clear hw7))
      have hs7 : w7.heap.size = w6.heap.size + 2 := by rw [H7.out]; simp
      have hb7 : Below w6.heap.size w6 w7 := by rw [H7.out]; exact grow2 _ _ _
      have hc0 : w7.heap[w6.heap.size]? = some (.cells #[.slice AP ps.length cp, .slice AT nt ct, .slice (some ⟨c, off, none⟩) gs.length cg, .int .i64 vary] 119 (0, 0)) := by rw [H7.out]; exact alloc2_at0 _ _ _
      have hc1 : w7.heap[w6.heap.size + 1]? = some (.cells #[.int .i64 ((i + 1 : Nat) : Int)] 3 (0, 0)) := by rw [H7.out]; exact alloc2_at1 _ _ _
      have hS7 := H6.out.1.grows hb7
      have hq1 := HL.out.2.2.2.2.2.2.2.2 w6.heap.size w7 H6.out.1.bel.size (by omega) hS7.bel hc0 hc1
      have hw67 : w6.heap.size ≤ w7.heap.size := hb7.size
      have hszz := H6.out.1.hiw
      have hsz5 := H5.out.1.hiw
      have hszr := hR.out.1.hiw
      have hw56 := H6.out.2.2.2
      have hwr5 := H5.out.2.2.2
      have hmb : w.heap.size + 5 ≤ wr.heap.size := by omega
      refine wpIn_rangeB (q := 9) rfl (by omega) (gf := 137) (lb := #[.pointer (some ⟨w6.heap.size, 0, none⟩), .pointer (some ⟨w6.heap.size + 1, 0, none⟩)]) rfl trivial (enters_of Tryz.func137 (by kernel_rfl) rfl) hq1 (Below.refl _ _) (by omega) (fun k hk => by unfold capG at hk; omega)
        (fun k => .agg (pcl (l[k]?.getD pol0)).toArray) (fun k => .cells (pcl (l[k]?.getD pol0)).toArray 56 (0, 0)) (fun k r hr => ?hrow)
        (fun j => j = w.heap.size + 1 + 1 + 1 + 1 ∨ j = w5.heap.size) (fun k hk => ⟨by omega, fun h => by unfold capG at h; omega, by omega⟩)
        (fun k A => ∃ F', SsC w #[.slice AP ps.length cp, .slice AT nt ct, .slice (some ⟨c, off, none⟩) gs.length cg, .int .i64 vary] A2 ts.length c2 (okI gs vary ps ts i) ds hi (24 * i + k) F' A ∧ A.heap[wr.heap.size]? = some (.cells (gcl g).toArray 53 (0, 0)) ∧ A.heap[w5.heap.size]? = some (.cells (st6 fun s => nearG g vary ts (l.take k) s).toArray 128 (0, 0)) ∧ StrF gs vary ps ts i F' ∧ ∀ (j : Nat) (hj : j < l.length), j < k → F' l[j].id = fun s => own l[j] g ts s)
        (fun k A B' hI hb => ?hI) ?start ?assign ?body ?done
      case hrow =>
        rw [HL.out.2.2.2.2.2.2.1, List.getElem?_map] at hr
        obtain ⟨q, hq, rfl⟩ := Option.map_eq_some_iff.1 hr
        rw [hq]
        rfl
      case hI =>
        obtain ⟨F', i1, i2, i3, i4, i5⟩ := hI
        exact ⟨F', i1.below hb (by omega), (hb.block _ (by omega)).trans i2, (hb.block _ (by omega)).trans i3, i4, i5⟩
      case start =>
        exact ⟨F, hS7.up (Nat.le_refl _) hS7.hiw.2 (by have := hR.out.2.1; omega), (hb7.block _ (lt_of_heap H6.out.2.1)).trans H6.out.2.1, (hb7.block _ (lt_of_heap H6.out.2.2.1)).trans H6.out.2.2.1, hR.out.2.2, fun j _ h => by omega⟩
      case assign =>
        intro L k W K hk hI hK
        simp only [List.setIfInBounds_toArray, List.set_cons_succ, List.set_cons_zero] at hK ⊢
        generalize l[k]?.getD pol0 = q at hK ⊢
        have HK := Lib.hid hK
        clear hK hI hq1 hS7 hc0 hc1 hs7 hb7 hszz hsz5 hszr hw56 hwr5 hmb
        gi_wp2_with
          (show wpListIn _ _ _ _ _ (Oper.mk none (Op.store _ (Operand.tmp 9) (Operand.tmp 27)) _ _ _ _ :: _) _ _
           refine wpListIn_store_blk 56 (.tmp 9) (.tmp 27) rfl rfl rfl rfl (alloc_at0 W _) rfl (by rw [List.all_toArray, List.all_eq_true]; exact fun v hv => pcl_one [q] v (by simpa using hv)) rowPole ?_
           intro w8 hP8 hM8
           have H8 := Lib.hid (And.intro ((grow1 W _).trans (hP8.below (Nat.le_refl _))) hM8)
           clear hP8 hM8)
        exact HK.out _ _ H8.out.1 (Nat.le_refl _) H8.out.2
      case body =>
        rintro L k b b' W hk hwb hbb hbW ⟨F', i1, i2, i3, i4, i5⟩ hbx
        simp only [List.setIfInBounds_toArray, List.set_cons_succ, List.set_cons_zero]
        rw [HL.out.2.2.2.2.2.2.1, List.length_map] at hk
        have hqq : l[k]?.getD pol0 = l[k] := by simp [hk]
        rw [hqq] at hbx ⊢
        have hmem := List.getElem_mem hk
        have hstep := nearG_step g vary ts l k hk
        have hne : ∀ (j : Nat) (hj : j < l.length), j ≠ k → l[j].id ≠ l[k].id := fun j hj e => HL.out.2.2.1.ne hj hk e
        have hqp := HP.out.2.1 l[k] ((HL.out.2.2.2.1 l[k]).1 hmem).1
        have hqg := ((HL.out.2.2.2.1 l[k]).1 hmem).2
        have hup1 : ∀ p ∈ ps, gOf gs p ≤ i → p.id ≠ l[k].id := fun p hp h e => by
          have := HP.out.1.inj hp ((HL.out.2.2.2.1 l[k]).1 hmem).1 e
          rw [this] at h
          omega
        have hlen12 := HL.out.2.2.2.2.2.1
        have hown : (∀ (j : Nat) (hj : j < l.length), j < k + 1 → updI F' l[k].id (fun s => own l[k] g ts s) l[j].id = fun s => own l[j] g ts s) := fun j hj hjk => by
          unfold updI
          by_cases e : j = k
          · subst e; rw [if_pos rfl]
          · rw [if_neg (hne j hj e)]; exact i5 j hj (by omega)
        have hstr : StrF gs vary ps ts i (updI F' l[k].id (fun s => own l[k] g ts s)) := fun p hp h1 h2 => by
          unfold updI
          rw [if_neg (hup1 p hp h2)]
          exact i4 p hp h1 h2
        generalize l[k] = q at hbx hstep hqp hqg hown hstr ⊢
        have hte := fun (W' : World) (h : Below W.heap.size W W') => grTested_any q g ts A2 c2 B W' (Nat.le_trans HZ.out.2.2.2 (Nat.le_trans i1.bel.size h.size)) (HZ.out.2.2.1.below ((i1.bel.trans (h.mono i1.bel.size)).mono HZ.out.2.2.2)) hl2 (okPol_secs hqp.2) HP.out.2.2.1 HL.out.1.g
        have hsm : smallF (fun s => own q g ts s) := fun s hs => by
          have := own_small (k := s) (okPol_secs hqp.2) HP.out.2.2.1 (HL.out.1 s hs).1 (HL.out.1 s hs).2
          dsimp only
          omega
        have hid : idOk q.id := by have := hqp.1; unfold idOk; omega
        have HW := Lib.hid (And.intro i1 (And.intro i2 (And.intro i3 (And.intro hbx (And.intro hstep (And.intro hown (And.intro hstr (And.intro hte (And.intro hsm hid)))))))))
        have hk12 : k < 12 := by omega
        have hbW' : b' < W.heap.size := lt_of_heap hbx
        clear i1 i2 i3 i4 i5 hbx hstep hown hstr hte hsm hid hne hup1 hqg hmem hqq hlen12 hq1 hS7 hc0 hc1 hs7 hb7
        gi_wp2_with fail
        refine wpIn_walk (C := OnceC W 7 (fun W2 => ∃ W1, Below W.heap.size W W1 ∧ OwnF W2 (w.heap.size + 1 + 1 + 1 + 1) (24 * i + k + 1) (updI F' q.id (fun s => own q g ts s)) ∧ W1.grownBy W2 (some (w.heap.size + 1 + 1 + 1 + 1)))) 71 (by kernel_rfl) (by kernel_rfl) (by kernel_rfl) rfl ⟨fun _ => (Below.refl _ _).drew, (fun e => by cases e)⟩ ?_
        simp only []
        repeat (first
          | (refine' R6.WalkR.det (fun _ => rfl) (fun D ρ W1 hK hC => ?_) ?_
             rotate_left
             · have hp := hC.pre (hK.post 7 (by decide +kernel))
               have f4 : W1.cell? ⟨w.heap.size + 1 + 1, 0, none⟩ = some (.map (some (w.heap.size + 1 + 1 + 1 + 1))) := cell_of_row W1 _ 0 _ _ _ ((hp.block _ (lt_of_heap HW.out.1.b4)).trans HW.out.1.b4)
               have f9 : W1.cell? ⟨b', 0, none⟩ = some (.int .i64 q.id) := cell_of_row W1 _ 0 _ _ _ ((hp.block _ (lt_of_heap HW.out.2.2.2.1)).trans HW.out.2.2.2.1)
               have HC := Lib.hid hC
               clear hC hK hp
               go_simp
               with_reducible exact ⟨rfl, HC.out.move (by decide)⟩
             simp only [Act.put, List.setIfInBounds_toArray, List.set_cons_succ, List.set_cons_zero]))
        refine' R6.WalkR.det (fun _ => rfl) (fun D ρ W1 hK hC => ?_) ?_
        rotate_left
        · have hp := hC.pre (hK.post 7 (by decide +kernel))
          exact gives_load_blk 56 (.tmp 9) rfl rfl ((hp.block _ (lt_of_heap HW.out.2.2.2.1)).trans HW.out.2.2.2.1) (pcl q) at0 rowPole ⟨rfl, hC.move (by decide)⟩
        simp only [Act.put, List.setIfInBounds_toArray, List.set_cons_succ, List.set_cons_zero]
        refine' R6.WalkR.det (fun _ => rfl) (fun D ρ W1 hK hC => ?_) ?_
        rotate_left
        · have hp := hC.pre (hK.post 7 (by decide +kernel))
          exact gives_load_blk 53 (.tmp 7) rfl rfl ((hp.block _ (lt_of_heap HW.out.2.1)).trans HW.out.2.1) (gcl g) at0 rowGrade ⟨rfl, hC.move (by decide)⟩
        simp only [Act.put, List.setIfInBounds_toArray, List.set_cons_succ, List.set_cons_zero]
        repeat (first
          | (refine' R6.WalkR.det (fun _ => rfl) (fun D ρ W1 hK hC => ?_) ?_
             rotate_left
             · have h7 := hK.post 7 (by decide +kernel)
               have hp := hC.pre h7
               have f3 : W1.cell? ⟨w.heap.size + 1, 0, none⟩ = some (.slice A2 ts.length c2) := cell_of_row W1 _ 0 _ _ _ ((hp.block _ (lt_of_heap HW.out.1.b3)).trans HW.out.1.b3)
               have HC := Lib.hid hC
               have HPP := Lib.hid (And.intro hp h7)
               clear hC hK hp h7
               go_simp
               first
                 | with_reducible exact ⟨rfl, HC.out.move (by decide)⟩
                 | (go_at_call 96; refine (HW.out.2.2.2.2.2.2.2.1 W1 HPP.out.1).mono ?_; rintro e W2 ⟨rfl, hB2⟩; exact ⟨_, rfl, rfl, HC.out.next HPP.out.2 hB2 (by decide)⟩)
             simp only [Act.put, List.setIfInBounds_toArray, List.set_cons_succ, List.set_cons_zero]))
        refine' R6.WalkR.det (c := undef) (fun _ => rfl) (fun D ρ W1 hK hC => ?_) ?_
        · have hp := hC.pre hK.me
          refine gives_keep (.tmp 28) (.tmp 30) (.tmp 34) rfl rfl (HW.out.1.map.block (hp.block _ HW.out.1.map.lt)) (by simp only [maxLen]; omega) HW.out.2.2.2.2.2.2.2.2.2 rfl (f := fun s => own q g ts s) rfl ?_
          intro w' hO' hg'
          exact ⟨rfl, OnceC.fire ⟨_, hp, hO', hg'⟩⟩
        simp only [Act.put, List.setIfInBounds_toArray, List.set_cons_succ, List.set_cons_zero]
        refine R6.WalkR.nil (fun D ρ W2 hD hC => ?_)
        obtain ⟨W1, hp1, hO1, hg1⟩ := hC.post (hD 7 (by omega))
        have hmne : ∀ {x : Nat}, w.heap.size + 5 ≤ x → some x ≠ some (w.heap.size + 1 + 1 + 1 + 1) := fun {x} h e => by simp only [Option.some.injEq] at e; omega
        have q2 := (hg1.block wr.heap.size (by have := hp1.size; have := lt_of_heap HW.out.2.1; omega) (hmne (by omega))).trans ((hp1.block _ (lt_of_heap HW.out.2.1)).trans HW.out.2.1)
        have q3 := (hg1.block w5.heap.size (by have := hp1.size; have := lt_of_heap HW.out.2.2.1; omega) (hmne (by omega))).trans ((hp1.block _ (lt_of_heap HW.out.2.2.1)).trans HW.out.2.2.1)
        have q4 := (hg1.block b' (by have := hp1.size; omega) (hmne (by omega))).trans ((hp1.block _ (lt_of_heap HW.out.2.2.2.1)).trans HW.out.2.2.2.1)
        have q1 := (HW.out.1.grows hp1).keep hg1 hO1
        have qk : KeepsX (fun j => (j = w.heap.size + 1 + 1 + 1 + 1 ∨ j = w5.heap.size) ∨ b ≤ j) W W2 := (keepsX_grows hp1).trans (keepsX_grown hg1 (.inl (.inl rfl)))
        have H2 := Lib.hid (And.intro q1 (And.intro q2 (And.intro q3 (And.intro q4 qk))))
        clear hC hD hp1 hO1 hg1 q1 q2 q3 q4 qk
        gi_wp2_with fail
        refine wpIn_walk (C := OnceC W2 10 (fun W4 => ∃ W3, Below W2.heap.size W2 W3 ∧ Put W3 W4 w5.heap.size ∧ W4.heap[w5.heap.size]? = some (.cells (st6 fun s => nearG g vary ts (l.take (k + 1)) s).toArray 128 (0, 0)))) 71 (by kernel_rfl) (by kernel_rfl) (by kernel_rfl) rfl ⟨fun _ => (Below.refl _ _).drew, (fun e => by cases e)⟩ ?_
        simp only []
        refine' R6.WalkR.det (fun _ => rfl) (fun D ρ W1 hK hC => ?_) ?_
        rotate_left
        · have hp := hC.pre (hK.post 10 (by decide +kernel))
          exact gives_load_blk 128 (.tmp 8) rfl rfl ((hp.block _ (lt_of_heap H2.out.2.2.1)).trans H2.out.2.2.1) (st6 fun s => nearG g vary ts (l.take k) s) at0 rowStress ⟨rfl, hC.move (by decide)⟩
        simp only [Act.put, List.setIfInBounds_toArray, List.set_cons_succ, List.set_cons_zero]
        repeat (first
          | (refine' R6.WalkR.det (fun _ => rfl) (fun D ρ W1 hK hC => ?_) ?_
             rotate_left
             · have hp := hC.pre (hK.post 10 (by decide +kernel))
               have f4 : W1.cell? ⟨w.heap.size + 1 + 1, 0, none⟩ = some (.map (some (w.heap.size + 1 + 1 + 1 + 1))) := cell_of_row W1 _ 0 _ _ _ ((hp.block _ (lt_of_heap H2.out.1.b4)).trans H2.out.1.b4)
               have f9 : W1.cell? ⟨b', 0, none⟩ = some (.int .i64 q.id) := cell_of_row W1 _ 0 _ _ _ ((hp.block _ (lt_of_heap H2.out.2.2.2.1)).trans H2.out.2.2.2.1)
               have HC := Lib.hid hC
               clear hC hK hp
               go_simp
               with_reducible exact ⟨rfl, HC.out.move (by decide)⟩
             simp only [Act.put, List.setIfInBounds_toArray, List.set_cons_succ, List.set_cons_zero]))
        refine' R6.WalkR.det (c := .agg (st6 fun s => own q g ts s).toArray) (fun _ => rfl) (fun D ρ W1 hK hC => ?_) ?_
        · have hp := hC.pre (hK.post 10 (by decide +kernel))
          refine gives_look (.tmp 36) (.tmp 38) rfl rfl (H2.out.1.map.block (hp.block _ H2.out.1.map.lt)) HW.out.2.2.2.2.2.2.2.2.2 rfl ⟨?_, hC.move (by decide)⟩
          unfold stv6 updI
          rw [if_pos rfl]
        simp only [Act.put, List.setIfInBounds_toArray, List.set_cons_succ, List.set_cons_zero]
        repeat (first
          | (refine' R6.WalkR.det (fun _ => rfl) (fun D ρ W1 hK hC => ?_) ?_
             rotate_left
             · have h7 := hK.post 10 (by decide +kernel)
               have hp := hC.pre h7
               have f2 : W1.cell? ⟨w.heap.size, 3, none⟩ = some (.int .i64 vary) := cell_of_row W1 _ 3 _ _ _ ((hp.block _ (lt_of_heap H2.out.1.b2)).trans H2.out.1.b2)
               have HC := Lib.hid hC
               have H7' := Lib.hid h7
               clear hC hK hp h7
               go_simp
               first
                 | with_reducible exact ⟨rfl, HC.out.move (by decide)⟩
                 | (go_at_call 97; refine (grBoth_any (fun s => nearG g vary ts (l.take k) s) (fun s => wid1 vary (own q g ts s)) W1).mono ?_; rintro e W2' ⟨rfl, hB2⟩; exact ⟨_, rfl, rfl, HC.out.next H7'.out hB2 (by decide)⟩)
                 | (go_at_call 98; refine (grWider_any (fun s => own q g ts s) vary HW.out.2.2.2.2.2.2.2.2.1 hv W1).mono ?_; rintro e W2' ⟨rfl, hB2⟩; exact ⟨_, rfl, rfl, HC.out.next H7'.out hB2 (by decide)⟩)
             simp only [Act.put, List.setIfInBounds_toArray, List.set_cons_succ, List.set_cons_zero]))
        refine' R6.WalkR.det (c := undef) (fun _ => rfl) (fun D ρ W1 hK hC => ?_) ?_
        · have hp := hC.pre hK.me
          refine gives_store_blk 128 (.tmp 8) (.tmp 44) (cs := st6 fun s => cut1 (nearG g vary ts (l.take k) s) (wid1 vary (own q g ts s))) rfl rfl rfl ((hp.block _ (lt_of_heap H2.out.2.2.1)).trans H2.out.2.2.1) (Nat.le_of_ble_eq_true rfl) (st6_one _) rowStress ?_
          intro W' hP hM'
          rw [splice_whole (by rfl), ← HW.out.2.2.2.2.1] at hM'
          exact ⟨rfl, OnceC.fire ⟨_, hp, hP, hM'⟩⟩
        simp only [Act.put, List.setIfInBounds_toArray, List.set_cons_succ, List.set_cons_zero]
        refine R6.WalkR.nil (fun D ρ W4 hD hC => ?_)
        obtain ⟨W3, hp3, hP4, hM4⟩ := hC.post (hD 10 (by omega))
        have q3' := (hp3.block _ (lt_of_heap H2.out.2.2.1)).trans H2.out.2.2.1
        have e1 := (H2.out.1.grows hp3).put hP4 (by omega) q3'
        have e2 := (hP4.other wr.heap.size (by omega)).trans ((hp3.block _ (lt_of_heap H2.out.2.1)).trans H2.out.2.1)
        have ek := (H2.out.2.2.2.2.trans (keepsX_grows hp3)).trans (hP4.keepsX (fun j => (j = w.heap.size + 1 + 1 + 1 + 1 ∨ j = w5.heap.size) ∨ b ≤ j) (.inl (.inr rfl)))
        have H4 := Lib.hid (And.intro e1 (And.intro e2 (And.intro hM4 ek)))
        clear hC hD hp3 hP4 hM4 q3' e1 e2 ek
        gi_wp2_with fail
        exact ⟨H4.out.2.2.2, _, H4.out.1, H4.out.2.1, H4.out.2.2.1, HW.out.2.2.2.2.2.2.1, HW.out.2.2.2.2.2.1⟩
      case done =>
        rintro D Wd hD ⟨F1, i1, i2, i3, i4, i5⟩ hDm
        have hall : (allG gs ps (i + 1)).length = l.length := by rw [HL.out.2.2.2.2.2.2.1, List.length_map]
        rw [hall] at i1 i3 i5
        rw [List.take_length] at i3
        have hown : ∀ (j : Nat) (hj : j < l.length), F1 l[j].id = fun s => own l[j] g ts s := fun j hj => i5 j hj hj
        have hDw : D < Wd.heap.size := lt_of_heap hDm
        have iS := i1.push (D := D) (by omega) hDm
        have HD := Lib.hid (And.intro iS (And.intro i2 (And.intro i3 (And.intro i4 hown))))
        clear i1 i2 i3 i4 i5 iS hown hall hDm hq1 hS7 hc0 hc1 hs7 hb7
        gi_wp2_with (first
          | (show wpListIn _ _ _ _ _ (Oper.mk (some 45) _ _ _ _ _ :: _) _ _
             refine wpListIn_load_blk 119 (.tmp 2) rfl rfl rfl HD.out.1.b2 [.slice AP ps.length cp, .slice AT nt ct, .slice (some ⟨c, off, none⟩) gs.length cg, .int .i64 vary] at0 rowSheetW ?_)
          | (refine ⟨trivial, ?_⟩
             gi_at_call 95
             refine (callsIn_wide.2 (grOfGrade_any _ _ _ _ rfl _ Wd)).mono ?_
             rintro e w8 ⟨rfl, hw8⟩
             have H8 := Lib.hid hw8
             clear hw8))
        have hs8 : w8.heap.size = Wd.heap.size + 2 := by rw [H8.out]; simp
        have hb8 : Below Wd.heap.size Wd w8 := by rw [H8.out]; exact grow2 _ _ _
        have hc0 : w8.heap[Wd.heap.size]? = some (.cells #[.slice AP ps.length cp, .slice AT nt ct, .slice (some ⟨c, off, none⟩) gs.length cg, .int .i64 vary] 119 (0, 0)) := by rw [H8.out]; exact alloc2_at0 _ _ _
        have hc1 : w8.heap[Wd.heap.size + 1]? = some (.cells #[.int .i64 ((i + 1 : Nat) : Int)] 3 (0, 0)) := by rw [H8.out]; exact alloc2_at1 _ _ _
        have hS8 := HD.out.1.grows hb8
        have hw78 : Wd.heap.size ≤ w8.heap.size := hb8.size
        have hiwd := HD.out.1.hiw
        have hq2 := HL.out.2.2.2.2.2.2.2.2 Wd.heap.size w8 HD.out.1.bel.size (by omega) hS8.bel hc0 hc1
        have hw5d : w5.heap.size < Wd.heap.size := lt_of_heap HD.out.2.2.1
        refine wpIn_rangeB (q := 10) rfl (by omega) (gf := 137) (lb := #[.pointer (some ⟨Wd.heap.size, 0, none⟩), .pointer (some ⟨Wd.heap.size + 1, 0, none⟩)]) rfl trivial (enters_of Tryz.func137 (by kernel_rfl) rfl) hq2 (Below.refl _ _) (by omega) (fun k hk => by unfold capG at hk; omega)
          (fun k => .agg (pcl (l[k]?.getD pol0)).toArray) (fun k => .cells (pcl (l[k]?.getD pol0)).toArray 56 (0, 0)) (fun k r hr => ?hrow2)
          (fun j => j = w.heap.size + 1 + 1 + 1 + 1 ∨ j = w.heap.size + 1 + 1 + 1) (fun k hk => ⟨by omega, fun h => by unfold capG at h; omega, by omega⟩)
          (fun k A => ∃ F', SsC w #[.slice AP ps.length cp, .slice AT nt ct, .slice (some ⟨c, off, none⟩) gs.length cg, .int .i64 vary] A2 ts.length c2 (okI gs vary ps ts i && (l.take k).all (okL gs vary ps ts)) ({ target := .collected D, args := #[] } :: ds) (D + 1) (24 * i + 12 + k) F' A ∧ A.heap[w5.heap.size]? = some (.cells (st6 fun s => nearG g vary ts l s).toArray 128 (0, 0)) ∧ StrF gs vary ps ts i F' ∧ ∀ (j : Nat) (hj : j < l.length), F' l[j].id = if j < k then (fun s => leftG g vary ts l s l[j]) else fun s => own l[j] g ts s)
          (fun k A B' hI hb => ?hI2) ?start2 ?assign2 ?body2 ?done2
        case hrow2 =>
          rw [HL.out.2.2.2.2.2.2.1, List.getElem?_map] at hr
          obtain ⟨q, hq, rfl⟩ := Option.map_eq_some_iff.1 hr
          rw [hq]
          rfl
        case hI2 =>
          obtain ⟨F', i1, i3, i4, i5⟩ := hI
          exact ⟨F', i1.below hb (by omega), (hb.block _ (by omega)).trans i3, i4, i5⟩
        case start2 =>
          refine ⟨F1, ?_, (hb8.block _ hw5d).trans HD.out.2.2.1, HD.out.2.2.2.1, fun j hj => by rw [if_neg (by omega)]; exact HD.out.2.2.2.2 j hj⟩
          have e : (okI gs vary ps ts i && (l.take 0).all (okL gs vary ps ts)) = okI gs vary ps ts i := by simp
          rw [e]
          exact hS8.up (Nat.le_refl _) hS8.hiw.2 (by have := HL.out.2.2.2.2.2.1; omega)
        case assign2 =>
          intro L k W K hk hI hK
          simp only [List.setIfInBounds_toArray, List.set_cons_succ, List.set_cons_zero] at hK ⊢
          generalize l[k]?.getD pol0 = q at hK ⊢
          have HK := Lib.hid hK
          clear hK hI hq2 hS8 hc0 hc1 hs8 hb8 hszz hsz5 hszr hw56 hwr5 hmb hw78 hiwd hw5d
          gi_wp2_with
            (show wpListIn _ _ _ _ _ (Oper.mk none (Op.store _ (Operand.tmp 10) (Operand.tmp 49)) _ _ _ _ :: _) _ _
             refine wpListIn_store_blk 56 (.tmp 10) (.tmp 49) rfl rfl rfl rfl (alloc_at0 W _) rfl (by rw [List.all_toArray, List.all_eq_true]; exact fun v hv => pcl_one [q] v (by simpa using hv)) rowPole ?_
             intro w9 hP9 hM9
             have H9 := Lib.hid (And.intro ((grow1 W _).trans (hP9.below (Nat.le_refl _))) hM9)
             clear hP9 hM9)
          exact HK.out _ _ H9.out.1 (Nat.le_refl _) H9.out.2
        case body2 =>
          rintro L k b b' W hk hwb hbb hbW ⟨F', i1, i3, i4, i5⟩ hbx
          simp only [List.setIfInBounds_toArray, List.set_cons_succ, List.set_cons_zero]
          rw [HL.out.2.2.2.2.2.2.1, List.length_map] at hk
          have hqq : l[k]?.getD pol0 = l[k] := by simp [hk]
          rw [hqq] at hbx ⊢
          have hmem := List.getElem_mem hk
          have hne : ∀ (j : Nat) (hj : j < l.length), j ≠ k → l[j].id ≠ l[k].id := fun j hj e => HL.out.2.2.1.ne hj hk e
          have hqp := HP.out.2.1 l[k] ((HL.out.2.2.2.1 l[k]).1 hmem).1
          have hqg := ((HL.out.2.2.2.1 l[k]).1 hmem).2
          have hup1 : ∀ p ∈ ps, gOf gs p ≤ i → p.id ≠ l[k].id := fun p hp h e => by
            have := HP.out.1.inj hp ((HL.out.2.2.2.1 l[k]).1 hmem).1 e
            rw [this] at h
            omega
          have hnow : F' l[k].id = fun s => own l[k] g ts s := by rw [i5 k hk, if_neg (by omega)]
          have hnew : ∀ (j : Nat) (hj : j < l.length), updI F' l[k].id (fun s => leftG g vary ts l s l[k]) l[j].id = if j < k + 1 then (fun s => leftG g vary ts l s l[j]) else fun s => own l[j] g ts s := fun j hj => by
            unfold updI
            by_cases e : j = k
            · subst e; rw [if_pos rfl, if_pos (by omega)]
            · rw [if_neg (hne j hj e), i5 j hj]
              by_cases e2 : j < k
              · rw [if_pos e2, if_pos (by omega)]
              · rw [if_neg e2, if_neg (by omega)]
          have hstr : StrF gs vary ps ts i (updI F' l[k].id (fun s => leftG g vary ts l s l[k])) := fun p hp h1 h2 => by
            unfold updI
            rw [if_neg (hup1 p hp h2)]
            exact i4 p hp h1 h2
          have hal := okI_take (gs := gs) (vary := vary) (ps := ps) (ts := ts) hk
          have hokl : okL gs vary ps ts l[k] = (List.range 3).all fun s => decide ((leftG g vary ts l s l[k]).1 ≤ (leftG g vary ts l s l[k]).2) := by
            have := HL.out.2.1 l[k] hmem
            unfold okL
            congr 1
            funext s
            rw [congrFun this s]
          generalize l[k] = q at hbx hqp hqg hnow hnew hstr hal hokl ⊢
          have hid : idOk q.id := by have := hqp.1; unfold idOk; omega
          have HW := Lib.hid (And.intro i1 (And.intro i3 (And.intro hbx (And.intro hnow (And.intro hnew (And.intro hstr (And.intro hal (And.intro hokl hid))))))))
          have hlen12 := HL.out.2.2.2.2.2.1
          have hk12 : k < 12 := by omega
          have hbW' : b' < W.heap.size := lt_of_heap hbx
          clear i1 i3 i4 i5 hbx hnow hnew hstr hal hokl hid hne hup1 hqg hmem hqq hlen12 hq2 hS8 hc0 hc1 hs8 hb8
          gi_wp2_with fail
          refine wpIn_walk (C := OnceC W 9 (fun W2 => ∃ W1, Below W.heap.size W W1 ∧ OwnF W2 (w.heap.size + 1 + 1 + 1 + 1) (24 * i + 12 + k + 1) (updI F' q.id (fun s => leftG g vary ts l s q)) ∧ W1.grownBy W2 (some (w.heap.size + 1 + 1 + 1 + 1)))) 71 (by kernel_rfl) (by kernel_rfl) (by kernel_rfl) rfl ⟨fun _ => (Below.refl _ _).drew, (fun e => by cases e)⟩ ?_
          simp only []
          repeat (first
            | (refine' R6.WalkR.det (fun _ => rfl) (fun D' ρ W1 hK hC => ?_) ?_
               rotate_left
               · have hp := hC.pre (hK.post 9 (by decide +kernel))
                 have f4 : W1.cell? ⟨w.heap.size + 1 + 1, 0, none⟩ = some (.map (some (w.heap.size + 1 + 1 + 1 + 1))) := cell_of_row W1 _ 0 _ _ _ ((hp.block _ (lt_of_heap HW.out.1.b4)).trans HW.out.1.b4)
                 have f9 : W1.cell? ⟨b', 0, none⟩ = some (.int .i64 q.id) := cell_of_row W1 _ 0 _ _ _ ((hp.block _ (lt_of_heap HW.out.2.2.1)).trans HW.out.2.2.1)
                 have HC := Lib.hid hC
                 clear hC hK hp
                 go_simp
                 with_reducible exact ⟨rfl, HC.out.move (by decide)⟩
               simp only [Act.put, List.setIfInBounds_toArray, List.set_cons_succ, List.set_cons_zero]))
          refine' R6.WalkR.det (c := .agg (st6 fun s => own q g ts s).toArray) (fun _ => rfl) (fun D' ρ W1 hK hC => ?_) ?_
          · have hp := hC.pre (hK.post 9 (by decide +kernel))
            refine gives_look (.tmp 53) (.tmp 55) rfl rfl (HW.out.1.map.block (hp.block _ HW.out.1.map.lt)) HW.out.2.2.2.2.2.2.2.2 rfl ⟨?_, hC.move (by decide)⟩
            unfold stv6
            rw [HW.out.2.2.2.1]
          simp only [Act.put, List.setIfInBounds_toArray, List.set_cons_succ, List.set_cons_zero]
          refine' R6.WalkR.det (fun _ => rfl) (fun D' ρ W1 hK hC => ?_) ?_
          rotate_left
          · have hp := hC.pre (hK.post 9 (by decide +kernel))
            exact gives_load_blk 128 (.tmp 8) rfl rfl ((hp.block _ (lt_of_heap HW.out.2.1)).trans HW.out.2.1) (st6 fun s => nearG g vary ts l s) at0 rowStress ⟨rfl, hC.move (by decide)⟩
          simp only [Act.put, List.setIfInBounds_toArray, List.set_cons_succ, List.set_cons_zero]
          refine' R6.WalkR.det (fun _ => rfl) (fun D' ρ W1 hK hC => ?_) ?_
          rotate_left
          · have h7 := hK.post 9 (by decide +kernel)
            have HC := Lib.hid hC
            have H7' := Lib.hid h7
            clear hC hK h7
            go_simp
            go_at_call 97
            refine (grBoth_any (fun s => own q g ts s) (fun s => nearG g vary ts l s) W1).mono ?_
            rintro e W2' ⟨rfl, hB2⟩
            exact ⟨_, rfl, rfl, HC.out.next H7'.out hB2 (by decide)⟩
          simp only [Act.put, List.setIfInBounds_toArray, List.set_cons_succ, List.set_cons_zero]
          refine' R6.WalkR.det (c := undef) (fun _ => rfl) (fun D' ρ W1 hK hC => ?_) ?_
          · have hp := hC.pre hK.me
            refine gives_keep (.tmp 50) (.tmp 52) (.tmp 58) rfl rfl (HW.out.1.map.block (hp.block _ HW.out.1.map.lt)) (by simp only [maxLen]; omega) HW.out.2.2.2.2.2.2.2.2 rfl (f := fun s => leftG g vary ts l s q) rfl ?_
            intro w' hO' hg'
            exact ⟨rfl, OnceC.fire ⟨_, hp, hO', hg'⟩⟩
          simp only [Act.put, List.setIfInBounds_toArray, List.set_cons_succ, List.set_cons_zero]
          refine R6.WalkR.nil (fun D' ρ W2 hD' hC => ?_)
          obtain ⟨W1, hp1, hO1, hg1⟩ := hC.post (hD' 9 (by omega))
          have hmne : ∀ {x : Nat}, w.heap.size + 5 ≤ x → some x ≠ some (w.heap.size + 1 + 1 + 1 + 1) := fun {x} h e => by simp only [Option.some.injEq] at e; omega
          have q3 := (hg1.block w5.heap.size (by have := hp1.size; have := lt_of_heap HW.out.2.1; omega) (hmne (by omega))).trans ((hp1.block _ (lt_of_heap HW.out.2.1)).trans HW.out.2.1)
          have q4 := (hg1.block b' (by have := hp1.size; omega) (hmne (by omega))).trans ((hp1.block _ (lt_of_heap HW.out.2.2.1)).trans HW.out.2.2.1)
          have q1 := (HW.out.1.grows hp1).keep hg1 hO1
          have qk : KeepsX (fun j => (j = w.heap.size + 1 + 1 + 1 + 1 ∨ j = w.heap.size + 1 + 1 + 1) ∨ b ≤ j) W W2 := (keepsX_grows hp1).trans (keepsX_grown hg1 (.inl (.inl rfl)))
          have H2 := Lib.hid (And.intro q1 (And.intro q3 (And.intro q4 qk)))
          have f5 : W2.cell? ⟨w.heap.size + 1 + 1 + 1, 0, none⟩ = some (.bool (okI gs vary ps ts i && (l.take k).all (okL gs vary ps ts))) := cell_of_row W2 _ 0 _ _ _ q1.b5
          have f4 : W2.cell? ⟨w.heap.size + 1 + 1, 0, none⟩ = some (.map (some (w.heap.size + 1 + 1 + 1 + 1))) := cell_of_row W2 _ 0 _ _ _ q1.b4
          have f9 : W2.cell? ⟨b', 0, none⟩ = some (.int .i64 q.id) := cell_of_row W2 _ 0 _ _ _ q4
          have hno := fun W' => grNone_any (fun s => leftG g vary ts l s q) W'
          have hal := HW.out.2.2.2.2.2.2.1
          rw [HW.out.2.2.2.2.2.2.2.1] at hal
          have hal2 : (okI gs vary ps ts i && (l.take (k + 1)).all (okL gs vary ps ts)) = ((okI gs vary ps ts i && (l.take k).all (okL gs vary ps ts)) && (List.range 3).all fun s => decide ((leftG g vary ts l s q).1 ≤ (leftG g vary ts l s q).2)) := by rw [hal, Bool.and_assoc]
          generalize hAK : (okI gs vary ps ts i && (l.take k).all (okL gs vary ps ts)) = ak at f5 hal2
          generalize ((List.range 3).all fun s => decide ((leftG g vary ts l s q).1 ≤ (leftG g vary ts l s q).2)) = vk at hno hal2
          have HAL := Lib.hid (And.intro hal2 hAK)
          have HNO := Lib.hid hno
          clear hC hD' hp1 hO1 hg1 q1 q3 q4 qk hal hal2 hno hAK
          rename_i hKx
          refine hKx _ _ ?_
          clear hKx
          cases ak
          · gi_wp2_with (first
              | (show wpListIn _ _ _ _ _ (Oper.mk none (Op.store _ (Operand.tmp 5) (Operand.tmp 67)) _ _ _ _ :: _) _ _
                 refine wpListIn_store_v5 4 (.tmp 5) (.tmp 67) rfl rfl rfl rfl rfl rfl rfl (L := [.bool _]) H2.out.1.b5 (by simp) (by kernel_rfl) ?_
                 intro w9 hP9 hM9
                 have e1 := H2.out.1.put5 hP9 hM9
                 have H9 := Lib.hid (And.intro e1 (And.intro ((hP9.other _ (by omega)).trans H2.out.2.1) (H2.out.2.2.2.trans (hP9.keepsX _ (.inl (.inr rfl))))))
                 clear hP9 hM9 e1)
              | (refine ⟨trivial, ?_⟩))
            exact ⟨H9.out.2.2, _, by rw [HAL.out.1]; exact H9.out.1, H9.out.2.1, HW.out.2.2.2.2.2.1, HW.out.2.2.2.2.1⟩
          · gi_wp2_with (first
              | (show wpListIn _ _ _ _ _ (Oper.mk (some 64) _ _ _ _ _ :: _) _ _
                 refine wpListIn_gives (R := fun v w' => v = .agg (st6 fun s => leftG g vary ts l s q).toArray ∧ W2 = w') rfl (fun c h => by cases h) (gives_look (.tmp 61) (.tmp 63) rfl rfl H2.out.1.map HW.out.2.2.2.2.2.2.2.2 rfl ⟨by unfold stv6 updI; rw [if_pos rfl], rfl⟩) ?_
                 rintro _ _ ⟨rfl, rfl⟩)
              | fail)
            refine ⟨trivial, ?_⟩
            refine callsIn_of (HNO.out W2) ?_
            rintro e w8' ⟨rfl, hB8⟩
            have e1 := H2.out.1.grows hB8
            have f58 := e1.b5
            have HB8 := Lib.hid (And.intro e1 (And.intro ((hB8.block _ (lt_of_heap H2.out.2.1)).trans H2.out.2.1) (H2.out.2.2.2.trans (keepsX_grows hB8))))
            clear hB8 e1 f58
            gi_wp2_with (first
              | (show wpListIn _ _ _ _ _ (Oper.mk none (Op.store _ (Operand.tmp 5) (Operand.tmp 67)) _ _ _ _ :: _) _ _
                 refine wpListIn_store_v5 4 (.tmp 5) (.tmp 67) rfl rfl rfl rfl rfl rfl rfl (L := [.bool _]) HB8.out.1.b5 (by simp) (by kernel_rfl) ?_
                 intro w9 hP9 hM9
                 have e1 := HB8.out.1.put5 hP9 hM9
                 have H9 := Lib.hid (And.intro e1 (And.intro ((hP9.other _ (by omega)).trans HB8.out.2.1) (HB8.out.2.2.trans (hP9.keepsX _ (.inl (.inr rfl))))))
                 clear hP9 hM9 e1))
            exact ⟨H9.out.2.2, _, by rw [HAL.out.1]; have := H9.out.1; simp only [Bool.not_not, Bool.true_and] at this ⊢; exact this, H9.out.2.1, HW.out.2.2.2.2.2.1, HW.out.2.2.2.2.1⟩
        case done2 =>
          rintro D2 We hD2 ⟨F2, i1, i3, i4, i5⟩ hDm
          have hall : (allG gs ps (i + 1)).length = l.length := by rw [HL.out.2.2.2.2.2.2.1, List.length_map]
          rw [hall] at i1 i5
          rw [List.take_length, ← HL.out.2.2.2.2.1] at i1
          have iS := i1.push (D := D2) (by omega) hDm
          have hstr : StrF gs vary ps ts (i + 1) F2 := fun p hp h1 h2 => by
            by_cases e : gOf gs p ≤ i
            · exact i4 p hp h1 e
            · obtain ⟨j, hj, rfl⟩ := List.mem_iff_getElem.1 ((HL.out.2.2.2.1 p).2 ⟨hp, by omega⟩)
              rw [i5 j hj, if_pos hj]
              exact HL.out.2.1 _ (List.getElem_mem hj)
          have hln := HL.out.2.2.2.2.2.1
          have HE := Lib.hid (And.intro (iS.up (m := 24 * (i + 1)) (Nat.le_refl _) iS.hiw.2 (by omega)) hstr)
          clear i1 i3 i4 i5 iS hstr hall hDm hq2 hS8 hc0 hc1 hs8 hb8 hln
          gi_wp2_with fail
          subst hD
          refine ⟨?_, ?_⟩
          · (repeat apply Exists.intro)
            refine ⟨⟨i + 1, D2 + 1, 24 * (i + 1), F2, by omega, by go_num, HE.out.1, Nat.le_refl _, HE.out.2⟩, rfl⟩
          · simp [intOf] <;> omega
    · have hie : i = gs.length := by omega
      have hiz : ¬ (i : Int) < gs.length := by omega
      have HI := Lib.hid hie
      clear hie
      gi_wp2_with fail
      refine wpIn_wide.2 ?_
      refine R6.wp_walk (C := fun _ _ W => SsC w #[.slice AP ps.length cp, .slice AT nt ct, .slice AG gs.length cg, .int .i64 vary] A2 ts.length c2 (okI gs vary ps ts i) ds hi n F W) 71 (by kernel_rfl) (by kernel_rfl) rfl (hR.out.1.below (Below.refl hi wr).drew (Nat.le_refl _)) ?_
      simp only []
      repeat (first
        | (refine' R6.WalkR.det (fun _ => rfl) (fun D ρ W1 hK hC => ?_) ?_
           rotate_left
           · have f4 : W1.cell? ⟨w.heap.size + 1 + 1, 0, none⟩ = some (.map (some (w.heap.size + 1 + 1 + 1 + 1))) := cell_of_row W1 _ 0 _ _ _ hC.b4
             have f5 : W1.cell? ⟨w.heap.size + 1 + 1 + 1, 0, none⟩ = some (.bool (okI gs vary ps ts i)) := cell_of_row W1 _ 0 _ _ _ hC.b5
             have HC := Lib.hid hC
             clear hC hK
             go_simp
             with_reducible exact ⟨rfl, HC.out⟩
           simp only [Act.put, List.setIfInBounds_toArray, List.set_cons_succ, List.set_cons_zero]))
      refine' R6.WalkR.det (c := undef) (fun _ => rfl) (fun D ρ W1 hK hC => ?_) ?_
      · refine gives_store_val 124 (.tmp 4) (.tmp 69) rfl rfl (v := .map (some (w.heap.size + 1 + 1 + 1 + 1))) rfl rfl rfl hC.b4 (by simp) sizeMapS (fun W' hP hM => ⟨rfl, hC.put4 hP hM⟩)
      simp only [Act.put, List.setIfInBounds_toArray, List.set_cons_succ, List.set_cons_zero]
      refine' R6.WalkR.det (c := undef) (fun _ => rfl) (fun D ρ W1 hK hC => ?_) ?_
      · refine gives_store_val 4 (.tmp 5) (.tmp 70) rfl rfl (v := .bool (okI gs vary ps ts i)) rfl rfl rfl hC.b5 (by simp) (by kernel_rfl) (fun W' hP hM => ⟨rfl, hC.put5 hP hM⟩)
      simp only [Act.put, List.setIfInBounds_toArray, List.set_cons_succ, List.set_cons_zero]
      refine R6.WalkR.nil (fun D ρ W2 hD hC => ?_)
      have HS2 := Lib.hid hC
      clear hC hD
      gi_wp2_with fail
      refine leaves_coll ds W2 HS2.out.coll (fun w' hw' => ?_)
      have hSf := HS2.out
      have f4 : w'.cell? ⟨w.heap.size + 1 + 1, 0, none⟩ = some (.map (some (w.heap.size + 1 + 1 + 1 + 1))) := cell_of_row w' _ 0 _ _ _ ((hw'.block _ (by omega)).trans hSf.b4)
      have f5 : w'.cell? ⟨w.heap.size + 1 + 1 + 1, 0, none⟩ = some (.bool (okI gs vary ps ts i)) := cell_of_row w' _ 0 _ _ _ ((hw'.block _ (by omega)).trans hSf.b5)
      refine ⟨.tuple #[.map (some (w.heap.size + 1 + 1 + 1 + 1)), .bool (okI gs vary ps ts i)], by simp [results, Tryz.results57, go_sem, f4, f5], _, n, F, ?_, by omega, hSf.map.block (hw'.block _ (by omega)), ?_, hSf.bel.trans (below_low5 hw' (by omega))⟩
      · rw [HI.out, okI_truth hv.1]
      · rw [← HI.out]; exact hR.out.2.2

end Go.Proofs.YtpnnlmaipcjkmaaGreat
