/-
  The poles of a grade, one by one (the program's iterator).
-/
import Derived.Test.YtboffligjgjgjaaGrQ
import Derived.Test.YtboffligjgjgjaaRegs7
import Derived.Test.YtboffligjgjgjaaIterP
import Derived.TacticsInMore
import Derived.LoopNIn
import Derived.LoopIn
namespace Go.Proofs.Ytboffligjgjgjaa
open Go.RowKit
open R6 (done done_ne done_me upd_ne upd_me)

attribute [local go_sem] Oper.semAt_some
attribute [local go_sem] gives

theorem vals_same {w w' : World} {B : Nat} {A : Option Addr} {vs : List Value} (h : Vals w B A vs) (hk : ∀ k, k < B → w'.heap[k]? = w.heap[k]?) : Vals w' B A vs :=
  fun hl => let ⟨b, off, e, hb, hc⟩ := h hl; ⟨b, off, e, hb, fun k v hv => (World.cell?_of_block (w := w) (hk b hb)).trans (hc k v hv)⟩
theorem GdAt.same {w w' : World} {B : Nat} {gs : List Gd} {AG : Option Addr} (h : GdAt w B gs AG) (hk : ∀ k, k < B → w'.heap[k]? = w.heap[k]?) : GdAt w' B gs AG := ⟨vals_same h.g hk, h.lg⟩

def allG (gs : List Gd) (ps : List Pol) (gr : Nat) : List (Array Value) := (peers gs ps gr).map fun p => #[.agg (pcl p).toArray]
def cntG (gs : List Gd) (ps : List Pol) (gr m : Nat) : Nat := (peers gs (ps.take m) gr).length
theorem allG_len (gs : List Gd) (ps : List Pol) (gr : Nat) : (allG gs ps gr).length = cntG gs ps gr ps.length := by simp [allG, cntG]
theorem peers_take_step (gs : List Gd) (ps : List Pol) (gr m : Nat) (hm : m < ps.length) : peers gs (ps.take (m + 1)) gr = peers gs (ps.take m) gr ++ (if gOf gs ps[m] = gr then [ps[m]] else []) := by
  unfold peers
  rw [List.take_add_one, List.getElem?_eq_getElem hm, List.filter_append]
  by_cases h : gOf gs ps[m] = gr <;> simp [h]
theorem cntG_step (gs : List Gd) (ps : List Pol) (gr m : Nat) (hm : m < ps.length) : cntG gs ps gr (m + 1) = cntG gs ps gr m + (if gOf gs ps[m] = gr then 1 else 0) := by
  unfold cntG
  rw [peers_take_step gs ps gr m hm, List.length_append]
  split <;> rfl
theorem peers_pre (gs : List Gd) (ps : List Pol) (gr m : Nat) : ∃ r, peers gs ps gr = peers gs (ps.take m) gr ++ r := ⟨peers gs (ps.drop m) gr, by unfold peers; rw [← List.filter_append, List.take_append_drop]⟩
theorem allG_at (gs : List Gd) (ps : List Pol) (gr m : Nat) (hm : m < ps.length) (h : gOf gs ps[m] = gr) : (allG gs ps gr)[cntG gs ps gr m]? = some #[.agg (pcl ps[m]).toArray] := by
  obtain ⟨r, hr⟩ := peers_pre gs ps gr (m + 1)
  unfold allG cntG
  rw [hr, peers_take_step gs ps gr m hm, if_pos h]
  simp
theorem cntG_lt (gs : List Gd) (ps : List Pol) (gr m : Nat) (hm : m < ps.length) (h : gOf gs ps[m] = gr) : cntG gs ps gr m < (allG gs ps gr).length :=
  (List.getElem?_eq_some_iff.1 (allG_at gs ps gr m hm h)).1

def capG (b : Nat) (k : Nat) : Prop := k = b ∨ k = b + 1
def OwnG (n₀ b : Nat) : Nat → Prop := fun j => n₀ ≤ j ∧ ¬ capG b j
def notV (v : Value) : Value := match v with
  | .bool x => .bool (!x)
  | _ => undef
theorem rowSheetW : RowTy Try.prog 55 4 := ⟨⟨_, Try.underlying55, rfl⟩, by kernel_rfl⟩

/-- Where a pole is yielded. -/
structure OgC (w5 : World) (J' Jx' : World → Prop) (Y : Nat → Prop) (D : Nat → Bool) (σ : Nat → Value) (W : World) : Prop where
  pre : D 8 = false → Below w5.heap.size w5 W
  post : D 8 = true → (σ 22 = .bool true ∧ J' W ∧ KeepsX Y w5 W) ∨ (σ 22 = .bool false ∧ Jx' W)
def ogK (k : Nat) (d : Option Nat) : Bool := !(k == 8 || d == some 22)
section
variable {w5 W W' : World} {J' Jx' : World → Prop} {Y : Nat → Prop} {D : Nat → Bool} {σ : Nat → Value}
theorem OgC.move {k : Nat} {d : Option Nat} {v : Value} (h : OgC w5 J' Jx' Y D σ W) (hk : ogK k d = true) : OgC w5 J' Jx' Y (done D k) (R4.upd σ d v) W := by
  simp only [ogK, Bool.not_eq_true', Bool.or_eq_false_iff, beq_eq_false_iff_ne, ne_eq] at hk
  have e8 := done_ne (D := D) (k := k) (j := 8) (by omega)
  have u1 := upd_ne (ρ := σ) (v := v) hk.2
  exact ⟨by rw [e8]; exact h.pre, by rw [e8, u1]; exact h.post⟩
theorem OgC.next {k : Nat} {d : Option Nat} {v : Value} (h : OgC w5 J' Jx' Y D σ W) (h8 : D 8 = false) (hg : Grows W W') (hk : ogK k d = true) : OgC w5 J' Jx' Y (done D k) (R4.upd σ d v) W' := by
  simp only [ogK, Bool.not_eq_true', Bool.or_eq_false_iff, beq_eq_false_iff_ne, ne_eq] at hk
  have e8 := done_ne (D := D) (k := k) (j := 8) (by omega)
  exact ⟨fun _ => (h.pre h8).trans (hg.mono (h.pre h8).size), fun e => by rw [e8, h8] at e; cases e⟩
end

set_option maxRecDepth 100000 in
set_option maxHeartbeats 8000000 in
theorem ofGrade1 (gs : List Gd) (vary : Int) (ps : List Pol) (AP : Option Addr) (cp : Nat) (AT : Option Addr) (nt ct : Nat) (AG : Option Addr) (cg : Nat) (gr : Nat) (n n₀ b : Nat) (hn : 1 ≤ n) (w : World) (hn₀ : n₀ ≤ w.heap.size) (hnb : n₀ ≤ b) (hb : b + 1 < w.heap.size)
    (hz : Vals w n₀ AP (ps.flatMap pcl)) (hl : ps.length ≤ 1000000) (hg : GdAt w n₀ gs AG) (hy : ∀ p ∈ ps, yrs p) (hgr : gr ≤ 1000)
    (hb0 : w.heap[b]? = some (.cells #[.slice AP ps.length cp, .slice AT nt ct, .slice AG gs.length cg, .int .i64 vary] 55 (0, 0))) (hb1 : w.heap[b + 1]? = some (.cells #[.int .i64 (gr : Int)] 3 (0, 0))) :
    SeqP Fence.wide n Try.prog 62 #[.pointer (some ⟨b, 0, none⟩), .pointer (some ⟨b + 1, 0, none⟩)] (allG gs ps gr) n₀ (capG b) w := by
  intro L X J Jx W hW hX hJ hJx hY h0
  have hall := allG_len gs ps gr
  have hat := fun m hm h => allG_at gs ps gr m hm h
  have hlt := fun m hm h => cntG_lt gs ps gr m hm h
  have hcs := fun m hm => cntG_step gs ps gr m hm
  have hc0 : cntG gs ps gr 0 = 0 := by simp [cntG, peers]
  generalize allG gs ps gr = all at *
  generalize cntG gs ps gr = cnt at *
  have hbW := (hW.block b (by omega)).trans hb0
  have hb1W := (hW.block (b + 1) (by omega)).trans hb1
  have hWs : b + 1 < W.heap.size := Nat.lt_of_lt_of_le hb hW.size
  have hnW : n₀ ≤ W.heap.size := Nat.le_trans hn₀ hW.size
  have hlow : ∀ j, j < n₀ → W.heap[j]? = w.heap[j]? := fun j hj => hW.block j (by omega)
  have hcW := fun i => cell_of_row W b i _ _ _ hbW
  have hc00 := hcW 0
  have HY := Lib.hid hY
  have HJ := Lib.hid (And.intro hJ (And.intro hJx h0))
  have HX := Lib.hid hX
  have HC := Lib.hid (And.intro hall (And.intro hat (And.intro hlt (And.intro hcs hc0))))
  have HZ := Lib.hid (And.intro (vals_same hz hlow) (And.intro (hg.same hlow) hy))
  have HBW := Lib.hid (And.intro hbW hb1W)
  clear hY hJ hJx h0 hX hall hat hlt hcs hc0 hz hg hy hbW hb1W hb0 hb1 hlow hcW
  refine callsIn_of_wp Try.func62 rfl trivial ?_ rfl
  simp only [Try.ntmps62, List.size_toArray, List.length_cons, List.length_nil, Nat.reduceAdd, Nat.reduceSub, Array.replicate_succ, Array.replicate_zero, List.push_toArray, List.append_toArray, List.nil_append, List.cons_append]
  gi_wp2_with fail
  clear hc00
  gi_loopw [10] (fun i wr => ∃ m : Nat, m ≤ ps.length ∧ i = .int .i64 m ∧ Hid (J (cnt m) wr) ∧ Hid (KeepsX (OwnG n₀ b) W wr))
    (fun i _ => ps.length - (intOf i).toNat)
  case atStart => exact ⟨0, Nat.zero_le _, rfl, by rw [HC.out.2.2.2.2]; exact HJ.out.2.2, KeepsX.refl _ _⟩
  case round =>
    obtain ⟨m, hm, rfl, hJm, hKm⟩ := hrel
    by_cases hlt : m < ps.length
    · have hmz : (m : Int) < ps.length := by omega
      have hsame : ∀ j, j < n₀ → wr.heap[j]? = W.heap[j]? := fun j hj => hKm.out.same j (by omega) (fun h => by have := h.1; omega)
      obtain ⟨c, off, hA, hcB, hc⟩ := vals_elem pcl_len (vals_same HZ.out.1 hsame) (by decide) hlt
      subst hA
      have hgd := HZ.out.2.1.same hsame
      have hyr := HZ.out.2.2 ps[m] (List.getElem_mem hlt)
      have hat := HC.out.2.1 m hlt
      have hcl := HC.out.2.2.1 m hlt
      have hst := HC.out.2.2.2.1 m hlt
      generalize ps[m] = y at hc hyr hat hst hcl
      have hbr := (hKm.out.same b (by omega) (fun h => h.2 (.inl rfl))).trans HBW.out.1
      have hbr1 := (hKm.out.same (b + 1) (by omega) (fun h => h.2 (.inr rfl))).trans HBW.out.2
      have hgo := fun (W' : World) (h : Below wr.heap.size wr W') => grGradeOf_any gs vary y (some ⟨c, off, none⟩) ps.length cp AT nt ct AG cg n₀ W' (by have := hKm.out.size; have := h.size; omega) (hgd.below (h.mono (by have := hKm.out.size; omega))) hyr
      have hsz : W.heap.size ≤ wr.heap.size := hKm.out.size
      have HCC := Lib.hid hc
      have HG := Lib.hid (And.intro hgo (And.intro hbr (And.intro hbr1 hsz)))
      clear hsame hgd hyr hc hgo hbr hbr1 hsz
      by_cases he : gOf gs y = gr
      · have hat' := Lib.hid (And.intro (hat he) (hcl he))
        rw [if_pos he] at hst
        rw [he] at HG
        have HST := Lib.hid hst
        clear hat hst he hcl
        gi_wp2_with (first
          | (show wpListIn _ _ _ _ _ (Oper.mk (some 13) _ _ _ _ _ :: _) _ _
             refine wpListIn_load_at 58 (.tmp 12) rfl rfl rfl (pcl y) HCC.out rowPole ?_)
          | (show wpListIn _ _ _ _ _ (Oper.mk none (Op.store _ (Operand.tmp 5) (Operand.tmp 13)) _ _ _ _ :: _) _ _
             refine wpListIn_store_blk 58 (.tmp 5) (.tmp 13) rfl rfl rfl rfl (alloc_at0 wr _) rfl (by rw [List.all_toArray, List.all_eq_true]; exact fun v hv => pcl_one [y] v (by simpa using hv)) rowPole ?_
             intro w5 hP5 hM5
             have hb5 : Below wr.heap.size wr w5 := (grow1 wr _).trans (hP5.below (Nat.le_refl _))
             have H5 := Lib.hid (And.intro hb5 (And.intro hM5 (And.intro (HJ.out.1 _ _ _ hJm.out (hb5.mono HG.out.2.2.2)) (And.intro ((hb5.block _ (lt_of_heap HG.out.2.1)).trans HG.out.2.1) ((hb5.block _ (lt_of_heap HG.out.2.2.1)).trans HG.out.2.2.1)))))
             clear hP5 hM5 hb5))
        refine R7.wpIn_walk (fun _ => trivial) (C := OgC w5 (J (cnt m + 1)) (Jx (cnt m)) (OwnG n₀ b)) 26 (by kernel_rfl) (by kernel_rfl) rfl ⟨fun _ => (Below.refl _ _).drew, (fun e => by cases e)⟩ ?_
        simp only []
        refine' R7.WalkR.det (fun _ => rfl) (fun D ρ W1 hK hC => R7.givesF.of (fun c h => by cases h) ?_) ?_
        rotate_left
        · have hp := hC.pre (hK.post 8 (by decide +kernel))
          exact gives_load_blk 55 (.tmp 1) rfl rfl ((hp.block _ (lt_of_heap H5.out.2.2.2.1)).trans H5.out.2.2.2.1) [.slice (some ⟨c, off, none⟩) ps.length cp, .slice AT nt ct, .slice AG gs.length cg, .int .i64 vary] at0 rowSheetW ⟨rfl, hC.move (by decide)⟩
        simp only [Act.put, List.setIfInBounds_toArray, List.set_cons_succ, List.set_cons_zero]
        refine' R7.WalkR.det (fun _ => rfl) (fun D ρ W1 hK hC => R7.givesF.of (fun c h => by cases h) ?_) ?_
        rotate_left
        · have hp := hC.pre (hK.post 8 (by decide +kernel))
          exact gives_load_blk 58 (.tmp 5) rfl rfl ((hp.block _ (lt_of_heap H5.out.2.1)).trans H5.out.2.1) (pcl y) at0 rowPole ⟨rfl, hC.move (by decide)⟩
        simp only [Act.put, List.setIfInBounds_toArray, List.set_cons_succ, List.set_cons_zero]
        repeat (first
          | (refine' R7.WalkR.det (fun _ => rfl) (fun D ρ W1 hK hC => R7.givesF.of (fun c h => by cases h) ?_) ?_
             rotate_left
             · have h8 := hK.post 8 (by decide +kernel)
               have hp := hC.pre h8
               have f1 : W1.cell? ⟨b + 1, 0, none⟩ = some (.int .i64 (gr : Int)) := cell_of_row W1 _ 0 _ _ _ ((hp.block _ (lt_of_heap H5.out.2.2.2.2)).trans H5.out.2.2.2.2)
               have HC1 := Lib.hid hC
               have HP := Lib.hid hp
               have H8 := Lib.hid h8
               clear hC hK hp h8
               go_simp
               first
                 | with_reducible exact ⟨rfl, HC1.out.move (by decide)⟩
                 | (go_at_call 19; refine (HG.out.1 W1 (H5.out.1.trans (HP.out.mono H5.out.1.size))).mono ?_; rintro e W2 ⟨rfl, hB2⟩; exact ⟨_, rfl, rfl, HC1.out.next H8.out hB2 (by decide)⟩)
             simp only [Act.put, List.setIfInBounds_toArray, List.set_cons_succ, List.set_cons_zero]))
        refine' R7.WalkR.det (fun _ => rfl) (fun D ρ W1 hK hC => R7.givesF.of (fun c h => by cases h) ?_) ?_
        rotate_left
        · have hp := hC.pre (hK.post 8 (by decide +kernel))
          exact gives_load_blk 58 (.tmp 5) rfl rfl ((hp.block _ (lt_of_heap H5.out.2.1)).trans H5.out.2.1) (pcl y) at0 rowPole ⟨rfl, hC.move (by decide)⟩
        simp only [Act.put, List.setIfInBounds_toArray, List.set_cons_succ, List.set_cons_zero]
        refine' R7.WalkR.nd (fun _ => rfl) rfl (fun D ρ W1 hK hC => ?_) ?_
        · have h8 := hK.me
          have hp := hC.pre h8
          have hJ1 := HJ.out.1 _ _ _ H5.out.2.2.1 (hp.mono (by have := H5.out.1.size; have := HG.out.2.2.2; omega))
          have hyk := HY.out (cnt m) _ W1 hat'.out.1 hJ1 (by have := H5.out.1.size; have := HG.out.2.2.2; have := hp.size; omega)
          refine R7.givesF.yield (.tmp 20) #[.tmp 21] #[58] rfl (fun _ => trivial) hn (l := L) rfl (by simp only [List.map_toArray, List.map_cons, List.map_nil]; rfl) hyk ?_
          rintro e W' (⟨rfl, hJ2, hK2⟩ | ⟨rfl, hx2⟩)
          · refine ⟨_, rfl, (fun e => by rw [done_me] at e; cases e), fun _ => .inl ⟨upd_me, hJ2, ?_⟩⟩
            exact (⟨hp.size, fun j hj _ => hp.block j hj⟩ : KeepsX (OwnG n₀ b) w5 W1).trans (hK2.more (fun j hj => ⟨(HX.out j hj).1, (HX.out j hj).2.1⟩))
          · exact ⟨_, rfl, (fun e => by rw [done_me] at e; cases e), fun _ => .inr ⟨upd_me, hx2⟩⟩
        simp only [Act.put, List.setIfInBounds_toArray, List.set_cons_succ, List.set_cons_zero]
        refine' R7.WalkR.fn 22 notV (fun _ => rfl) (by decide +kernel) (fun D ρ W1 hK hC => R7.givesF.of (fun c h => by cases h) ?_) ?_
        · have hpo := hC.post (hK.pre 8 (by decide +kernel))
          have HC1 := Lib.hid hC
          clear hC hK
          rcases hpo with ⟨hv, -⟩ | ⟨hv, -⟩
          · go_simp
            first | exact HC1.out.move (by decide) | exact ⟨rfl, HC1.out.move (by decide)⟩
          · go_simp
            first | exact HC1.out.move (by decide) | exact ⟨rfl, HC1.out.move (by decide)⟩
        simp only [Act.put, List.setIfInBounds_toArray, List.set_cons_succ, List.set_cons_zero]
        refine' R7.WalkR.fn 22 notV (fun _ => rfl) (by decide +kernel) (fun D ρ W1 hK hC => R7.givesF.of (fun c h => by cases h) ?_) ?_
        · have hpo := hC.post (hK.pre 8 (by decide +kernel))
          have HC1 := Lib.hid hC
          clear hC hK
          rcases hpo with ⟨hv, -⟩ | ⟨hv, -⟩
          · go_simp
            first | exact HC1.out.move (by decide) | exact ⟨rfl, HC1.out.move (by decide)⟩
          · go_simp
            first | exact HC1.out.move (by decide) | exact ⟨rfl, HC1.out.move (by decide)⟩
        simp only [Act.put, List.setIfInBounds_toArray, List.set_cons_succ, List.set_cons_zero]
        refine R7.WalkR.nil (fun D ρ W6 hD hC => ?_)
        rcases hC.post (hD 8 (by omega)) with ⟨hv, hJ6, hK6⟩ | ⟨hv, hx6⟩
        · have H6 := Lib.hid (And.intro hJ6 ((hKm.out.trans (⟨H5.out.1.size, fun j hj _ => H5.out.1.block j hj⟩ : KeepsX (OwnG n₀ b) wr w5)).trans hK6))
          simp only [hv, notV]
          clear hC hD hJ6 hK6 hv
          gi_wp2_with fail
          case roundEnd =>
            go_roundw
            case rel => exact ⟨m + 1, by omega, by go_num, by rw [HST.out]; exact H6.out.1, H6.out.2⟩
            case measure => simp [intOf] <;> omega
        · have H6 := Lib.hid hx6
          simp only [hv, notV]
          clear hC hD hx6 hv
          gi_wp2_with fail
          refine bodyPost_ret (results_none rfl _ _ _) rfl ?_
          exact ⟨⟨_, rfl⟩, .inr ⟨cnt m, hat'.out.2, H6.out⟩⟩
      · rw [if_neg he, Nat.add_zero] at hst
        have HST := Lib.hid hst
        have hne : ¬ ((gOf gs y : Nat) : Int) = (gr : Int) := by omega
        have hnd : (((gOf gs y : Nat) : Int) == (gr : Int)) = false := by simpa using hne
        generalize ((gOf gs y : Nat) : Int) = q at HG hne hnd
        have HND := Lib.hid hnd
        clear hat hst he hcl hne hnd
        gi_wp2_with (first
          | (show wpListIn _ _ _ _ _ (Oper.mk (some 13) _ _ _ _ _ :: _) _ _
             refine wpListIn_load_at 58 (.tmp 12) rfl rfl rfl (pcl y) HCC.out rowPole ?_)
          | (show wpListIn _ _ _ _ _ (Oper.mk none (Op.store _ (Operand.tmp 5) (Operand.tmp 13)) _ _ _ _ :: _) _ _
             refine wpListIn_store_blk 58 (.tmp 5) (.tmp 13) rfl rfl rfl rfl (alloc_at0 wr _) rfl (by rw [List.all_toArray, List.all_eq_true]; exact fun v hv => pcl_one [y] v (by simpa using hv)) rowPole ?_
             intro w5 hP5 hM5
             have hb5 : Below wr.heap.size wr w5 := (grow1 wr _).trans (hP5.below (Nat.le_refl _))
             have H5 := Lib.hid (And.intro hb5 (And.intro hM5 (And.intro (HJ.out.1 _ _ _ hJm.out (hb5.mono HG.out.2.2.2)) (And.intro ((hb5.block _ (lt_of_heap HG.out.2.1)).trans HG.out.2.1) ((hb5.block _ (lt_of_heap HG.out.2.2.1)).trans HG.out.2.2.1)))))
             clear hP5 hM5 hb5))
        refine R7.wpIn_walk (fun _ => trivial) (C := BoxM w5 [] [] (fun _ => [])) 26 (by kernel_rfl) (by kernel_rfl) rfl (BoxM.start (Below.refl _ _) trivial (fun _ => rfl)) ?_
        simp only []
        refine' R7.WalkR.det (fun _ => rfl) (fun D ρ W1 hK hC => R7.givesF.of (fun c h => by cases h) ?_) ?_
        rotate_left
        · exact gives_load_blk 55 (.tmp 1) rfl rfl ((hC.bel.block _ (lt_of_heap H5.out.2.2.2.1)).trans H5.out.2.2.2.1) [.slice (some ⟨c, off, none⟩) ps.length cp, .slice AT nt ct, .slice AG gs.length cg, .int .i64 vary] at0 rowSheetW ⟨rfl, hC.move (by decide)⟩
        simp only [Act.put, List.setIfInBounds_toArray, List.set_cons_succ, List.set_cons_zero]
        refine' R7.WalkR.det (fun _ => rfl) (fun D ρ W1 hK hC => R7.givesF.of (fun c h => by cases h) ?_) ?_
        rotate_left
        · exact gives_load_blk 58 (.tmp 5) rfl rfl ((hC.bel.block _ (lt_of_heap H5.out.2.1)).trans H5.out.2.1) (pcl y) at0 rowPole ⟨rfl, hC.move (by decide)⟩
        simp only [Act.put, List.setIfInBounds_toArray, List.set_cons_succ, List.set_cons_zero]
        repeat (first
          | (refine R7.WalkR.un (fun _ => rfl) (fun D ρ W1 hK hC => hC.move (by decide)) ?_
             simp only [Act.put, List.setIfInBounds_toArray, List.set_cons_succ, List.set_cons_zero])
          | (refine' R7.WalkR.det (fun _ => rfl) (fun D ρ W1 hK hC => R7.givesF.of (fun c h => by cases h) ?_) ?_
             rotate_left
             · have f1 : W1.cell? ⟨b + 1, 0, none⟩ = some (.int .i64 (gr : Int)) := cell_of_row W1 _ 0 _ _ _ ((hC.bel.block _ (lt_of_heap H5.out.2.2.2.2)).trans H5.out.2.2.2.2)
               have n1 := HND.out
               have HC1 := Lib.hid hC
               clear hC hK
               go_simp
               first
                 | with_reducible exact ⟨rfl, HC1.out.move (by decide)⟩
                 | (go_at_call 19; refine (HG.out.1 W1 (H5.out.1.trans (HC1.out.bel.mono H5.out.1.size))).mono ?_; rintro e W2 ⟨rfl, hB2⟩; exact ⟨_, rfl, rfl, (HC1.out.next hB2).move (by decide)⟩)
             simp only [Act.put, List.setIfInBounds_toArray, List.set_cons_succ, List.set_cons_zero]))
        refine R7.WalkR.nil (fun D ρ W6 hD hC => ?_)
        have hb6 : Below wr.heap.size wr W6 := H5.out.1.trans (hC.bel.mono H5.out.1.size)
        have H6 := Lib.hid (And.intro (HJ.out.1 _ _ _ hJm.out (hb6.mono HG.out.2.2.2)) (hKm.out.trans (⟨hb6.size, fun j hj _ => hb6.block j hj⟩ : KeepsX (OwnG n₀ b) wr W6)))
        clear hC hD hb6
        gi_wp2_with fail
        case roundEnd =>
          go_roundw
          case rel => exact ⟨m + 1, by omega, by go_num, by rw [HST.out]; exact H6.out.1, H6.out.2⟩
          case measure => simp [intOf] <;> omega
    · have hme : m = ps.length := by omega
      have hmz : ¬ (m : Int) < ps.length := by omega
      have HM := Lib.hid hme
      clear hme
      gi_wp2_with fail
      go_end0
      exact ⟨⟨_, rfl⟩, .inl (by rw [HC.out.1, ← HM.out]; exact hJm.out)⟩

end Go.Proofs.Ytboffligjgjgjaa
