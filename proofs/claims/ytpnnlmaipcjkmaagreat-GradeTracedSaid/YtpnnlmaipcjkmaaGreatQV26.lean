/-
  How many culms of an origin were cut by the books (the reference's): plain facts; what a drawn region hands on that a call told.
-/
import Derived.Test.YtpnnlmaipcjkmaaGreatQV25
import Derived.Test.YtpnnlmaipcjkmaaGreatQV8
import Derived.Test.YtpnnlmaipcjkmaaGreatQV23
set_option linter.all false
namespace Go.Proofs.YtpnnlmaipcjkmaaGreat
open Go.RowKit
open R6 (done done_ne done_me upd_ne upd_me)

attribute [local go_sem] gives

def loId (l : List Gv) (k : Nat) : Int := if k = 0 then 0 else ((l[k - 1]?).map gvId).getD 0 + 1
theorem okGv_id {x : Gv} (h : okGv x = true) : 0 ≤ gvId x ∧ gvId x ≤ 9999 := by
  simp only [okGv, okGrove, okPre, Bool.and_eq_true] at h
  exact inR_iff.1 h.1.1.1.1.1.1.1
theorem byId_step {l : List Gv} {k : Nat} (hk : k < l.length) : byIdL gvId okGv (l.drop k) (loId l k) = (inR (gvId l[k]) (loId l k) 9999 && (okGv l[k] && byIdL gvId okGv (l.drop (k + 1)) (loId l (k + 1)))) := by
  rw [List.drop_eq_getElem_cons hk]
  have e : loId l (k + 1) = gvId l[k] + 1 := by simp [loId, hk]
  rw [e]
  rfl

set_option maxRecDepth 100000 in
set_option maxHeartbeats 8000000 in
theorem rfGroves_any (l : List Gv) (A : Option Addr) (cap : Nat) (B : Nat) (w : World) (hB : B ≤ w.heap.size) (hz : GvsAt w B l A) (hl : l.length ≤ 1000000) :
    Calls Tryz.prog 37 #[.slice A l.length cap] w fun e w' => e = .returned (.bool (okGvs l)) ∧ Below w.heap.size w w' := by
  unfold okGvs
  by_cases h6 : 6 < l.length
  · have h6z : (l.length : Int) > 6 := by omega
    have hd : decide ((l.length : Int) ≤ 6) = false := decide_eq_false (by omega)
    rw [hd]
    clear hd hz
    go_enter Tryz.func37, Tryz.ntmps37
    go_wp2
    go_ret
    exact ⟨rfl, Below.refl _ _⟩
  have h6z : ¬ (l.length : Int) > 6 := by omega
  have hd : decide ((l.length : Int) ≤ 6) = true := decide_eq_true (by omega)
  rw [hd, Bool.true_and]
  have HZ := Lib.hid hz
  clear hd hz
  obtain ⟨X, hX⟩ : ∃ X, X = byIdL gvId okGv l 0 := ⟨_, rfl⟩
  rw [← hX]
  have hX0 : byIdL gvId okGv (l.drop 0) (loId l 0) = X := by rw [hX]; rfl
  have HX := Lib.hid hX0
  clear hX hX0
  go_enter Tryz.func37, Tryz.ntmps37
  go_wp2
  go_loopg [3] l.length (fun gg s3 wx => ∃ k : Nat, k + gg = l.length ∧ s3 = .int .i64 k ∧ Hid (byIdL gvId okGv (l.drop k) (loId l k) = X) ∧ Hid (Below w.heap.size w wx))
  case atStart => exact ⟨0, by omega, rfl, HX.out, Below.refl _ _⟩
  case round =>
    obtain ⟨k, hkg, rfl, hI, hBr⟩ := hrel
    have hws := hBr.out.size
    cases gk with
    | zero =>
      obtain rfl : k = l.length := by omega
      have hI' := hI.out
      rw [List.drop_length] at hI'
      have HI := Lib.hid hI'
      clear hI'
      go_wp2
      go_ret
      exact ⟨by rw [← HI.out]; rfl, hBr.out⟩
    | succ gg =>
      have hk : k < l.length := by omega
      have hkz : (k : Int) < l.length := by omega
      obtain ⟨c, off, hA, hcB, hc⟩ := vals_elem gvl_len HZ.out.v (by decide) hk
      have hcp := fun j (hj : j < l.length) => vals_elem gvl_len HZ.out.v (by decide) hj
      subst hA
      have hst := byId_step hk
      rw [hI.out] at hst
      have hd1 := fun (W : World) (hW : Below wr.heap.size wr W) j v hv => ((hBr.out.trans (hW.mono hws)).cell (p := ⟨c, off + k * 10 + j, none⟩) (by simp; omega)).trans (hc j v hv)
      have hgr := fun (W : World) (hW : Below wr.heap.size wr W) => (HZ.out.at_ _ (List.getElem_mem hk)).below ((hBr.out.trans (hW.mono hws)).mono hB)
      have hid := fun (h : okGv l[k] = true) => okGv_id h
      have hprev : ∀ j (hj : j + 1 = k), loId l k = gvId (l[j]'(by omega)) + 1 ∧ ∀ W, Below wr.heap.size wr W → W.cell? ⟨c, off + j * 10, none⟩ = some (.int .i64 (gvId (l[j]'(by omega)))) := fun j hj => by
        refine ⟨by subst hj; simp [loId, show j < l.length by omega], fun W hW => ?_⟩
        obtain ⟨c', off', hA', hcB', hc'⟩ := hcp j (by omega)
        simp only [Option.some.injEq, Addr.mk.injEq, and_true] at hA'
        obtain ⟨rfl, rfl⟩ := hA'
        exact ((hBr.out.trans (hW.mono hws)).cell (p := ⟨c, off + j * 10, none⟩) (by simp; omega)).trans (by have := hc' 0 _ rfl; rw [Nat.add_zero] at this; exact this)
      generalize l[k] = y at hd1 hgr hst hid
      have hck := fun W (hW : Below wr.heap.size wr W) => refCheck_anyL1 y.g y.A1 y.c1 y.A2 y.c2 B W (Nat.le_trans hB (Nat.le_trans hws hW.size)) (hgr W hW)
      have hd0 := fun W hW => hd1 W hW 0 _ rfl
      simp only [Nat.add_zero] at hd0
      have HD := Lib.hid (And.intro hd1 hd0)
      have HP := Lib.hid hprev
      simp only [← gvl_grv] at hck
      clear hd1 hd0 hc hcp hgr hprev
      have her : ∀ b, okGv y = b → errG y.g = if b = true then 0 else 10 := fun b hb => by rw [← hb]; rfl
      cases hok : okGv y
      · rw [her false hok] at hck
        simp only [Bool.false_eq_true, if_false] at hck
        rw [hok, Bool.false_and, Bool.and_false] at hst
        have HCK := Lib.hid hck
        have HST := Lib.hid hst
        clear hck hst hok her hid
        go_wp2
        refine R6.wp_walk (C := fun _ _ W => Below wr.heap.size wr W) 37 (by kernel_rfl) (by kernel_rfl) rfl (Below.refl _ _).drew ?_
        simp only []
        iterate 3
          (first
           | (refine' R6.WalkR.det (fun _ => rfl) (fun D ρ W hK hC => ?_) ?_
              rotate_left
              · skip
                have HC := Lib.hid hC
                clear hC hK
                go_simp
                with_reducible exact ⟨rfl, HC.out⟩
              simp only [Act.put, List.setIfInBounds_toArray, List.set_cons_succ, List.set_cons_zero])
           | skip)
        refine' R6.WalkR.det (fun _ => rfl) (fun D ρ W hK hC => ?_) ?_
        rotate_left
        · exact gives_load_at 74 (.tmp 15) rfl rfl (gvl y) (HD.out.1 W hC) rowGroveA ⟨rfl, hC⟩
        simp only [Act.put, List.setIfInBounds_toArray, List.set_cons_succ, List.set_cons_zero]
        refine' R6.WalkR.det (fun _ => rfl) (fun D ρ W hK hC => ?_) ?_
        rotate_left
        · have HC := Lib.hid hC
          clear hC hK
          go_simp
          go_at_call 63
          refine (HCK.out W HC.out).mono ?_
          rintro e W1 ⟨rfl, hB1⟩
          exact ⟨_, rfl, rfl, HC.out.trans (hB1.mono HC.out.size)⟩
        simp only [Act.put, List.setIfInBounds_toArray, List.set_cons_succ, List.set_cons_zero]
        repeat (first
          | (refine' R6.WalkR.det (fun _ => rfl) (fun D ρ W hK hC => ?_) ?_
             rotate_left
             · skip
               have HC := Lib.hid hC
               clear hC hK
               go_simp
               with_reducible exact ⟨rfl, HC.out⟩
             simp only [Act.put, List.setIfInBounds_toArray, List.set_cons_succ, List.set_cons_zero])
          | (refine R6.WalkR.un (fun _ => rfl) (fun D ρ W hK hC => hC) ?_
             simp only [Act.put, List.setIfInBounds_toArray, List.set_cons_succ, List.set_cons_zero]))
        refine R6.WalkR.nil (fun D ρ W hD hC => ?_)
        have HB := Lib.hid (hBr.out.trans (hC.mono hws))
        clear hC hD
        go_wp2
        go_ret
        exact ⟨by rw [HST.out]; rfl, HB.out⟩
      · rw [her true hok] at hck
        simp only [if_true] at hck
        rw [hok, Bool.true_and] at hst
        obtain ⟨hi0, hi9⟩ := hid hok
        have HCK := Lib.hid hck
        have HST := Lib.hid hst
        clear hck hst hok her hid
        cases k with
        | zero =>
          have hin : inR (gvId y) (loId l 0) 9999 = true := inR_iff.2 ⟨hi0, hi9⟩
          have HIN := Lib.hid hin
          clear hin
          go_wp2
          refine R6.wp_walk (C := fun _ _ W => Below wr.heap.size wr W) 37 (by kernel_rfl) (by kernel_rfl) rfl (Below.refl _ _).drew ?_
          simp only []
          iterate 3
            (first
             | (refine' R6.WalkR.det (fun _ => rfl) (fun D ρ W hK hC => ?_) ?_
                rotate_left
                · skip
                  have HC := Lib.hid hC
                  clear hC hK
                  go_simp
                  with_reducible exact ⟨rfl, HC.out⟩
                simp only [Act.put, List.setIfInBounds_toArray, List.set_cons_succ, List.set_cons_zero])
             | skip)
          refine' R6.WalkR.det (fun _ => rfl) (fun D ρ W hK hC => ?_) ?_
          rotate_left
          · exact gives_load_at 74 (.tmp 15) rfl rfl (gvl y) (HD.out.1 W hC) rowGroveA ⟨rfl, hC⟩
          simp only [Act.put, List.setIfInBounds_toArray, List.set_cons_succ, List.set_cons_zero]
          refine' R6.WalkR.det (fun _ => rfl) (fun D ρ W hK hC => ?_) ?_
          rotate_left
          · have HC := Lib.hid hC
            clear hC hK
            go_simp
            go_at_call 63
            refine (HCK.out W HC.out).mono ?_
            rintro e W1 ⟨rfl, hB1⟩
            exact ⟨_, rfl, rfl, HC.out.trans (hB1.mono HC.out.size)⟩
          simp only [Act.put, List.setIfInBounds_toArray, List.set_cons_succ, List.set_cons_zero]
          repeat (first
            | (refine' R6.WalkR.det (fun _ => rfl) (fun D ρ W hK hC => ?_) ?_
               rotate_left
               · skip
                 have HC := Lib.hid hC
                 clear hC hK
                 go_simp
                 with_reducible exact ⟨rfl, HC.out⟩
               simp only [Act.put, List.setIfInBounds_toArray, List.set_cons_succ, List.set_cons_zero])
            | (refine R6.WalkR.un (fun _ => rfl) (fun D ρ W hK hC => hC) ?_
               simp only [Act.put, List.setIfInBounds_toArray, List.set_cons_succ, List.set_cons_zero]))
          refine R6.WalkR.nil (fun D ρ W hD hC => ?_)
          have HB := Lib.hid (hBr.out.trans (hC.mono hws))
          clear hC hD
          go_wp2
          go_roundg gg
          case measure => omega
          case rel => exact ⟨0 + 1, by omega, by go_num, by rw [HST.out, HIN.out]; rfl, HB.out⟩
        | succ j =>
          have hj1 : (0 : Int) ≤ (j : Int) + 1 := by omega
          have hj2 : (j : Int) + 1 < l.length := by omega
          have hj3 : ((j : Int) + 1).toNat = j + 1 := by omega
          have hj4 : (j : Int) < l.length := by omega
          have hj5 : decide ((0 : Int) < (j : Int) + 1) = true := decide_eq_true (by omega)
          have hj6 : IntKind.i64.wrap (j : Int) = j := by rw [IntKind.wrap_i64]; omega
          obtain ⟨hlo, hpc⟩ := HP.out j rfl
          generalize gvId l[j] = q at hlo hpc
          have HPC := Lib.hid hpc
          have HLO := Lib.hid hlo
          clear hpc hlo
          have hyd : gvId y = y.g.id := rfl
          rw [hyd] at hi0 hi9
          have HYD := Lib.hid hyd
          clear hyd
          have hd0 := HD.out.2
          rw [show gvId y = y.g.id from rfl] at HST
          generalize hgi : y.g.id = iy at hi0 hi9 hd0 HST
          have HD0 := Lib.hid hd0
          clear hd0 HYD hgi
          by_cases hxy : q < iy
          · have hn : decide (iy ≤ q) = false := decide_eq_false (by omega)
            have hin : inR iy (loId l (j + 1)) 9999 = true := by rw [HLO.out]; exact inR_iff.2 ⟨by omega, hi9⟩
            have HIN := Lib.hid hin
            clear hin
            go_wp2
            refine R6.wp_walk (C := fun _ _ W => Below wr.heap.size wr W) 37 (by kernel_rfl) (by kernel_rfl) rfl (Below.refl _ _).drew ?_
            simp only []
            iterate 3
              (first
               | (refine' R6.WalkR.det (fun _ => rfl) (fun D ρ W hK hC => ?_) ?_
                  rotate_left
                  · skip
                    have HC := Lib.hid hC
                    clear hC hK
                    go_simp
                    with_reducible exact ⟨rfl, HC.out⟩
                  simp only [Act.put, List.setIfInBounds_toArray, List.set_cons_succ, List.set_cons_zero])
               | skip)
            refine' R6.WalkR.det (fun _ => rfl) (fun D ρ W hK hC => ?_) ?_
            rotate_left
            · exact gives_load_at 74 (.tmp 15) rfl rfl (gvl y) (HD.out.1 W hC) rowGroveA ⟨rfl, hC⟩
            simp only [Act.put, List.setIfInBounds_toArray, List.set_cons_succ, List.set_cons_zero]
            refine' R6.WalkR.det (fun _ => rfl) (fun D ρ W hK hC => ?_) ?_
            rotate_left
            · have HC := Lib.hid hC
              clear hC hK
              go_simp
              go_at_call 63
              refine (HCK.out W HC.out).mono ?_
              rintro e W1 ⟨rfl, hB1⟩
              exact ⟨_, rfl, rfl, HC.out.trans (hB1.mono HC.out.size)⟩
            simp only [Act.put, List.setIfInBounds_toArray, List.set_cons_succ, List.set_cons_zero]
            repeat (first
              | (refine' R6.WalkR.det (fun _ => rfl) (fun D ρ W hK hC => ?_) ?_
                 rotate_left
                 · have f0 := HD0.out W hC
                   have f1 := HPC.out W hC
                   have HC := Lib.hid hC
                   clear hC hK
                   go_simp
                   with_reducible exact ⟨rfl, HC.out⟩
                 simp only [Act.put, List.setIfInBounds_toArray, List.set_cons_succ, List.set_cons_zero])
              | (refine R6.WalkR.un (fun _ => rfl) (fun D ρ W hK hC => hC) ?_
                 simp only [Act.put, List.setIfInBounds_toArray, List.set_cons_succ, List.set_cons_zero]))
            refine R6.WalkR.nil (fun D ρ W hD hC => ?_)
            have HB := Lib.hid (hBr.out.trans (hC.mono hws))
            clear hC hD
            go_wp2
            go_roundg gg
            case measure => omega
            case rel => exact ⟨j + 1 + 1, by omega, by go_num, by rw [HST.out, HIN.out]; rfl, HB.out⟩
          · have hn : decide (iy ≤ q) = true := decide_eq_true (by omega)
            have hin : inR iy (loId l (j + 1)) 9999 = false := by
              rw [HLO.out, Bool.eq_false_iff]
              intro h
              have := inR_iff.1 h
              omega
            have HIN := Lib.hid hin
            clear hin
            go_wp2
            refine R6.wp_walk (C := fun _ _ W => Below wr.heap.size wr W) 37 (by kernel_rfl) (by kernel_rfl) rfl (Below.refl _ _).drew ?_
            simp only []
            iterate 3
              (first
               | (refine' R6.WalkR.det (fun _ => rfl) (fun D ρ W hK hC => ?_) ?_
                  rotate_left
                  · skip
                    have HC := Lib.hid hC
                    clear hC hK
                    go_simp
                    with_reducible exact ⟨rfl, HC.out⟩
                  simp only [Act.put, List.setIfInBounds_toArray, List.set_cons_succ, List.set_cons_zero])
               | skip)
            refine' R6.WalkR.det (fun _ => rfl) (fun D ρ W hK hC => ?_) ?_
            rotate_left
            · exact gives_load_at 74 (.tmp 15) rfl rfl (gvl y) (HD.out.1 W hC) rowGroveA ⟨rfl, hC⟩
            simp only [Act.put, List.setIfInBounds_toArray, List.set_cons_succ, List.set_cons_zero]
            refine' R6.WalkR.det (fun _ => rfl) (fun D ρ W hK hC => ?_) ?_
            rotate_left
            · have HC := Lib.hid hC
              clear hC hK
              go_simp
              go_at_call 63
              refine (HCK.out W HC.out).mono ?_
              rintro e W1 ⟨rfl, hB1⟩
              exact ⟨_, rfl, rfl, HC.out.trans (hB1.mono HC.out.size)⟩
            simp only [Act.put, List.setIfInBounds_toArray, List.set_cons_succ, List.set_cons_zero]
            repeat (first
              | (refine' R6.WalkR.det (fun _ => rfl) (fun D ρ W hK hC => ?_) ?_
                 rotate_left
                 · have f0 := HD0.out W hC
                   have f1 := HPC.out W hC
                   have HC := Lib.hid hC
                   clear hC hK
                   go_simp
                   with_reducible exact ⟨rfl, HC.out⟩
                 simp only [Act.put, List.setIfInBounds_toArray, List.set_cons_succ, List.set_cons_zero])
              | (refine R6.WalkR.un (fun _ => rfl) (fun D ρ W hK hC => hC) ?_
                 simp only [Act.put, List.setIfInBounds_toArray, List.set_cons_succ, List.set_cons_zero]))
            refine R6.WalkR.nil (fun D ρ W hD hC => ?_)
            have HB := Lib.hid (hBr.out.trans (hC.mono hws))
            clear hC hD
            go_wp2
            go_ret
            exact ⟨by rw [HST.out, HIN.out]; rfl, HB.out⟩

end Go.Proofs.YtpnnlmaipcjkmaaGreat

namespace Go.Proofs.YtpnnlmaipcjkmaaGreat
open Go.RowKit
open R6 (done done_ne done_me upd_ne upd_me)

theorem taken_err {g : Gr} {y : Int} (h : standErr g y ≠ 0) : takenVal g y = [] := by
  unfold standErr at h
  unfold takenVal
  rw [if_neg]
  intro hh
  simp [hh.1, hh.2] at h
structure ResD (w0 : World) (K : List (Nat × Obj)) (Φ : Value → World → Prop) (kc tc : Nat) (D : Nat → Bool) (σ : Nat → Value) (W : World) : Prop where
  bel : Below w0.heap.size w0 W
  keep : kpt K W
  res : D kc = true → Φ (σ tc) W
section
variable {w0 W W' : World} {K : List (Nat × Obj)} {Φ : Value → World → Prop} {kc tc : Nat} {D : Nat → Bool} {σ : Nat → Value}
theorem ResD.made {u : Value} (h : ResD w0 K Φ kc tc D σ W) (hg : Grows W W') (hΦ : Φ u W') : ResD w0 K Φ kc tc (done D kc) (R4.upd σ (some tc) u) W' :=
  ⟨h.bel.trans (hg.mono h.bel.size), kpt.next hg h.keep, fun _ => by rw [upd_me]; exact hΦ⟩
theorem ResD.start (hb : Below w0.heap.size w0 W) (hK : kpt K W) (hD : D kc = false) : ResD w0 K Φ kc tc D σ W.drew := ⟨hb.drew, kpt.drew hK, fun e => by rw [hD] at e; cases e⟩
end
end Go.Proofs.YtpnnlmaipcjkmaaGreat
