/-
  The reference's view of soaks in lists.
-/
import Derived.Test.YtpnnlmaipcjkmaaGreatQV47
import Derived.Test.YtpnnlmaipcjkmaaGreatQV36
import Derived.Test.YtpnnlmaipcjkmaaGreatQV21
import Derived.Test.YtpnnlmaipcjkmaaGreatQV8
set_option linter.all false
namespace Go.Proofs.YtpnnlmaipcjkmaaGreat
open Go.RowKit

def greatBk (gv : List Gv) (l : List Sk) : Bool := decide (8 < gv.length) || (decide (8 < l.length) || (gv.any (fun y => greatL1 y.g) || l.any (fun x => greatB x.l)))
theorem drop_any {α : Type} (P : α → Bool) (l : List α) (k : Nat) (hk : k < l.length) : (l.drop k).any P = (P l[k] || (l.drop (k + 1)).any P) := by rw [List.drop_eq_getElem_cons hk]; rfl

structure SksBig (w : World) (B : Nat) (l : List Sk) (A : Option Addr) : Prop where
  v : Vals w B A (l.flatMap skl)
  r : ∀ x ∈ l, Rows w B x.A x.l
  s : ∀ x ∈ l, x.l.length ≤ 9223372036854775807
theorem SksBig.below {w w' : World} {B : Nat} {l : List Sk} {A : Option Addr} (h : SksBig w B l A) (hb : Below B w w') : SksBig w' B l A := ⟨h.v.below hb, fun x hx => (h.r x hx).below hb, h.s⟩
set_option maxRecDepth 100000 in
set_option maxHeartbeats 4000000 in
theorem rfGreatBooks_big (gv : List Gv) (l : List Sk) (A1 : Option Addr) (c1 : Nat) (A : Option Addr) (cap : Nat) (B : Nat) (w : World) (hB : B ≤ w.heap.size) (hg : GvsAt w B gv A1) (hgl : gv.length ≤ 9223372036854775807) (hz : SksBig w B l A) (hl : l.length ≤ 9223372036854775807) :
    Calls Tryz.prog 12 #[.slice A1 gv.length c1, .slice A l.length cap] w fun e w' => e = .returned (.bool (greatBk gv l)) ∧ Below w.heap.size w w' := by
  unfold greatBk
  by_cases h8 : 8 < gv.length
  · have h8z : (gv.length : Int) > 8 := by omega
    have hd : decide (8 < gv.length) = true := by simp; omega
    rw [hd]
    clear hd hz hg
    go_enter Tryz.func12, Tryz.ntmps12
    go_wp2
    go_ret
    exact ⟨rfl, Below.refl _ _⟩
  have h8z : decide ((gv.length : Int) > 8) = false := by simp; omega
  have hd : decide (8 < gv.length) = false := by simp; omega
  rw [hd]
  clear hd
  by_cases h9 : 8 < l.length
  · have h9z : (l.length : Int) > 8 := by omega
    have hd : decide (8 < l.length) = true := by simp; omega
    rw [hd]
    clear hd hz hg
    go_enter Tryz.func12, Tryz.ntmps12
    go_wp2
    go_ret
    exact ⟨rfl, Below.refl _ _⟩
  have h9z : decide ((l.length : Int) > 8) = false := by simp; omega
  have hd : decide (8 < l.length) = false := by simp; omega
  rw [hd]
  obtain ⟨P, hP⟩ : ∃ P : Gv → Bool, P = fun y => greatL1 y.g := ⟨_, rfl⟩
  obtain ⟨Q, hQ⟩ : ∃ Q : Sk → Bool, Q = fun x => greatB x.l := ⟨_, rfl⟩
  rw [← hP, ← hQ]
  have HZ := Lib.hid hz
  have HG := Lib.hid hg
  have HBB := Lib.hid hB
  have HPQ := Lib.hid (And.intro hP hQ)
  clear hd hz hB hg hP hQ
  go_enter Tryz.func12, Tryz.ntmps12
  go_wp2
  clear h8z h9z
  go_loopg [5] gv.length (fun gg s5 wx => ∃ k : Nat, k + gg = gv.length ∧ s5 = .int .i64 k ∧ Hid ((gv.drop k).any P = gv.any P) ∧ Hid (Below w.heap.size w wx))
  case atStart => exact ⟨0, by omega, rfl, rfl, Lib.hid (Below.refl _ _)⟩
  case round =>
    obtain ⟨k, hkg, rfl, hI, HW⟩ := hrel
    cases gk with
    | zero =>
      have hI' := hI.out
      obtain rfl : k = gv.length := by omega
      rw [List.drop_length] at hI'
      have HI := Lib.hid hI'
      clear hI' hI
      go_wp2
      go_loopg [6] l.length (fun gh s6 wx => ∃ j : Nat, j + gh = l.length ∧ s6 = .int .i64 j ∧ Hid ((l.drop j).any Q = l.any Q) ∧ Hid (Below w.heap.size w wx))
      case atStart => exact ⟨0, by omega, rfl, rfl, HW⟩
      case round =>
        obtain ⟨j, hjg, rfl, hJ, HV⟩ := hrel
        cases gk with
        | zero =>
          have hJ' := hJ.out
          obtain rfl : j = l.length := by omega
          rw [List.drop_length] at hJ'
          have HJ := Lib.hid hJ'
          clear hJ' hJ
          go_wp2
          go_ret
          exact ⟨by rw [← HI.out, ← HJ.out]; rfl, HV.out⟩
        | succ gh =>
          have hj : j < l.length := by omega
          have hjz : (j : Int) < l.length := by omega
          obtain ⟨c, off, hA, hcB, hc⟩ := vals_elem skl_len HZ.out.v (by decide) hj
          subst hA
          have hst := drop_any Q l j hj
          rw [hJ.out] at hst
          have hc' : ∀ i v, (skl l[j])[i]? = some v → wr.cell? ⟨c, off + j * 7 + i, none⟩ = some v := fun i v hv => (HV.out.cell (p := ⟨c, off + j * 7 + i, none⟩) (by have := HBB.out; simp; omega)).trans (hc i v hv)
          have hrw := (HZ.out.r _ (List.getElem_mem hj)).below (HV.out.mono HBB.out)
          have hsh := HZ.out.s _ (List.getElem_mem hj)
          have hqq := congrFun HPQ.out.2 l[j]
          generalize l[j] = y at hc' hst hrw hsh hqq
          have hcb : ∀ i v, (skb y)[i]? = some v → wr.cell? ⟨c, off + j * 7 + i, none⟩ = some v := fun i v hv => hc' i v (by
            have hj : i < 6 := (List.getElem?_eq_some_iff.1 hv).1
            rcases (by omega : i = 0 ∨ i = 1 ∨ i = 2 ∨ i = 3 ∨ i = 4 ∨ i = 5) with rfl | rfl | rfl | rfl | rfl | rfl <;> exact hv)
          have hgr := great_any y.t y.A y.c y.l B wr (Nat.le_trans HBB.out HV.out.size) hrw hsh
          rw [← hqq] at hgr
          have HCB := Lib.hid hcb
          have HST := Lib.hid hst
          clear hc hst hc' hrw hsh hcb hqq
          cases hq : Q y
          all_goals
            rw [hq] at hgr
            have HGR := Lib.hid hgr
            have HQY := Lib.hid hq
            clear hgr hq
            go_wp2_with (first
              | (show wpList _ _ _ (Oper.mk (some 36) _ _ _ _ _ :: _) _ _
                 refine wpList_load_at 63 (.tmp 35) rfl rfl rfl (cs := skb y) HCB.out rowBatchA ?_)
              | (go_at_call 43
                 refine HGR.out.mono ?_
                 rintro e w2 ⟨rfl, hB2⟩
                 have HW2 := Lib.hid (HV.out.trans (hB2.mono HV.out.size))
                 clear hB2))
          · go_roundg gh
            case measure => omega
            case rel => exact ⟨j + 1, by omega, by go_num, Lib.hid (by rw [HST.out, HQY.out]; rfl), HW2⟩
          · go_ret
            exact ⟨by rw [← HI.out, HST.out, HQY.out]; rfl, HW2.out⟩
    | succ gg =>
      have hk : k < gv.length := by omega
      have hkz : (k : Int) < gv.length := by omega
      obtain ⟨c, off, hA, hcB, hc⟩ := vals_elem gvl_len HG.out.v (by decide) hk
      subst hA
      have hst := drop_any P gv k hk
      rw [hI.out] at hst
      have hc' : ∀ i v, (gvl gv[k])[i]? = some v → wr.cell? ⟨c, off + k * 10 + i, none⟩ = some v := fun i v hv => (HW.out.cell (p := ⟨c, off + k * 10 + i, none⟩) (by have := HBB.out; simp; omega)).trans (hc i v hv)
      have hqq := congrFun HPQ.out.1 gv[k]
      generalize gv[k] = y at hc' hst hqq
      have hgr := refGreat_anyL1 y.g y.A1 y.c1 y.A2 y.c2 wr
      rw [← hqq] at hgr
      have HCB := Lib.hid hc'
      have HST := Lib.hid hst
      clear hc hst hc' hqq
      cases hq : P y
      all_goals
        rw [hq] at hgr
        have HGR := Lib.hid hgr
        have HQY := Lib.hid hq
        clear hgr hq
        go_wp2_with (first
          | (show wpList _ _ _ (Oper.mk (some 24) _ _ _ _ _ :: _) _ _
             refine wpList_load_at 74 (.tmp 23) rfl rfl rfl (cs := gvl y) HCB.out rowGroveA ?_)
          | (go_at_call 42
             refine HGR.out.mono ?_
             rintro e w2 ⟨rfl, hB2⟩
             have HW2 := Lib.hid (HW.out.trans (hB2.mono HW.out.size))
             clear hB2))
      · go_roundg gg
        case measure => omega
        case rel => exact ⟨k + 1, by omega, by go_num, Lib.hid (by rw [HST.out, HQY.out]; rfl), HW2⟩
      · go_ret
        exact ⟨by rw [HST.out, HQY.out]; simp, HW2.out⟩

end Go.Proofs.YtpnnlmaipcjkmaaGreat
