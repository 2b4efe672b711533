/-
  Groves in lists: which lists are of groves (the program's).
-/
import Derived.Test.YtpnnlmaipcjkmaaGreatQV7
import Derived.Test.YtpnnlmaipcjkmaaGreatQV12
set_option linter.all false
namespace Go.Proofs.YtpnnlmaipcjkmaaGreat
open Go.RowKit
open R6 (done done_ne done_me upd_ne upd_me)

attribute [local go_sem] gives

structure Gv where
  g : Gr
  A1 : Option Addr
  c1 : Nat
  A2 : Option Addr
  c2 : Nat
def gvl (x : Gv) : List Value := [.int .i64 x.g.id, .int .i64 x.g.hab.lo, .int .i64 x.g.hab.hi, .int .i64 x.g.hab.bears, .int .i64 x.g.hab.ripe, .int .i64 x.g.hab.dies, .int .i64 x.g.hab.keep, .int .i64 x.g.first, .slice x.A1 x.g.start.length x.c1, .slice x.A2 x.g.seas.length x.c2]
def gvId (x : Gv) : Int := x.g.id
theorem gvl_len (x : Gv) : (gvl x).length = 10 := rfl
theorem gvl_grv (x : Gv) : .agg (gvl x).toArray = grv x.g x.A1 x.c1 x.A2 x.c2 := rfl
theorem gvl_one (l : List Gv) : ∀ v ∈ l.flatMap gvl, v.oneCell' = true := by
  intro v hv
  obtain ⟨p, -, hv⟩ := List.mem_flatMap.1 hv
  simp only [gvl, List.mem_cons, List.not_mem_nil, or_false] at hv
  rcases hv with rfl | rfl | rfl | rfl | rfl | rfl | rfl | rfl | rfl | rfl <;> rfl
structure GvsAt (w : World) (B : Nat) (l : List Gv) (A : Option Addr) : Prop where
  v : Vals w B A (l.flatMap gvl)
  at_ : ∀ x ∈ l, GrAt w B x.g x.A1 x.c1 x.A2 x.c2
theorem GvsAt.below {w w' : World} {B : Nat} {l : List Gv} {A : Option Addr} (h : GvsAt w B l A) (hb : Below B w w') : GvsAt w' B l A := ⟨h.v.below hb, fun x hx => (h.at_ x hx).below hb⟩
theorem GvsAt.mono {w : World} {B B' : Nat} {l : List Gv} {A : Option Addr} (h : GvsAt w B l A) (hb : B ≤ B') : GvsAt w B' l A := ⟨h.v.mono hb, fun x hx => (h.at_ x hx).mono hb⟩
theorem rowGroveA : RowTy Tryz.prog 74 10 := ⟨⟨_, Tryz.underlying74, rfl⟩, by kernel_rfl⟩
def okGv (x : Gv) : Bool := okGrove x.g

theorem gtId_any (y : Gv) (w : World) : Calls Tryz.prog 76 #[.agg (gvl y).toArray] w fun e w' => e = .returned (.int .i64 (gvId y)) ∧ Below w.heap.size w w' := by
  unfold gvl gvId
  go_enter Tryz.func76, Tryz.ntmps76
  go_wp2
  go_ret
  exact ⟨rfl, grow1 _ _⟩

set_option maxRecDepth 100000 in
set_option maxHeartbeats 4000000 in
theorem gtOk_any (y : Gv) (B : Nat) (w : World) (hB : B ≤ w.heap.size) (hy : GrAt w B y.g y.A1 y.c1 y.A2 y.c2) : Calls Tryz.prog 77 #[.agg (gvl y).toArray] w fun e w' => e = .returned (.bool (okGv y)) ∧ Below w.heap.size w w' := by
  obtain ⟨w1, hw1⟩ : ∃ w1, w.alloc (.cells (gvl y).toArray 74) = w1 := ⟨_, rfl⟩
  have hb1 : Below w.heap.size w w1 := by rw [← hw1]; exact grow1 _ _
  have m1 : w1.heap[w.heap.size]? = some (.cells (gvl y).toArray 74 (0, 0)) := by rw [← hw1]; exact alloc_at0 _ _
  have hc := check_anyL1 y.g y.A1 y.c1 y.A2 y.c2 B w1 (Nat.le_trans hB hb1.size) (hy.below (hb1.mono hB))
  rw [← gvl_grv] at hc
  have H1 := Lib.hid (And.intro hb1 m1)
  unfold okGv
  unfold errG at hc
  clear hb1 m1 hy
  cases hv : okGrove y.g
  all_goals
    rw [hv] at hc
    simp only [if_true, Bool.false_eq_true, if_false] at hc
    have HC := Lib.hid hc
    clear hc hv
    unfold gvl at hw1 ⊢
    go_enter Tryz.func77, Tryz.ntmps77
    go_wp2_with (first
      | (show wpList _ _ _ (Oper.mk (some 3) _ _ _ _ _ :: _) _ _
         refine wpList_load_blk 74 (.tmp 1) rfl rfl rfl H1.out.2 (gvl y) at0 rowGroveA ?_)
      | (go_at_call 78
         refine HC.out.mono ?_
         rintro e w2 ⟨rfl, hB2⟩
         have H2 := Lib.hid (H1.out.1.trans (hB2.mono H1.out.1.size))
         clear hB2))
    go_ret
    exact ⟨rfl, H2.out⟩

set_option maxRecDepth 100000 in
set_option maxHeartbeats 4000000 in
theorem gtByG_any (ok : Gv → Bool) (most : Int) (A : Option Addr) (cap : Nat) (l : List Gv) (B : Nat) (w : World) (hB : B ≤ w.heap.size) (hz : Vals w B A (l.flatMap gvl)) (hl : l.length ≤ 1000000)
    (HF : ∀ (y : Gv) (W : World), y ∈ l → Below w.heap.size w W → Calls Tryz.prog 77 #[.agg (gvl y).toArray] W fun e w' => e = .returned (.bool (ok y)) ∧ Below W.heap.size W w') :
    Calls Tryz.prog 75 #[.slice A l.length cap, .int .i64 most, .func (.func 76) #[] #[], .func (.func 77) #[] #[]] w fun e w' => e = .returned (.bool (decide ((l.length : Int) ≤ most) && byIdL gvId ok l 0)) ∧ Below w.heap.size w w' := by
  have HW := Lib.hid (fun (lo hi : Int) (n : Int) (W : World) => grWithin_new lo hi [n] (W.alloc (.cells #[.int .i64 n] 3)) W.heap.size 1 1 rfl (alloc_at0 W _) (by simp))
  have HZ := Lib.hid hz
  have HFF := Lib.hid HF
  clear hz HF
  by_cases hm : (l.length : Int) ≤ most
  · rw [show decide ((l.length : Int) ≤ most) = true by simpa using hm, Bool.true_and]
    have hm2 : ¬ most < (l.length : Int) := by omega
    clear hm
    go_enter Tryz.func75, Tryz.ntmps75
    go_wp2
    go_loopg [9, 18] l.length (fun gg s9 s18 wx => ∃ (k : Nat) (n : Int), k + gg = l.length ∧ s18 = .int .i64 k ∧ s9 = .int .i64 n ∧ (0 ≤ n ∧ n ≤ 10000) ∧ Hid (byIdL gvId ok (l.drop k) n = byIdL gvId ok l 0) ∧ Hid (Below w.heap.size w wx))
    case atStart => exact ⟨0, 0, by omega, rfl, rfl, by omega, rfl, Below.refl _ _⟩
    case round =>
      obtain ⟨k, n, hkg, rfl, rfl, hn, hI, hM⟩ := hrel
      obtain ⟨hn0, hn1⟩ := hn
      cases gk with
      | zero =>
        have hI' := hI.out
        obtain rfl : k = l.length := by omega
        rw [List.drop_length] at hI'
        have HI := Lib.hid hI'
        clear hI'
        go_wp2
        go_ret
        exact ⟨by rw [← HI.out]; rfl, hM.out⟩
      | succ gg =>
        have hk : k < l.length := by omega
        have hkz : (k : Int) < l.length := by omega
        obtain ⟨c, off, hA, hcB, hc⟩ := vals_elem gvl_len HZ.out (by decide) hk
        subst hA
        have hc' : ∀ j v, (gvl l[k])[j]? = some v → wr.cell? ⟨c, off + k * 10 + j, none⟩ = some v := fun j v hv => (hM.out.cell (p := ⟨c, off + k * 10 + j, none⟩) (by simp; omega)).trans (hc j v hv)
        have hst : byIdL gvId ok (l.drop k) n = (inR (gvId l[k]) n 9999 && (ok l[k] && byIdL gvId ok (l.drop (k + 1)) ((gvId l[k]) + 1))) := by rw [List.drop_eq_getElem_cons hk]; rfl
        rw [hI.out] at hst
        have hy := fun W' (h : Below wr.heap.size wr W') => HFF.out l[k] W' (List.getElem_mem hk) (hM.out.trans (h.mono hM.out.size))
        generalize l[k] = y at hc' hst hy
        have hid := fun W' => gtId_any y W'
        have HY := Lib.hid hy
        have HST := Lib.hid hst
        have HCC := Lib.hid hc'
        have HID := Lib.hid hid
        clear hc hc' hst hy hid
        have ea : inR (gvId y) n 9999 = allB n 9999 [(gvId y)] := by simp [allB]
        rw [ea] at HST
        clear ea
        cases ha : allB n 9999 [(gvId y)] with
        | false =>
          rw [ha] at HST
          have HA := Lib.hid ha
          clear ha
          generalize hyi : (gvId y) = yi at HID HA
          clear hyi
          go_wp2_with (first
            | (show wpList _ _ _ (Oper.mk (some 21) _ _ _ _ _ :: _) _ _
               refine wpList_load_at 74 (.tmp 20) rfl rfl rfl (gvl y) HCC.out rowGroveA ?_)
            | (show wpList _ _ _ (Oper.mk none (Op.store _ (Operand.tmp 11) (Operand.tmp 21)) _ _ _ _ :: _) _ _
               refine wpList_store_blk 74 (.tmp 11) (.tmp 21) rfl rfl rfl rfl rfl (alloc_at0 wr _) (Nat.le_of_ble_eq_true rfl) (fun v hv => gvl_one [y] v (by simpa using hv)) rowGroveA ?_
               intro w5 hP5 hM5
               rw [splice_whole (by rfl)] at hM5
               have H5 := Lib.hid (And.intro ((grow1 wr _).trans (hP5.below (Nat.le_refl _))) hM5)
               clear hP5 hM5)
            | (show wpList _ _ _ (Oper.mk (some 25) _ _ _ _ _ :: _) _ _
               refine wpList_load_blk 74 (.tmp 11) rfl rfl rfl H5.out.2 (gvl y) at0 rowGroveA ?_)
            | (go_at_call 76
               refine (HID.out w5).mono ?_
               rintro e w6 ⟨rfl, hB6⟩
               have H6 := Lib.hid (H5.out.1.trans (hB6.mono H5.out.1.size))
               clear hB6)
            | (go_at_call 93
               refine (HW.out n 9999 yi w6).mono ?_
               rintro e w7 ⟨rfl, hB7⟩
               rw [HA.out]
               have H7 := Lib.hid (H6.out.trans (((grow1 w6 _).trans (hB7.mono (by simp))).mono H6.out.size))
               clear hB7))
          go_ret
          exact ⟨by rw [HST.out]; rfl, hM.out.trans (H7.out.mono hM.out.size)⟩
        | true =>
          have hyb : n ≤ (gvId y) ∧ (gvId y) ≤ 9999 := by have := ha; simpa [allB, inR_iff] using this
          obtain ⟨hyb0, hyb1⟩ := hyb
          cases hp : ok y
          all_goals
            rw [ha, hp] at HST
            rw [hp] at HY
            have HA := Lib.hid ha
            clear ha hp
            generalize hyi : (gvId y) = yi at HID HA HST hyb0 hyb1
            have HYI := Lib.hid hyi
            clear hyi
            go_wp2_with (first
              | (show wpList _ _ _ (Oper.mk (some 21) _ _ _ _ _ :: _) _ _
                 refine wpList_load_at 74 (.tmp 20) rfl rfl rfl (gvl y) HCC.out rowGroveA ?_)
              | (show wpList _ _ _ (Oper.mk none (Op.store _ (Operand.tmp 11) (Operand.tmp 21)) _ _ _ _ :: _) _ _
                 refine wpList_store_blk 74 (.tmp 11) (.tmp 21) rfl rfl rfl rfl rfl (alloc_at0 wr _) (Nat.le_of_ble_eq_true rfl) (fun v hv => gvl_one [y] v (by simpa using hv)) rowGroveA ?_
                 intro w5 hP5 hM5
                 rw [splice_whole (by rfl)] at hM5
                 have H5 := Lib.hid (And.intro ((grow1 wr _).trans (hP5.below (Nat.le_refl _))) hM5)
                 clear hP5 hM5)
              | (show wpList _ _ _ (Oper.mk (some 25) _ _ _ _ _ :: _) _ _
                 refine wpList_load_blk 74 (.tmp 11) rfl rfl rfl H5.out.2 (gvl y) at0 rowGroveA ?_)
              | (show wpList _ _ _ (Oper.mk (some 32) _ _ _ _ _ :: _) _ _
                 refine wpList_load_blkG 74 (.tmp 11) rfl rfl rfl H7.out.2 (gvl y) at0 rowGroveA ?_)
              | (show wpList _ _ _ (Oper.mk (some 37) _ _ _ _ _ :: _) _ _
                 refine wpList_load_blk 74 (.tmp 11) rfl rfl rfl H8.out.2 (gvl y) at0 rowGroveA ?_)
              | (go_at_call 77
                 refine (HY.out w7 H7.out.1).mono ?_
                 rintro e w8 ⟨rfl, hB8⟩
                 have H8 := Lib.hid (And.intro (H7.out.1.trans (hB8.mono H7.out.1.size)) ((hB8.block _ (lt_of_heap H7.out.2)).trans H7.out.2))
                 clear hB8)
              | (go_at_call 76
                 refine (HID.out w8).mono ?_
                 rintro e w9 ⟨rfl, hB9⟩
                 have H9 := Lib.hid (H8.out.1.trans (hB9.mono H8.out.1.size))
                 clear hB9)
              | (go_at_call 76
                 refine (HID.out w5).mono ?_
                 rintro e w6 ⟨rfl, hB6⟩
                 have H6 := Lib.hid (And.intro (H5.out.1.trans (hB6.mono H5.out.1.size)) ((hB6.block _ (lt_of_heap H5.out.2)).trans H5.out.2))
                 clear hB6)
              | (go_at_call 93
                 refine (HW.out n 9999 yi w6).mono ?_
                 rintro e w7 ⟨rfl, hB7⟩
                 rw [HA.out]
                 have hb7 := (grow1 w6 (.cells #[.int .i64 yi] 3)).trans (hB7.mono (by simp))
                 have H7 := Lib.hid (And.intro (H6.out.1.trans (hb7.mono H6.out.1.size)) ((hb7.block _ (lt_of_heap H6.out.2)).trans H6.out.2))
                 clear hB7 hb7))
          rotate_left
          · go_roundg gg
            case measure => omega
            case rel => exact ⟨k + 1, yi + 1, by omega, by go_num, by go_num, by omega, by rw [HST.out]; rfl, hM.out.trans (H9.out.mono hM.out.size)⟩
          · go_ret
            exact ⟨by rw [HST.out]; rfl, hM.out.trans (H8.out.1.mono hM.out.size)⟩
  · rw [show decide ((l.length : Int) ≤ most) = false by simpa using hm, Bool.false_and]
    have hm2 : most < (l.length : Int) := by omega
    clear hm
    go_enter Tryz.func75, Tryz.ntmps75
    go_wp2
    go_ret
    exact ⟨rfl, Below.refl _ _⟩


def okGvs (l : List Gv) : Bool := decide ((l.length : Int) ≤ 6) && byIdL gvId okGv l 0
set_option maxRecDepth 100000 in
set_option maxHeartbeats 4000000 in
theorem gtValidGroves_any (l : List Gv) (A : Option Addr) (cap : Nat) (B : Nat) (w : World) (hB : B ≤ w.heap.size) (hz : GvsAt w B l A) (hl : l.length ≤ 1000000) :
    Calls Tryz.prog 44 #[.slice A l.length cap] w fun e w' => e = .returned (.bool (okGvs l)) ∧ Below w.heap.size w w' := by
  have H := gtByG_any okGv 6 A cap l B w hB hz.v hl (fun y W hy hW => gtOk_any y B W (Nat.le_trans hB hW.size) ((hz.at_ y hy).below (hW.mono hB)))
  unfold okGvs
  generalize (decide ((l.length : Int) ≤ 6) && byIdL gvId okGv l 0) = v at H ⊢
  have HH := Lib.hid H
  clear H hz
  go_enter Tryz.func44, Tryz.ntmps44
  go_wp2_with (go_at_call 75; refine HH.out.mono ?_; rintro e w2 ⟨rfl, hB2⟩; have H2 := Lib.hid hB2; clear hB2)
  go_ret
  exact ⟨rfl, H2.out⟩

end Go.Proofs.YtpnnlmaipcjkmaaGreat
