/-
  Texts laid together: FwB, CeU8, FuL.
-/
import Derived.Laws.BytesArg
import Derived.Test.YtjjipkgconmfcaaB914
import Derived.Test.YtjjipkgconmfcaaB93
import Derived.Test.YtjjipkgconmfcaaB91
import Derived.Test.YtjjipkgconmfcaaB912
set_option linter.all false
namespace Go.Proofs.Ytjjipkgconmfcaa
open Go.RowKit Go.Shelf
open R6 (done done_ne done_me upd_ne upd_me)

attribute [local go_sem] gives

def rmK (l : List (Int × Int)) (_ : Nat) (v : Value) (W : World) : Prop := ∃ A cap, v = .slice A l.length cap ∧ Vals W W.heap.size A (pairs l)
theorem rmK_stab (l : List (Int × Int)) : Stab (rmK l) := by
  rintro k v W W' hg ⟨A, cap, e, hv⟩
  exact ⟨A, cap, e, Vals.mono (Vals.below hv hg) hg.size⟩

set_option maxRecDepth 100000 in
set_option maxHeartbeats 8000000 in
theorem validPlaces_any (b : Bk) (hok : okBk b = true) (A : Option Addr) (cap : Nat) (ps : List Int) (hl : ps.length ≤ 1000000) (hcp : ps.length ≤ cap) (hcap : cap ≤ 9223372036854775807) (B : Nat) (w : World) (hB : B ≤ w.heap.size) (hz : BkAt w B b) (hI : Ints w B A ps) :
    Calls Try.prog 43 #[.agg (bkc b).toArray, .slice A ps.length cap] w fun e w' => e = .returned (.bool (okPl b ps)) ∧ Below w.heap.size w w' := by
  obtain ⟨hlen, hbb, hbr⟩ := okBk_bnd hok
  have HBN := Lib.hid (And.intro hlen hbr)
  obtain ⟨w1, hw1⟩ : ∃ w1, w.alloc (.cells (bkc b).toArray 34) = w1 := ⟨_, rfl⟩
  have hb1 : Below w.heap.size w w1 := by rw [← hw1]; exact grow1 _ _
  have m1 : w1.heap[w.heap.size]? = some (.cells (bkc b).toArray 34 (0, 0)) := by rw [← hw1]; exact alloc_at0 _ _
  have HM := Lib.hid (And.intro hb1 m1)
  have HZ := Lib.hid (And.intro hB (And.intro hz hI))
  have HW := Lib.hid (fun W g hg => within_new 1 9 [(ps.length : Int)] W g 1 1 rfl hg (by simp))
  have ha9 : allB 1 9 [(ps.length : Int)] = (decide (1 ≤ ps.length) && decide (ps.length ≤ 9)) := by
    rw [allB_one, Bool.eq_iff_iff]; simp only [Bool.and_eq_true, decide_eq_true_eq, inR_iff]; omega
  have hc1 := fun i => cell_of_row w1 w.heap.size i _ _ _ m1
  clear hok hlen hbb hbr hb1 m1 hz hI
  unfold okPl
  rw [← ha9]
  unfold bkc at hw1 hc1 ⊢
  by_cases h9 : allB 1 9 [(ps.length : Int)] = true
  rotate_left
  · have h9f : allB 1 9 [(ps.length : Int)] = false := by simpa using h9
    rw [h9f] at HW ⊢
    have hlz : (ps.length : Int) ≤ 1000000 := by omega
    clear ha9 h9 h9f
    go_enter Try.func43, Try.ntmps43
    go_wp2_with (first
      | (go_at_call 65; refine (fromOne_any _ _).mono ?_; rintro e w2 ⟨rfl, hB2⟩; have H2 := Lib.hid hB2; clear hB2)
      | (go_at_call 64; refine (HW.out _ _ (alloc_at0 w2 _)).mono ?_; rintro e w3 ⟨rfl, hB3⟩; have H3 := Lib.hid (H2.out.trans (((grow1 w2 _).trans (hB3.mono (grow1 w2 _).size)).mono H2.out.size)); clear hB3))
    go_ret
    exact ⟨rfl, HM.out.1.trans (H3.out.mono HM.out.1.size)⟩
  have hl9 : ps.length ≤ 9 := by rw [ha9] at h9; simp only [Bool.and_eq_true, decide_eq_true_eq] at h9; exact h9.2
  rw [h9] at HW ⊢
  clear ha9 h9
  have hlz : (ps.length : Int) ≤ 9 := by omega
  have hcz : (cap : Int) ≤ 9223372036854775807 := by omega
  have hcpz : (ps.length : Int) ≤ cap := by omega
  go_enter Try.func43, Try.ntmps43
  go_wp2_with (first
    | (go_at_call 65; refine (fromOne_any _ _).mono ?_; rintro e w2 ⟨rfl, hB2⟩; have H2 := Lib.hid hB2; clear hB2)
    | (go_at_call 64; refine (HW.out _ _ (alloc_at0 w2 _)).mono ?_; rintro e w3 ⟨rfl, hB3⟩; have H3 := Lib.hid (H2.out.trans (((grow1 w2 _).trans (hB3.mono (grow1 w2 _).size)).mono H2.out.size)); clear hB3))
  go_loopg [15] ps.length (fun gg s15 wx => ∃ k : Nat, k + gg = ps.length ∧ s15 = .int .i64 k ∧ Hid ((∀ j, j < k → inRm b ps j = true) ∧ ∀ p ∈ ps.take k, 50 ≤ p ∧ p ≤ 20000) ∧ Hid (Below w1.heap.size w1 wx))
  case atStart => exact ⟨0, by omega, by go_num, ⟨fun j hj => absurd hj (Nat.not_lt_zero j), fun p hp => by simp at hp⟩, H3.out⟩
  case round =>
    obtain ⟨k, hkg, rfl, hI, hBr⟩ := hrel
    have hws := hBr.out.size
    cases gk with
    | zero =>
      obtain rfl : k = ps.length := by omega
      go_wp2
      go_ret
      have hall : (List.range ps.length).all (inRm b ps) = true := List.all_eq_true.2 (fun j hj => hI.out.1 j (List.mem_range.1 hj))
      exact ⟨by rw [hall]; rfl, HM.out.1.trans (hBr.out.mono HM.out.1.size)⟩
    | succ gg =>
      have hk : k < ps.length := by omega
      have hkz : (k : Int) < ps.length := by omega
      have hkc : k ≤ cap := by omega
      have hbw := HM.out.1.trans (hBr.out.mono HM.out.1.size)
      have hzr := HZ.out.2.1.below (hbw.mono HZ.out.1)
      have hir := Ints.below HZ.out.2.2 (hbw.mono HZ.out.1)
      obtain ⟨S, off, hA, hS, hcS⟩ := hir (by omega)
      subst hA
      have hck := hcS k hk
      have hc0 := fun i => cell_of_row wr w.heap.size i _ _ _ ((hBr.out.block _ (lt_of_heap HM.out.2)).trans HM.out.2)
      unfold bkc at hc0
      generalize hpk : ps[k]?.getD 0 = pk at hck
      have HPK := Lib.hid (And.intro hpk (And.intro hbw (And.intro hzr hir)))
      clear hbw hzr hir hcS hpk hc1
      have hlast : ∀ p, (ps.take k).getLast? = some p → 50 ≤ p ∧ p ≤ 20000 := fun p hp => hI.out.2 p (List.mem_of_getLast? hp)
      have HRL := Lib.hid (roomL_bnd b HBN.out.2 HBN.out.1 (ps.take k).getLast? hlast).2
      have HRM := Lib.hid (fun W (hW : Below wr.heap.size wr W) => room_of b HBN.out.2 (some ⟨S, off, none⟩) cap ps k (by omega) hI.out.2 (by omega) B W (Nat.le_trans HZ.out.1 (Nat.le_trans HPK.out.2.1.size hW.size)) (HPK.out.2.2.1.below (hW.mono (Nat.le_trans HZ.out.1 HPK.out.2.1.size))) (Ints.below HPK.out.2.2.2 (hW.mono (Nat.le_trans HZ.out.1 HPK.out.2.1.size))))
      unfold RoomPost at HRM
      unfold bkc at HRM
      have HIR := Lib.hid (show inRm b ps k = (roomL b (ps.take k).getLast?).any fun s => allB s.1 s.2 [pk] by unfold inRm; rw [HPK.out.1])
      clear hlast
      cases hin : inRm b ps k
      · have HIN := Lib.hid hin
        clear hin
        go_wp2
        obtain ⟨w4, hw4⟩ : ∃ w4, wr.alloc (.cells #[.int .i64 pk] 3) = w4 := ⟨_, rfl⟩
        rw [hw4]
        have hb4 : Below wr.heap.size wr w4 := by rw [← hw4]; exact grow1 _ _
        have m4 : w4.heap[wr.heap.size]? = some (.cells #[.int .i64 pk] 3 (0, 0)) := by rw [← hw4]; exact alloc_at0 _ _
        have n4 := (hb4.block _ (Nat.lt_of_lt_of_le (lt_of_heap HM.out.2) hws)).trans ((hBr.out.block _ (lt_of_heap HM.out.2)).trans HM.out.2)
        have H4 := Lib.hid (And.intro hb4 (And.intro m4 n4))
        clear hw4 hb4 m4 n4
        refine R6.wp_walk (C := ResF w4 [(w.heap.size, .cells (bkc b).toArray 34 (0, 0)), (wr.heap.size, .cells #[.int .i64 pk] 3 (0, 0))] (rmK (roomL b (ps.take k).getLast?)) [(4, 24, 0)]) 29 (by kernel_rfl) (by kernel_rfl) rfl (ResF.start (Below.refl _ _) ⟨H4.out.2.2, H4.out.2.1, trivial⟩ (fun _ => rfl)) ?_
        simp only []
        iterate 4
          (refine' R6.WalkR.det (fun _ => rfl) (fun D ρ W hK hC => ?_) ?_
           rotate_left
           · have f0 := fun i => cell_of_row W w.heap.size i _ _ _ hC.keep.1
             unfold bkc at f0
             have HC := Lib.hid hC
             clear hC hK
             go_simp
             with_reducible exact ⟨rfl, HC.out.move (by decide)⟩
           simp only [Act.put, List.setIfInBounds_toArray, List.set_cons_succ, List.set_cons_zero])
        refine' R6.WalkR.nd (fun _ => rfl) rfl (fun D ρ W hK hC => ?_) ?_
        · have HC := Lib.hid hC
          clear hC hK
          go_simp
          go_at_call 69
          refine (HRM.out W (H4.out.1.trans (HC.out.bel.mono H4.out.1.size))).mono ?_
          rintro e W2 ⟨A2, c2, rfl, hv, hB2⟩
          exact ⟨_, rfl, HC.out.made (c := 0) (rmK_stab _) hB2 (by decide) ⟨A2, c2, rfl, hv⟩⟩
        simp only [Act.put, List.setIfInBounds_toArray, List.set_cons_succ, List.set_cons_zero]
        refine' R6.WalkR.det (fun _ => rfl) (fun D ρ W hK hC => ?_) ?_
        rotate_left
        · have HC := Lib.hid hC
          clear hC hK
          go_simp
          with_reducible exact ⟨rfl, HC.out.move (by decide)⟩
        simp only [Act.put, List.setIfInBounds_toArray, List.set_cons_succ, List.set_cons_zero]
        refine' R6.WalkR.det (c := .bool (inRm b ps k)) (fun _ => rfl) (fun D ρ W hK hC => ?_) ?_
        · obtain ⟨A2, c2, hv, hV⟩ := hC.get (k := 4) (d := 24) (c := 0) (by simp) (hK.pre 4 (by first | decide +kernel | (dsimp only; decide +kernel)))
          have HC := Lib.hid hC
          have HV := Lib.hid hV
          clear hC hK hV
          go_simp
          go_at_call 68
          refine (hasPl_any (fun s => allB s.1 s.2 [pk]) wr.heap.size A2 c2 (roomL b (ps.take k).getLast?) W.heap.size W (Nat.le_refl _) HV.out (by have := HRL.out; omega) (fun y W3 _ hW3 => place1_any y pk wr.heap.size W3 ((hW3.block _ (lt_of_heap HC.out.keep.2.1)).trans HC.out.keep.2.1))).mono ?_
          rintro e W1 ⟨rfl, hB1⟩
          exact ⟨_, rfl, by rw [HIR.out], HC.out.next (rmK_stab _) hB1 (by decide)⟩
        simp only [Act.put, List.setIfInBounds_toArray, List.set_cons_succ, List.set_cons_zero]
        rw [HIN.out]
        refine' R6.WalkR.det (fun _ => rfl) (fun D ρ W hK hC => ?_) ?_
        rotate_left
        · have HC := Lib.hid hC
          clear hC hK
          go_simp
          with_reducible exact ⟨rfl, HC.out.move (by decide)⟩
        simp only [Act.put, List.setIfInBounds_toArray, List.set_cons_succ, List.set_cons_zero]
        refine R6.WalkR.nil (fun D ρ W hD hC => ?_)
        have H9 := Lib.hid (hBr.out.trans ((H4.out.1.trans (hC.bel.mono H4.out.1.size)).mono hws))
        clear hC hD
        go_wp2
        go_ret
        have hall : (List.range ps.length).all (inRm b ps) = false := by
          rw [List.all_eq_false]
          exact ⟨k, List.mem_range.2 hk, by rw [HIN.out]; decide⟩
        exact ⟨by rw [hall]; rfl, HM.out.1.trans (H9.out.mono HM.out.1.size)⟩
      · have HIN := Lib.hid hin
        clear hin
        go_wp2
        obtain ⟨w4, hw4⟩ : ∃ w4, wr.alloc (.cells #[.int .i64 pk] 3) = w4 := ⟨_, rfl⟩
        rw [hw4]
        have hb4 : Below wr.heap.size wr w4 := by rw [← hw4]; exact grow1 _ _
        have m4 : w4.heap[wr.heap.size]? = some (.cells #[.int .i64 pk] 3 (0, 0)) := by rw [← hw4]; exact alloc_at0 _ _
        have n4 := (hb4.block _ (Nat.lt_of_lt_of_le (lt_of_heap HM.out.2) hws)).trans ((hBr.out.block _ (lt_of_heap HM.out.2)).trans HM.out.2)
        have H4 := Lib.hid (And.intro hb4 (And.intro m4 n4))
        clear hw4 hb4 m4 n4
        refine R6.wp_walk (C := ResF w4 [(w.heap.size, .cells (bkc b).toArray 34 (0, 0)), (wr.heap.size, .cells #[.int .i64 pk] 3 (0, 0))] (rmK (roomL b (ps.take k).getLast?)) [(4, 24, 0)]) 29 (by kernel_rfl) (by kernel_rfl) rfl (ResF.start (Below.refl _ _) ⟨H4.out.2.2, H4.out.2.1, trivial⟩ (fun _ => rfl)) ?_
        simp only []
        iterate 4
          (refine' R6.WalkR.det (fun _ => rfl) (fun D ρ W hK hC => ?_) ?_
           rotate_left
           · have f0 := fun i => cell_of_row W w.heap.size i _ _ _ hC.keep.1
             unfold bkc at f0
             have HC := Lib.hid hC
             clear hC hK
             go_simp
             with_reducible exact ⟨rfl, HC.out.move (by decide)⟩
           simp only [Act.put, List.setIfInBounds_toArray, List.set_cons_succ, List.set_cons_zero])
        refine' R6.WalkR.nd (fun _ => rfl) rfl (fun D ρ W hK hC => ?_) ?_
        · have HC := Lib.hid hC
          clear hC hK
          go_simp
          go_at_call 69
          refine (HRM.out W (H4.out.1.trans (HC.out.bel.mono H4.out.1.size))).mono ?_
          rintro e W2 ⟨A2, c2, rfl, hv, hB2⟩
          exact ⟨_, rfl, HC.out.made (c := 0) (rmK_stab _) hB2 (by decide) ⟨A2, c2, rfl, hv⟩⟩
        simp only [Act.put, List.setIfInBounds_toArray, List.set_cons_succ, List.set_cons_zero]
        refine' R6.WalkR.det (fun _ => rfl) (fun D ρ W hK hC => ?_) ?_
        rotate_left
        · have HC := Lib.hid hC
          clear hC hK
          go_simp
          with_reducible exact ⟨rfl, HC.out.move (by decide)⟩
        simp only [Act.put, List.setIfInBounds_toArray, List.set_cons_succ, List.set_cons_zero]
        refine' R6.WalkR.det (c := .bool (inRm b ps k)) (fun _ => rfl) (fun D ρ W hK hC => ?_) ?_
        · obtain ⟨A2, c2, hv, hV⟩ := hC.get (k := 4) (d := 24) (c := 0) (by simp) (hK.pre 4 (by first | decide +kernel | (dsimp only; decide +kernel)))
          have HC := Lib.hid hC
          have HV := Lib.hid hV
          clear hC hK hV
          go_simp
          go_at_call 68
          refine (hasPl_any (fun s => allB s.1 s.2 [pk]) wr.heap.size A2 c2 (roomL b (ps.take k).getLast?) W.heap.size W (Nat.le_refl _) HV.out (by have := HRL.out; omega) (fun y W3 _ hW3 => place1_any y pk wr.heap.size W3 ((hW3.block _ (lt_of_heap HC.out.keep.2.1)).trans HC.out.keep.2.1))).mono ?_
          rintro e W1 ⟨rfl, hB1⟩
          exact ⟨_, rfl, by rw [HIR.out], HC.out.next (rmK_stab _) hB1 (by decide)⟩
        simp only [Act.put, List.setIfInBounds_toArray, List.set_cons_succ, List.set_cons_zero]
        rw [HIN.out]
        refine' R6.WalkR.det (fun _ => rfl) (fun D ρ W hK hC => ?_) ?_
        rotate_left
        · have HC := Lib.hid hC
          clear hC hK
          go_simp
          with_reducible exact ⟨rfl, HC.out.move (by decide)⟩
        simp only [Act.put, List.setIfInBounds_toArray, List.set_cons_succ, List.set_cons_zero]
        refine R6.WalkR.nil (fun D ρ W hD hC => ?_)
        have H9 := Lib.hid (hBr.out.trans ((H4.out.1.trans (hC.bel.mono H4.out.1.size)).mono hws))
        clear hC hD
        go_wp2
        go_roundg gg
        case measure => omega
        case rel =>
          refine ⟨k + 1, by omega, by go_num, ⟨fun j hj => ?_, fun p hp => ?_⟩, H9.out⟩
          · rcases Nat.lt_or_ge j k with h | h
            · exact hI.out.1 j h
            · rw [show j = k by omega]; exact HIN.out
          · rw [List.take_succ_eq_append_getElem hk] at hp
            rcases List.mem_append.1 hp with hp | hp
            · exact hI.out.2 p hp
            · rw [List.mem_singleton] at hp
              have := inRm_bnd b HBN.out.2 HBN.out.1 ps k hI.out.2 HIN.out
              rw [hp]
              simpa [hk] using this

end Go.Proofs.Ytjjipkgconmfcaa

namespace Go.Proofs.Ytjjipkgconmfcaa
open Go.RowKit

/-- Lists of bytes. -/
def u8s (zs : List Int) : List Value := zs.map (Value.int .u8)
theorem u8s_len (zs : List Int) : (u8s zs).length = zs.length := by simp [u8s]
theorem infoU8 : (Try.prog.info? 5).map (fun i => (i.zero, i.size, i.bytes)) = some (some (.int .u8 0), 1, 1) := by kernel_rfl
theorem sizeU8 : (Try.prog.info? 5).map (·.size) = some 1 := by kernel_rfl
theorem run_make_u8 {P : Program} (t e : TypeId) (i : TypeInfo) (ht : P.underlying t = some (.slice e)) (hi : P.info? e = some i) (hz : i.zero = some (.int .u8 0)) (hs : i.size = 1) (hb : i.bytes = 1) (n : Nat) (hn : n ≤ 1000000) (w : World) :
    (Instr.makeSlice t (.int .i64 (n : Int)) (.int .i64 (n : Int))).run P w = .ok (.slice (some ⟨w.heap.size, 0, none⟩) n n) (w.alloc (.cells (u8s (List.replicate n 0)).toArray e)) := by
  have hr := run_make (P := P) w t e i (.int .u8 0) ht hi hz .i64 .i64 n n (by omega) (by omega) (by rw [hb]; omega) (by omega)
  simp only [Int.toNat_natCast] at hr
  rw [hr, hs]
  have e1 : madeCells (Value.int .u8 0).cells (n * 1) = (u8s (List.replicate n 0)).toArray := by
    apply Array.ext'
    rw [show (Value.int .u8 0).cells = #[.int .u8 0] from rfl, toList_madeCells_one]
    simp [u8s]
  rw [e1]
def OwnU (W : World) (base : Nat) (v : Value) (zs : List Int) : Prop := W.ownsRow base 5 1 v zs.length (u8s zs)
/-- The list while it is filled. -/
def fillL (zs : List Int) (k : Nat) : List Int := zs.take k ++ List.replicate (zs.length - k) 0
theorem fillL_len (zs : List Int) {k : Nat} (hk : k ≤ zs.length) : (fillL zs k).length = zs.length := by simp [fillL]; omega
theorem fillL_zero (zs : List Int) : fillL zs 0 = List.replicate zs.length 0 := by simp [fillL]
theorem fillL_all (zs : List Int) : fillL zs zs.length = zs := by simp [fillL]
theorem fillL_set (zs : List Int) {k : Nat} (hk : k < zs.length) : (fillL zs k).set k zs[k] = fillL zs (k + 1) := by
  unfold fillL
  have e1 : (zs.take k).length = k := by simp; omega
  obtain ⟨m, hm⟩ : ∃ m, zs.length - k = m + 1 := ⟨zs.length - k - 1, by omega⟩
  rw [List.set_append_right _ _ (by omega), e1, Nat.sub_self, hm, List.replicate_succ, List.set_cons_zero, show zs.length - (k + 1) = m by omega, List.take_add_one, List.getElem?_eq_getElem hk]
  simp only [Option.toList_some, List.append_assoc, List.singleton_append]
theorem u8s_set (zs : List Int) (k : Nat) (z : Int) : (u8s zs).set k (.int .u8 z) = u8s (zs.set k z) := by simp [u8s, List.map_set]
/-- A list of bytes, as a string. -/
theorem conv_u8 {W : World} {B c : Nat} {A : Option Addr} {zs : List Int} (h : OwnU W B (.slice A zs.length c) zs) : (convert 52 9 (.slice A zs.length c)).run Try.prog W = .ok (.string (strOfNums zs)) W := by
  cases zs with
  | nil =>
    rcases h.2 with ⟨e, _⟩ | ⟨g, cap, cur, hv, _⟩
    · rw [e]
      exact run_convert_bytes_nil W 52 5 Try.underlying52 Try.underlying5 0 0 9 Try.underlying9
    · rw [hv]
      exact run_convert_bytes_arg W 52 5 Try.underlying52 Try.underlying5 g 0 0 cap [] rfl (fun i hi => by omega) 9 Try.underlying9
  | cons z zs =>
    obtain ⟨b, off, rfl, hb, hc⟩ := Vals.own h (by simp [u8s])
    exact run_convert_bytes_arg W 52 5 Try.underlying52 Try.underlying5 b off _ c (z :: zs) rfl (fun i hi => hc i _ (by
      rw [u8s, List.getElem?_map, List.getElem?_eq_getElem hi]
      simp [List.getD, List.getElem?_eq_getElem hi])) 9 Try.underlying9

end Go.Proofs.Ytjjipkgconmfcaa

namespace Go.Proofs.Ytjjipkgconmfcaa
open Go.RowKit Go.Shelf Go.Maps
open R6 (done done_ne done_me upd_ne upd_me)

attribute [local go_sem] Oper.semAt_some

def fingZ (f : Fu) (o : Int × Int) (l : List Nat) : List Int := (l.filter fun n => insB o (tonF f n)).map fun n : Nat => (n : Int)
theorem fingZ_snoc (f : Fu) (o : Int × Int) (l : List Nat) (p : Nat) : fingZ f o (l ++ [p]) = fingZ f o l ++ (if insB o (tonF f p) = true then [(p : Int)] else []) := by
  unfold fingZ
  rw [List.filter_append, List.map_append]
  by_cases h : insB o (tonF f p) = true <;> simp [h]
theorem fingZ_len (f : Fu) (o : Int × Int) (l : List Nat) : (fingZ f o l).length ≤ l.length := by
  unfold fingZ
  rw [List.length_map]
  exact List.length_filter_le _ _

theorem wpListIn_lookU {F : Fence} {n : Nat} {op : Oper} {ops : Array Oper} {rest : List Oper} {a : Act} {w : World} {Q : Exit → Act → World → Prop} {M c : Nat} {G : Nat → Option (Int × Int)} (hg : op.guard = none) (mp x : Operand) (hop : op.op = Op.lookup 83 mp x false) (hm : a.eval mp = .map (some M)) (hO : OwnT w M c G) {k : Nat} (hk : k < 256) (hx : a.eval x = .int .u8 (k : Int))
    (h : wpListIn F n Try.prog ops Q rest (a.put op.dst (spV ((G k).getD (0, 0)))) w) : wpListIn F n Try.prog ops Q (op :: rest) a w := by
  obtain ⟨D, h1, h2⟩ := hO
  obtain ⟨u, ps, hrun, hv⟩ := h1.lookup keyU8 Try.underlying83 (zeroSp w) (zd := .held (spV (0, 0))) (zp := []) rfl (keyU8_of k hk)
  simp only [rdU, Option.some.injEq, Prod.mk.injEq, (h2 k hk).2, DataW.held.injEq] at hv
  rw [hv.1] at hrun
  refine wpListIn_plain hg fun K hK => ?_
  unfold Oper.wpIn
  refine ⟨by simp [Oper.about, hop], ?_⟩
  rw [Oper.semAt_plain F _ _ (by rw [hop]; intro c hc'; cases hc')]
  simp [execOp, hop, hm, hx, hrun, Result.andThen]
  exact hK _ _ h

theorem ownT_from {β : Type} {B mb c : Nat} {G : Nat → Option (Int × Int)} (hm : mb < B) : OwnFrom (β := β) B (fun _ A => OwnT A mb c G) := fun _ _ _ _ h hg hr => h.block (hg.block _ h.lt (fun e => by have := (hr mb e.symm).1; omega))
theorem blkF_own {β : Type} (j : Nat) (cs : Array Value) (ty : TypeId) : Own (β := β) (fun _ A => A.heap[j]? = some (.cells cs ty (0, 0))) := fun _ _ _ _ hs hg hr => (grownBy_keeps_cells hg hr hs rfl).trans hs
theorem own_btF {W : World} {base : Nat} {e : TypeId} {size n : Nat} {v : Value} {xs : List Value} (h : W.ownsRow base e size v n xs) {b : Nat} (hb : v.ownBlock = some b) : ∃ cur, W.heap[b]? = some (.cells cur e (0, 0)) := by
  rcases h.2 with ⟨rfl, _⟩ | ⟨g, cap, cur, rfl, h2, h3, _⟩
  · cases hb
  · simp only [Value.ownBlock, Option.some.injEq] at hb
    subst hb
    exact ⟨cur, h3⟩
/-- An append and a store of what it gives leave a block of another kind. -/
theorem app_keepsF {W w4 : World} {tmp : Obj} {n₀ k : Nat} {e : TypeId} {size : Nat} {v u : Value} {xs : List Value} (hrow : W.ownsRow n₀ e size v k xs) (hg : (W.alloc tmp).grownBy w4 v.ownBlock) {j B : Nat} {o : Obj}
    (hj : W.heap[j]? = some o) (ht : ∀ cur, o ≠ .cells cur e (0, 0)) (hB : j ≠ B) : (w4.setCell ⟨B, 0, none⟩ u).heap[j]? = some o := by
  have hlt := lt_of_heap hj
  refine (Below.heap_setCell _ _ _ _ (by simpa using hB)).trans ((hg.block j (by simp; omega) (fun e' => ?_)).trans ((Below.heap_alloc _ _ _ (by omega)).trans hj))
  obtain ⟨cur, hc⟩ := own_btF hrow e'.symm
  rw [hj] at hc
  exact ht _ (Option.some.inj hc)
theorem app_keepsT {W w4 : World} {tmp : Obj} {n₀ k : Nat} {e : TypeId} {size : Nat} {v u : Value} {xs : List Value} (hrow : W.ownsRow n₀ e size v k xs) (hg : (W.alloc tmp).grownBy w4 v.ownBlock) {mb c B : Nat} {G : Nat → Option (Int × Int)}
    (hO : OwnT W mb c G) (hB : mb ≠ B) : OwnT (w4.setCell ⟨B, 0, none⟩ u) mb c G := by
  obtain ⟨D, h1, h2⟩ := hO
  obtain ⟨es, clock, hb, h3⟩ := h1
  exact ⟨D, ⟨es, clock, app_keepsF hrow hg hb (fun cur h => by cases h) hB, h3⟩, h2⟩

theorem cell_one_newF (w : World) (x : Value) (t : TypeId) : ∀ j u, [x][j]? = some u → (w.alloc (.cells #[x] t)).cell? ((⟨w.heap.size, 0, none⟩ : Addr).add j) = some u := fun j u hj => by
  rw [Addr.add_mid, Nat.zero_add, cell_of_row _ w.heap.size j _ _ _ (alloc_at0 w _)]
  simpa using hj

def PlayPost (w : World) (f : Fu) (o : Int × Int) (e : Ending) (w' : World) : Prop := ∃ v, e = .returned v ∧ OwnU w' w.heap.size v (fingZ f o (List.range (2 ^ f.hs.length))) ∧ Below w.heap.size w w'

set_option maxRecDepth 100000 in
set_option maxHeartbeats 8000000 in
theorem playing_any (f : Fu) (hok : okFu f = true) (o : Int × Int) (B : Nat) (w : World) (hB : B ≤ w.heap.size) (hz : FuAt w B f) :
    Calls Try.prog 52 #[.agg (fuc f).toArray, .agg #[.int .i64 o.1, .int .i64 o.2]] w (PlayPost w f o) := by
  have hl := (okFu_bnd hok).2.2.2.2.1
  obtain ⟨o0, o1⟩ := o
  dsimp only
  obtain ⟨w4, hw4⟩ : ∃ w4, ((w.alloc (.cells (fuc f).toArray 28)).alloc (.cells #[.int .i64 o0, .int .i64 o1] 25)).alloc (.cells #[.slice none 0 0] 52) = w4 := ⟨_, rfl⟩
  have hb4 : Below w.heap.size w w4 := by rw [← hw4]; exact (((Below.refl _ _).alloc (Nat.le_refl _) _).alloc (by simp) _).alloc (by simp; omega) _
  have m0 : w4.heap[w.heap.size]? = some (.cells (fuc f).toArray 28 (0, 0)) := by rw [← hw4]; exact alloc3_at0 _ _ _ _
  have m1 : w4.heap[w.heap.size + 1]? = some (.cells #[.int .i64 o0, .int .i64 o1] 25 (0, 0)) := by rw [← hw4]; exact alloc3_at1 _ _ _ _
  have m2 : w4.heap[w.heap.size + 1 + 1]? = some (.cells #[.slice none 0 0] 52 (0, 0)) := by rw [← hw4]; exact alloc3_at2 _ _ _ _
  have hs4 : w4.heap.size = w.heap.size + 3 := by rw [← hw4]; simp
  have HAT := Lib.hid (allTones_any f hok B w4 (Nat.le_trans hB hb4.size) (hz.below (hb4.mono hB)))
  have HFI := Lib.hid (fun W => fingerings_any (fuc f) W)
  have H4 := Lib.hid (And.intro hb4 (And.intro m0 (And.intro m1 (And.intro m2 hs4))))
  have hcf := fun (W : World) (hW : Below w4.heap.size w4 W) i => cell_of_row W w.heap.size i _ _ _ ((hW.block _ (lt_of_heap m0)).trans m0)
  clear hb4 m0 m1 m2 hs4 hz hok
  unfold fuc at hw4 HAT HFI hcf ⊢
  have HCF := Lib.hid hcf
  have hc := HCF.out w4 (Below.refl _ _)
  clear hcf
  refine (callsIn_wide (n := 4)).1 ?_
  refine callsIn_of_wp_marks Try.func52 rfl trivial ?_ rfl
  simp only [Try.ntmps52, List.size_toArray, List.length_cons, List.length_nil, Nat.reduceAdd, Nat.reduceSub, Array.replicate_succ, Array.replicate_zero, List.push_toArray, List.append_toArray, List.nil_append, List.cons_append]
  gi_wp2_with (first
    | (refine ⟨trivial, ?_⟩
       gi_at_call 45
       refine (callsIn_wide.2 HAT.out).mono ?_
       rintro e w5 ⟨mb, rfl, hO5, hmb5, hB5⟩
       have hc6 := HCF.out (w5.alloc (.cells #[.map (some mb)] 83)) (hB5.alloc hB5.size _)
       have H5 := Lib.hid (And.intro hO5 (And.intro hmb5 hB5))
       clear hO5 hmb5 hB5 hc)
    | (refine ⟨trivial, ?_⟩
       gi_at_call 72
       refine (callsIn_wide.2 (HFI.out _)).mono ?_
       rintro e w7 ⟨rfl, hw7⟩
       have H7 := Lib.hid hw7
       clear hw7 hc6))
  have hs4 := H4.out.2.2.2.2
  have hs5 := H5.out.2.2.size
  have hsw : w7.heap.size = w5.heap.size + 2 := by rw [H7.out]; simp
  have hg5 : Below w5.heap.size w5 w7 := by rw [H7.out]; exact ((Below.refl _ _).alloc (Nat.le_refl _) _).alloc (by simp) _
  have hbb : w7.heap[w5.heap.size + 1]? = some (.cells (fuc f).toArray 28 (0, 0)) := by rw [H7.out]; exact alloc2_at1 _ _ _
  have hb6 : w7.heap[w5.heap.size]? = some (.cells #[.map (some mb)] 83 (0, 0)) := by rw [H7.out]; exact alloc2_at0 _ _ _
  have hg7 : Below w4.heap.size w4 w7 := H5.out.2.2.trans (hg5.mono H5.out.2.2.size)
  have hO7 := H5.out.1.block (hg5.block _ H5.out.1.lt)
  have hmb := H5.out.1.lt
  have hbox : Boxed w7 (w.heap.size + 1 + 1) 52 (.slice none 0 0) := (hg7.block _ (by omega)).trans H4.out.2.2.2.1
  have hno := (hg7.block (w.heap.size + 1) (by omega)).trans H4.out.2.2.1
  have hseq := fingerings_stops f hl (4 - 1) 0 (w5.heap.size + 1) (by omega) w7 (by omega) hbb
  have hN8 : 2 ^ f.hs.length ≤ 256 := Nat.pow_le_pow_right (n := 2) (by omega) hl
  refine wpIn_rangeFunc_ownF rfl (by omega) (gf := 90) (lb := #[.pointer (some ⟨w5.heap.size + 1, 0, none⟩)]) rfl trivial (enters_of Try.func90 (by kernel_rfl) rfl) hseq
    (fun h k => h.trans k)
    (fun W l o o' hl' _ _ _ => ⟨fun j hj => absurd hj (Nat.not_lt_zero _), World.putObj_heap_other (by omega)⟩) (Below.refl _ _) (fun _ => rfl)
    (fun (pre : List (Fi f.hs.length)) A => (∃ v, Boxed A (w.heap.size + 1 + 1) 52 v ∧ A.ownsRow w.heap.size 5 1 v (fingZ f (o0, o1) (pre.map (·.1))).length (u8s (fingZ f (o0, o1) (pre.map (·.1)))) ∧ True) ∧
      (OwnT A mb (2 ^ f.hs.length) (tabF f (List.range (2 ^ f.hs.length))) ∧ (A.heap[w5.heap.size]? = some (.cells #[.map (some mb)] 83 (0, 0))) ∧ (A.heap[w.heap.size + 1]? = some (.cells #[.int .i64 o0, .int .i64 o1] 25 (0, 0))) ∧
        (A.heap[w5.heap.size + 1]? = some (.cells (fuc f).toArray 28 (0, 0))) ∧ Below w.heap.size w7 A))
    (fun _ _ _ => False)
    (OwnFrom.and (Own.from (holdsRow_own w.heap.size (w.heap.size + 1 + 1) 52 5 1 _ _ (fun _ _ => True)) _) (OwnFrom.and (ownT_from (by omega)) (OwnFrom.and (Own.from (blkF_own _ _ _) _) (OwnFrom.and (Own.from (blkF_own _ _ _) _) (OwnFrom.and (Own.from (blkF_own _ _ _) _) (ownFrom_below (by omega) (by omega)))))))
    (fun _ _ _ _ _ hs _ _ => hs)
    ⟨⟨_, hbox, World.ownsRow_nil _ _ _ _, trivial⟩, hO7, hb6, hno, hbb, Below.refl _ _⟩
    (fun p => { tmps := #[.agg #[.int .i64 f.len, .int .i64 f.e0, .int .i64 f.e1, .int .i64 f.c0, .int .i64 f.c1, .int .i64 f.s0, .int .i64 f.s1, .slice f.A f.hs.length f.cap], .agg #[.int .i64 o0, .int .i64 o1], .pointer (some ⟨w.heap.size, 0, none⟩), .pointer (some ⟨w.heap.size + 1, 0, none⟩), .slice none 0 0, .pointer (some ⟨w.heap.size + 1 + 1, 0, none⟩), .pointer (some ⟨w5.heap.size, 0, none⟩), .int .u8 (p.1 : Int),
      .agg #[.int .i64 f.len, .int .i64 f.e0, .int .i64 f.e1, .int .i64 f.c0, .int .i64 f.c1, .int .i64 f.s0, .int .i64 f.s1, .slice f.A f.hs.length f.cap], .map (some mb), .agg #[.int .i64 f.len, .int .i64 f.e0, .int .i64 f.e1, .int .i64 f.c0, .int .i64 f.c1, .int .i64 f.s0, .int .i64 f.s1, .slice f.A f.hs.length f.cap], .func (.func 90) #[] #[.pointer (some ⟨w5.heap.size + 1, 0, none⟩)], .int .u8 (p.1 : Int), undef, undef, undef, undef, undef, undef, undef, undef, undef, undef], defers := [] }) ?assign ?body ?done ?stop
  case assign =>
    intro l' p W K hK
    have hKK := Lib.hid hK
    clear hK
    simp only [encF]
    clear hs4 hs5 hsw hg5 hbb hb6 hg7 hO7 hmb hbox hno hseq hN8 hw4
    gi_wp2_with fail
    exact hKK.out
  case body =>
    rintro l' pre p W ⟨⟨v, hv, hrow, -⟩, hO, hi6, hi3, hib, hbe⟩ hlt'
    have hp8 : p.1 < 256 := Nat.lt_of_lt_of_le p.2 (Nat.pow_le_pow_right (n := 2) (by omega) hl)
    have hsn := fingZ_snoc f (o0, o1) (pre.map (·.1)) p.1
    have hln := fingZ_len f (o0, o1) (pre.map (·.1))
    rw [List.length_map] at hln
    have htab : (tabF f (List.range (2 ^ f.hs.length)) p.1).getD (0, 0) = tonF f p.1 := by simp [tabF, List.mem_range.2 p.2]
    have hpm : (pre ++ [p]).map (·.1) = pre.map (·.1) ++ [p.1] := by simp
    generalize fingZ f (o0, o1) (pre.map (·.1)) = M at hrow hsn hln
    have hM8 : M.length ≤ 256 := by omega
    have HIN := Lib.hid (fun W => inside_any o0 o1 (tonF f p.1).1 (tonF f p.1).2 W)
    have HT := Lib.hid htab
    have HPM := Lib.hid hpm
    have hvc := hv.cell
    have hc6 := cell_of_row W w5.heap.size 0 _ _ _ hi6
    have hc3 := fun i => cell_of_row W (w.heap.size + 1) i _ _ _ hi3
    have hsW := hbe.size
    have hneq : w.heap.size + 1 + 1 ≠ mb ∧ w.heap.size + 3 ≤ w5.heap.size ∧ w.heap.size + 1 + 1 < W.heap.size ∧ w5.heap.size + 1 < W.heap.size ∧ w.heap.size + 3 ≤ mb := by have := H5.out.2.1; omega
    have HI := Lib.hid (And.intro hv (And.intro hrow (And.intro hO (And.intro hi6 (And.intro hi3 (And.intro hib (And.intro hbe hneq)))))))
    have HP8 := Lib.hid hp8
    have HSN := Lib.hid hsn
    clear hv hrow hO hi6 hi3 hib hbe hneq hs4 hs5 hsw hg5 hbb hb6 hg7 hO7 hmb hbox hno hseq hN8 hw4 hp8 hsn hln htab hpm hsW hlt'
    cases hin : insB (o0, o1) (tonF f p.1)
    · have HN := Lib.hid hin
      clear hin
      gi_wp2_with (first
        | (show wpListIn _ _ _ _ _ (Oper.mk (some 16) _ _ _ _ _ :: _) _ _
           refine wpListIn_lookU rfl (.tmp 14) (.tmp 15) rfl rfl HI.out.2.2.1 HP8.out rfl ?_
           rw [HT.out]
           unfold spV)
        | (refine ⟨trivial, ?_⟩
           gi_at_call 78
           refine ((callsIn_wide.2 (HIN.out W)).inRound l').mono ?_
           rintro e w8 ⟨rfl, hB8⟩
           rw [HN.out]
           have H8 := Lib.hid hB8
           clear hB8))
      have hb8 := H8.out
      rw [HN.out, if_neg (by simp), List.append_nil] at HSN
      have hk8 := fun k (hk : k < W.heap.size) => hb8.block k hk
      refine ⟨⟨hb8.size, fun k o hk _ => (hb8.block k (lt_of_heap hk)).trans hk⟩, ⟨fun j hj => absurd hj (Nat.not_lt_zero _), hk8 _ (lt_of_heap HI.out.2.2.2.2.2.1)⟩, ⟨v, (hk8 _ (lt_of_heap HI.out.1)).trans HI.out.1, ?_, trivial⟩,
        HI.out.2.2.1.block (hk8 _ HI.out.2.2.1.lt), (hk8 _ (lt_of_heap HI.out.2.2.2.1)).trans HI.out.2.2.2.1, (hk8 _ (lt_of_heap HI.out.2.2.2.2.1)).trans HI.out.2.2.2.2.1, (hk8 _ (lt_of_heap HI.out.2.2.2.2.2.1)).trans HI.out.2.2.2.2.2.1, HI.out.2.2.2.2.2.2.1.trans (hb8.mono (by have := HI.out.2.2.2.2.2.2.2.2.2.1; omega))⟩
      rw [HPM.out, HSN.out]
      exact own_grows HI.out.2.1 hb8
    · have HN := Lib.hid hin
      clear hin
      obtain ⟨i0, hi, hz0, hz1, hz2⟩ := info_parts infoU8
      have HF := Lib.hid (And.intro hi (And.intro hz0 (And.intro hz1 hz2)))
      clear hi hz0 hz1 hz2
      gi_wp2_with (first
        | (show wpListIn _ _ _ _ _ (Oper.mk (some 16) _ _ _ _ _ :: _) _ _
           refine wpListIn_lookU rfl (.tmp 14) (.tmp 15) rfl rfl HI.out.2.2.1 HP8.out rfl ?_
           rw [HT.out]
           unfold spV)
        | (refine ⟨trivial, ?_⟩
           gi_at_call 78
           refine ((callsIn_wide.2 (HIN.out W)).inRound l').mono ?_
           rintro e w8 ⟨rfl, hB8⟩
           rw [HN.out]
           have hv8 : Boxed w8 (w.heap.size + 1 + 1) 52 v := (hB8.block _ (lt_of_heap HI.out.1)).trans HI.out.1
           have hvc8 := hv8.cell
           have hs8 := hB8.size
           have hww : w.heap.size ≤ w8.heap.size := by have := HI.out.2.2.2.2.2.2.2.2.2.1; omega
           have H8 := Lib.hid (And.intro hB8 (And.intro hv8 (own_grows HI.out.2.1 hB8)))
           clear hB8 hv8 hvc)
        | (gi_at_builtin
           refine wpListIn_append_own _ rfl (.tmp 18) (.tmp 20) 52 rfl w.heap.size 5 i0 _ 1 1 Try.underlying52 HF.out.1 HF.out.2.1 HF.out.2.2.1 HF.out.2.2.2 rfl (by decide) v M.length (u8s M) rfl (H8.out.2.2.alloc _)
             ⟨w8.heap.size, 0, none⟩ 1 1 [.int .u8 (p.1 : Int)] rfl rfl (cell_one_newF _ _ _) (by simp [Value.oneCell']) (by simp only [maxLen]; omega) (by omega) (by simp; omega) ?_
           intro v2 w9 hown' hgrow _
           obtain ⟨g', cap', rfl⟩ := ownsRow_succ hown'
           obtain ⟨hv1, hv2, hr2, hk2, hb2⟩ := H8.out.2.1.appended (n₀ := w.heap.size) (by decide) H8.out.2.2 hww (by omega) hown' hgrow
           have hc1 := hv1.cell
           have hf1 := hv1.frozen
           have H9 := Lib.hid (And.intro hv2 (And.intro hr2 (And.intro hk2 (And.intro hb2 hgrow))))
           clear hv1 hv2 hr2 hk2 hb2 hown' hgrow))
      have hb8 := H8.out.1
      rw [HN.out, if_pos rfl] at HSN
      have hk8 := fun k (hk : k < W.heap.size) => hb8.block k hk
      obtain ⟨n1, n2, n3, n4, n5⟩ := HI.out.2.2.2.2.2.2.2
      have k6 := app_keepsF H8.out.2.2 H9.out.2.2.2.2 ((hk8 _ (lt_of_heap HI.out.2.2.2.1)).trans HI.out.2.2.2.1) (fun cur h => by simp at h) (B := w.heap.size + 1 + 1) (u := .slice (some ⟨g', 0, none⟩) (M.length + 1) cap') (by omega)
      have k3 := app_keepsF H8.out.2.2 H9.out.2.2.2.2 ((hk8 _ (lt_of_heap HI.out.2.2.2.2.1)).trans HI.out.2.2.2.2.1) (fun cur h => by simp at h) (B := w.heap.size + 1 + 1) (u := .slice (some ⟨g', 0, none⟩) (M.length + 1) cap') (by omega)
      have kb := app_keepsF H8.out.2.2 H9.out.2.2.2.2 ((hk8 _ (lt_of_heap HI.out.2.2.2.2.2.1)).trans HI.out.2.2.2.2.2.1) (fun cur h => by simp [fuc] at h) (B := w.heap.size + 1 + 1) (u := .slice (some ⟨g', 0, none⟩) (M.length + 1) cap') (by omega)
      have kO := app_keepsT H8.out.2.2 H9.out.2.2.2.2 (HI.out.2.2.1.block (hk8 _ HI.out.2.2.1.lt)) (B := w.heap.size + 1 + 1) (u := .slice (some ⟨g', 0, none⟩) (M.length + 1) cap') (by omega)
      refine ⟨KeepsOthers.trans ⟨hb8.size, fun k o hk _ => (hb8.block k (lt_of_heap hk)).trans hk⟩ H9.out.2.2.1, ⟨fun j hj => absurd hj (Nat.not_lt_zero _), kb.trans HI.out.2.2.2.2.2.1.symm⟩, ⟨_, H9.out.1, ?_, trivial⟩,
        kO, k6, k3, kb, HI.out.2.2.2.2.2.2.1.trans ((hb8.mono (by omega)).trans H9.out.2.2.2.1)⟩
      rw [HPM.out, HSN.out, List.length_append]
      have e2 : u8s (M ++ [(p.1 : Int)]) = u8s M ++ [.int .u8 (p.1 : Int)] := by simp [u8s]
      rw [e2]
      exact H9.out.2.1
  case done =>
    rintro D xs W hD hxs ⟨⟨v, hv, hrow, -⟩, hO, hi6, hi3, hib, hbe⟩ hDd
    have hvc := hv.cell
    rw [hxs] at hrow
    have hvD : W.heap[D]? = some (.deferred (some [])) := hDd
    have HH := Lib.hid (And.intro hrow (And.intro (H4.out.1.trans ((hg7.mono (by omega)).trans hbe)) (And.intro hDd (show w.heap.size ≤ D by omega))))
    clear hs4 hs5 hsw hg5 hbb hb6 hg7 hO7 hmb hbox hno hseq hN8 hw4 hrow hO hi6 hi3 hib hbe hDd hvD hxs
    gi_wp2_with fail
    refine ⟨by simp, .inl ⟨_, _, rfl, run_takeDeferred HH.out.2.2.1, ?_⟩⟩
    refine ⟨v, by simp [results, Try.results52, go_sem], v, rfl, ownsRow_putObj HH.out.1 (.deferred none) HH.out.2.2.1 rfl, below_putObj HH.out.2.1 (r := D) HH.out.2.2.2 (.deferred none)⟩
  case stop =>
    rintro D c' pre W _ _ h _
    exact h.elim

end Go.Proofs.Ytjjipkgconmfcaa
