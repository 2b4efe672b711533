import Derived.Test.YtnjgibbfcigbfaaGreatQF48
import Derived.Test.YtnjgibbfcigbfaaGreatQF11
import Derived.Test.YtnjgibbfcigbfaaGreatQF31
import Derived.Test.YtnjgibbfcigbfaaGreatQF20
import Derived.Test.YtnjgibbfcigbfaaGreatQF50
import Derived.Test.YtnjgibbfcigbfaaGreatQF49
import Derived.Test.YtnjgibbfcigbfaaGreatQF39
import Derived.Lib.MinMax
import Derived.BigGuardPart
import Derived.IntWalk
import Derived.Test.YtnjgibbfcigbfaaGreatQF35
import Derived.Test.YtnjgibbfcigbfaaGreatQF26
set_option linter.all false
set_option maxRecDepth 100000
set_option maxHeartbeats 64000000
namespace Go.Proofs.YtnjgibbfcigbfaaGreat
open Go.RowKit
theorem zHy (l : List Sk) (A : Option Addr) (cap : Nat) (B : Nat) (w : World) (hB : B ≤ w.heap.size) (hz : SksAt w B l A) (hl : l.length ≤ 1000000) :
 Calls Tryz.prog 39 #[.slice A l.length cap] w fun e w' => e = .returned (.bool (okSks l)) ∧ Grows w w' := by
 unfold okSks
 by_cases h6 : 6 < l.length
 · have h6z : (l.length : Int) > 6 := by omega
   have hd : decide ((l.length : Int) ≤ 6) = false := by simp; omega
   rw [hd]; clear hd hz
   go_enter Tryz.func39, Tryz.ntmps39
   go_wp2; go_ret
   exact ⟨rfl, Below.refl _ _⟩
 have h6z : ¬ (l.length : Int) > 6 := by omega
 have hd : decide ((l.length : Int) ≤ 6) = true := by simp; omega
 rw [hd]; have HZ := zzh hz; have HBB := zzh hB; clear hd hz hB
 go_enter Tryz.func39, Tryz.ntmps39
 go_wp2
 go_loopg [3] l.length (fun gg s3 wx => ∃ k : Nat, k + gg = l.length ∧ s3 = .int .i64 k ∧ Hid ((l.drop k).all okSk = l.all okSk) ∧ Hid (Grows w wx))
 case atStart => exact ⟨0, by omega, rfl, rfl, zzh (Below.refl _ _)⟩
 case round =>
  obtain ⟨k, hkg, rfl, hI, HW⟩ := hrel; cases gk with
  | zero =>
    have hI' := hI.out; obtain rfl : k = l.length := by omega
    rw [List.drop_length] at hI'; have HI := zzh hI'; clear hI'; go_wp2; go_ret
    exact ⟨by rw [← HI.out]; rfl, HW.out⟩
  | succ gg =>
    have hk : k < l.length := by omega
    have hkz : (k : Int) < l.length := by omega
    obtain ⟨c, off, hA, hcB, hc⟩ := zAw zB2 HZ.out.v (by decide) hk
    subst hA; have hst : (l.drop k).all okSk = (okSk l[k] && (l.drop (k + 1)).all okSk) := by rw [List.drop_eq_getElem_cons hk]; rfl
    rw [hI.out] at hst; have hc' : ∀ i v, (skl l[k])[i]? = some v → wr.cell? ⟨c, off + k * 7 + i, none⟩ = some v := fun i v hv => (HW.out.cell (p := ⟨c, off + k * 7 + i, none⟩) (by have := HBB.out; simp; omega)).trans (hc i v hv)
    have hrw := (HZ.out.r _ (List.getElem_mem hk)).below (HW.out.mono HBB.out); have hsh := HZ.out.s _ (List.getElem_mem hk); generalize l[k] = y at hc' hst hrw hsh; have hcy : wr.cell? ⟨c, off + k * 7 + 6, none⟩ = some (.int .i64 y.h) := hc' 6 _ rfl
    have hcb : ∀ i v, (skb y)[i]? = some v → wr.cell? ⟨c, off + k * 7 + i, none⟩ = some v := fun i v hv => hc' i v (by
     have hj : i < 6 := (List.getElem?_eq_some_iff.1 hv).1; rcases (by omega : i = 0 ∨ i = 1 ∨ i = 2 ∨ i = 3 ∨ i = 4 ∨ i = 5) with rfl | rfl | rfl | rfl | rfl | rfl <;> exact hv)
    have hck := zLn y.t y.A y.c y.l B wr (Nat.le_trans HBB.out HW.out.size) hrw (fun s hs => Nat.le_trans (hsh.2 s hs) (by decide))
    rw [show okSk y = (zA6 y.t (rws y.l) && allB 0 300 [y.h]) from rfl] at hst
    unfold checkE at hck; have HCB := zzh hcb; have HST := zzh hst; have HCY := zzh hcy; clear hc hst hc' hrw hsh hcb hcy; cases hok : zA6 y.t (rws y.l)
    · rw [hok] at hck; have HCK := zzh hck; have HOK := zzh hok; clear hck hok
      go_wp2_with (first
       | (refine zAf 63 (.tmp 16) rfl rfl rfl (cs := skb y) HCB.out zBz ?_)
       | (go_at_call 66; refine HCK.out.mono ?_; rintro e w2 ⟨rfl, hB2⟩; have HW2 := zzh (HW.out.trans (hB2.mono HW.out.size)); clear hB2))
      go_ret
      exact ⟨by rw [HST.out, HOK.out]; rfl, HW2.out⟩
    · rw [hok] at hck; have HCK := zzh hck; have HOK := zzh hok; clear hck hok; have hin : allB 0 300 [y.h] = inR y.h 0 300 := by simp [allB]
      rw [hin] at HST; generalize y.h = h at HCY HST; cases hi : inR h 0 300
      all_goals
       have HIN := zzh hi; clear hi hin
       go_wp2_with (first
        | (refine zAf 63 (.tmp 16) rfl rfl rfl (cs := skb y) HCB.out zBz ?_)
        | (go_at_call 67; refine (zA2 h 0 300 w2).mono ?_; rintro e w3 ⟨rfl, rfl⟩; rw [HIN.out])
        | (go_at_call 66; refine HCK.out.mono ?_; rintro e w2 ⟨rfl, hB2⟩; have HW2 := zzh (HW.out.trans (hB2.mono HW.out.size)); have hcy2 : w2.cell? ⟨c, off + k * 7 + 6, none⟩ = some (.int .i64 h) := (hB2.cell (p := ⟨c, off + k * 7 + 6, none⟩) (by have := HBB.out; have := HW.out.size; simp; omega)).trans HCY.out
           clear hB2))
      · go_ret
        exact ⟨by rw [HST.out, HOK.out, HIN.out]; rfl, HW2.out⟩
      · go_roundg gg
        case measure => omega
        case rel => exact ⟨k + 1, by omega, by go_num, zzh (by rw [HST.out, HOK.out, HIN.out]; rfl), HW2⟩
def zDw (gv : List Gv) (l : List Sk) : Bool := decide (8 < gv.length) || (decide (8 < l.length) || (gv.any (fun y => zDv y.g) || l.any (fun x => greatB x.l)))
theorem zOb {α : Type} (P : α → Bool) (l : List α) (k : Nat) (hk : k < l.length) : (l.drop k).any P = (P l[k] || (l.drop (k + 1)).any P) := by rw [List.drop_eq_getElem_cons hk]; rfl
structure SksBig (w : World) (B : Nat) (l : List Sk) (A : Option Addr) : Prop where
 v : Vals w B A (l.flatMap skl)
 r : ∀ x ∈ l, Rows w B x.A x.l
 s : ∀ x ∈ l, x.l.length ≤ 9223372036854775807
theorem SksBig.below {w w' : World} {B : Nat} {l : List Sk} {A : Option Addr} (h : SksBig w B l A) (hb : Below B w w') : SksBig w' B l A := ⟨h.v.below hb, fun x hx => (h.r x hx).below hb, h.s⟩
theorem SksBig.small {w : World} {B : Nat} {l : List Sk} {A : Option Addr} {gv : List Gv} (h : SksBig w B l A) (hg : zDw gv l = false) : SksAt w B l A ∧ l.length ≤ 8 := by
 simp only [zDw, Bool.or_eq_false_iff, decide_eq_false_iff_not, List.any_eq_false] at hg; obtain ⟨-, h8, -, hx⟩ := hg; refine ⟨⟨h.v, h.r, fun x hm => ?_⟩, by omega⟩
 have h1 := hx x hm; simp only [greatB, Bool.or_eq_true, decide_eq_true_eq, List.any_eq_true, not_or, not_exists, not_and] at h1; exact ⟨by omega, fun s hs => by have := h1.2 s hs; omega⟩
theorem zD2 (gv : List Gv) (l : List Sk) (A1 : Option Addr) (c1 : Nat) (A : Option Addr) (cap : Nat) (B : Nat) (w : World) (hB : B ≤ w.heap.size) (hg : GvsAt w B gv A1) (hgl : gv.length ≤ 9223372036854775807) (hz : SksBig w B l A) (hl : l.length ≤ 9223372036854775807) :
 Calls Tryz.prog 12 #[.slice A1 gv.length c1, .slice A l.length cap] w fun e w' => e = .returned (.bool (zDw gv l)) ∧ Grows w w' := by
 unfold zDw
 by_cases h8 : 8 < gv.length
 · have h8z : (gv.length : Int) > 8 := by omega
   have hd : decide (8 < gv.length) = true := by simp; omega
   rw [hd]; clear hd hz hg
   go_enter Tryz.func12, Tryz.ntmps12
   go_wp2; go_ret
   exact ⟨rfl, Below.refl _ _⟩
 have h8z : decide ((gv.length : Int) > 8) = false := by simp; omega
 have hd : decide (8 < gv.length) = false := by simp; omega
 rw [hd]; clear hd
 by_cases h9 : 8 < l.length
 · have h9z : (l.length : Int) > 8 := by omega
   have hd : decide (8 < l.length) = true := by simp; omega
   rw [hd]; clear hd hz hg
   go_enter Tryz.func12, Tryz.ntmps12
   go_wp2; go_ret
   exact ⟨rfl, Below.refl _ _⟩
 have h9z : decide ((l.length : Int) > 8) = false := by simp; omega
 have hd : decide (8 < l.length) = false := by simp; omega
 rw [hd]; obtain ⟨P, hP⟩ : ∃ P : Gv → Bool, P = fun y => zDv y.g := ⟨_, rfl⟩
 obtain ⟨Q, hQ⟩ : ∃ Q : Sk → Bool, Q = fun x => greatB x.l := ⟨_, rfl⟩
 rw [← hP, ← hQ]; have HZ := zzh hz; have HG := zzh hg; have HBB := zzh hB; have HPQ := zz2 hP hQ; clear hd hz hB hg hP hQ
 go_enter Tryz.func12, Tryz.ntmps12
 go_wp2; clear h8z h9z
 go_loopg [5] gv.length (fun gg s5 wx => ∃ k : Nat, k + gg = gv.length ∧ s5 = .int .i64 k ∧ Hid ((gv.drop k).any P = gv.any P) ∧ Hid (Grows w wx))
 case atStart => exact ⟨0, by omega, rfl, rfl, zzh (Below.refl _ _)⟩
 case round =>
  obtain ⟨k, hkg, rfl, hI, HW⟩ := hrel; cases gk with
  | zero =>
    have hI' := hI.out; obtain rfl : k = gv.length := by omega
    rw [List.drop_length] at hI'; have HI := zzh hI'; clear hI' hI; go_wp2
    go_loopg [6] l.length (fun gh s6 wx => ∃ j : Nat, j + gh = l.length ∧ s6 = .int .i64 j ∧ Hid ((l.drop j).any Q = l.any Q) ∧ Hid (Grows w wx))
    case atStart => exact ⟨0, by omega, rfl, rfl, HW⟩
    case round =>
     obtain ⟨j, hjg, rfl, hJ, HV⟩ := hrel; cases gk with
     | zero =>
       have hJ' := hJ.out; obtain rfl : j = l.length := by omega
       rw [List.drop_length] at hJ'; have HJ := zzh hJ'; clear hJ' hJ; go_wp2; go_ret
       exact ⟨by rw [← HI.out, ← HJ.out]; rfl, HV.out⟩
     | succ gh =>
       have hj : j < l.length := by omega
       have hjz : (j : Int) < l.length := by omega
       obtain ⟨c, off, hA, hcB, hc⟩ := zAw zB2 HZ.out.v (by decide) hj
       subst hA; have hst := zOb Q l j hj; rw [hJ.out] at hst; have hc' : ∀ i v, (skl l[j])[i]? = some v → wr.cell? ⟨c, off + j * 7 + i, none⟩ = some v := fun i v hv => (HV.out.cell (p := ⟨c, off + j * 7 + i, none⟩) (by have := HBB.out; simp; omega)).trans (hc i v hv)
       have hrw := (HZ.out.r _ (List.getElem_mem hj)).below (HV.out.mono HBB.out); have hsh := HZ.out.s _ (List.getElem_mem hj); have hqq := congrFun HPQ.out.2 l[j]; generalize l[j] = y at hc' hst hrw hsh hqq
       have hcb : ∀ i v, (skb y)[i]? = some v → wr.cell? ⟨c, off + j * 7 + i, none⟩ = some v := fun i v hv => hc' i v (by
        have hj : i < 6 := (List.getElem?_eq_some_iff.1 hv).1; rcases (by omega : i = 0 ∨ i = 1 ∨ i = 2 ∨ i = 3 ∨ i = 4 ∨ i = 5) with rfl | rfl | rfl | rfl | rfl | rfl <;> exact hv)
       have hgr := zRz y.t y.A y.c y.l B wr (Nat.le_trans HBB.out HV.out.size) hrw hsh; rw [← hqq] at hgr; have HCB := zzh hcb; have HST := zzh hst; clear hc hst hc' hrw hsh hcb hqq; cases hq : Q y
       all_goals
        rw [hq] at hgr; have HGR := zzh hgr; have HQY := zzh hq; clear hgr hq
        go_wp2_with (first
         | (refine zAf 63 (.tmp 35) rfl rfl rfl (cs := skb y) HCB.out zBz ?_)
         | (go_at_call 43; refine HGR.out.mono ?_; rintro e w2 ⟨rfl, hB2⟩; have HW2 := zzh (HV.out.trans (hB2.mono HV.out.size)); clear hB2))
       · go_roundg gh
         case measure => omega
         case rel => exact ⟨j + 1, by omega, by go_num, zzh (by rw [HST.out, HQY.out]; rfl), HW2⟩
       · go_ret
         exact ⟨by rw [← HI.out, HST.out, HQY.out]; rfl, HW2.out⟩
  | succ gg =>
    have hk : k < gv.length := by omega
    have hkz : (k : Int) < gv.length := by omega
    obtain ⟨c, off, hA, hcB, hc⟩ := zAw zKg HG.out.v (by decide) hk
    subst hA; have hst := zOb P gv k hk; rw [hI.out] at hst; have hc' : ∀ i v, (gvl gv[k])[i]? = some v → wr.cell? ⟨c, off + k * 10 + i, none⟩ = some v := fun i v hv => (HW.out.cell (p := ⟨c, off + k * 10 + i, none⟩) (by have := HBB.out; simp; omega)).trans (hc i v hv)
    have hqq := congrFun HPQ.out.1 gv[k]; generalize gv[k] = y at hc' hst hqq; have hgr := zIw y.g y.A1 y.c1 y.A2 y.c2 wr; rw [← hqq] at hgr; have HCB := zzh hc'; have HST := zzh hst; clear hc hst hc' hqq; cases hq : P y
    all_goals
     rw [hq] at hgr; have HGR := zzh hgr; have HQY := zzh hq; clear hgr hq
     go_wp2_with (first
      | (refine zAf 74 (.tmp 23) rfl rfl rfl (cs := gvl y) HCB.out zBb ?_)
      | (go_at_call 42; refine HGR.out.mono ?_; rintro e w2 ⟨rfl, hB2⟩; have HW2 := zzh (HW.out.trans (hB2.mono HW.out.size)); clear hB2))
    · go_roundg gg
      case measure => omega
      case rel => exact ⟨k + 1, by omega, by go_num, zzh (by rw [HST.out, HQY.out]; rfl), HW2⟩
    · go_ret
      exact ⟨by rw [HST.out, HQY.out]; simp, HW2.out⟩
theorem zD3 (gv : List Gv) (l : List Sk) (A1 : Option Addr) (c1 : Nat) (A : Option Addr) (cap : Nat) (B : Nat) (w : World) (hB : B ≤ w.heap.size) (hg : GvsAt w B gv A1) (hgl : gv.length ≤ 1000000) (hz : SksAt w B l A) (hl : l.length ≤ 1000000) :
 Calls Tryz.prog 12 #[.slice A1 gv.length c1, .slice A l.length cap] w fun e w' => e = .returned (.bool (zDw gv l)) ∧ Grows w w' :=
 zD2 gv l A1 c1 A cap B w hB hg (by omega) ⟨hz.v, hz.r, fun x hx => by have := (hz.s x hx).1; omega⟩ (by omega)
def hourSk (x : Sk) (h : Int) : Sk := ⟨x.t, x.l, x.A, x.c, h⟩
theorem zM8 {t : Bt} {ws : List (List Int)} {h : Nat} {s : Int} {p : Nat} (hh : h ≤ 300) : inS t ws h s p = true ↔ ∃ j, whenS t ws s p = some j ∧ j ≤ h := zR0 hh
theorem zPz {P Q : Int → Bool} {lo : Int} (n : Nat) (h : ∀ i : Nat, i < n → P (lo + i) = true → Q (lo + i) = true) : codeK n (cntS P lo n) ≤ codeK n (cntS Q lo n) := by
 have hQ := zR1 n (cntS Q lo n)
 by_cases h0 : cntS P lo n = 0
 · rw [show codeK n (cntS P lo n) = 0 by simp [codeK, h0]]
   exact hQ.1
 · have hq0 : cntS Q lo n ≠ 0 := fun hz => h0 ((zFk n).2 fun i hi => by
    have := (zFk n).1 hz i hi; cases hp : P (lo + i)
    · rfl
    · rw [h i hi hp] at this; cases this)
   by_cases hn : cntS P lo n = n
   · have hqn : cntS Q lo n = n := (zEb n).2 fun i hi => h i hi ((zEb n).1 hn i hi)
     rw [hn, hqn]; exact Int.le_refl _
   · rw [show codeK n (cntS P lo n) = 1 by simp [codeK, h0, hn]]
     unfold codeK; rw [if_neg hq0]
     split <;> omega
theorem zFm {t : Bt} {ws : List (List Int)} {h p : Nat} (hp : p < ws.length) : (knownL t ws h)[p]?.getD 0 = codeK (spN t) (cntS (fun s => inS t ws h s p) t.lo (spN t)) := by simp [knownL, hp]
theorem zEc {t : Bt} {ws : List (List Int)} {h p : Nat} (hp : ¬ p < ws.length) : (knownL t ws h)[p]?.getD 0 = 0 := by
 rw [List.getElem?_eq_none (by rw [zJc]; omega)]; rfl
theorem zR9 {t : Bt} {ws : List (List Int)} {x y p : Nat} (hxy : x ≤ y) (hy : y ≤ 300) : (knownL t ws x)[p]?.getD 0 ≤ (knownL t ws y)[p]?.getD 0 := by
 by_cases hp : p < ws.length
 · rw [zFm hp, zFm hp]; refine zPz _ fun i hi h1 => ?_
   obtain ⟨j, hj, hk⟩ := (zM8 (by omega)).1 h1
   exact (zM8 hy).2 ⟨j, hj, by omega⟩
 · rw [zEc hp, zEc hp]; exact Int.le_refl _
theorem zSa {t : Bt} {ws : List (List Int)} {h p : Nat} (h0 : 0 < spN t) (h2 : (knownL t ws h)[p]?.getD 0 = 2) : p < ws.length ∧ ∀ i : Nat, i < spN t → inS t ws h (t.lo + i) p = true := by
 by_cases hp : p < ws.length
 · rw [zFm hp] at h2; refine ⟨hp, (zEb (P := fun s => inS t ws h s p) _).1 ?_⟩
   unfold codeK at h2
   split at h2
   · cases h2
   · split at h2
     · assumption
     · cases h2
 · rw [zEc hp] at h2; cases h2
theorem zHz {t : Bt} {ws : List (List Int)} {h : Int} (hb : zA6 t ws = true) (hh : allB 0 300 [h] = true) : treatL t ws h = knownL t ws h.toNat := by
 unfold treatL treatE; rw [if_pos hb, if_pos hh, if_pos rfl]
theorem zSb (t : Bt) (ws : List (List Int)) : ∀ n i p k : Nat, i < n → p < ws.length → whenS t ws (t.lo + i) p = some k → k ≤ maxS t ws n
 | 0, i, _, _, h, _, _ => by omega
 | n + 1, i, p, k, h, hp, hk => by
   show k ≤ mxF (whenS t ws (t.lo + n)) ws.length (maxS t ws n)
   by_cases e : i = n
   · subst e; exact zR3 _ _ _ p k hp hk
   · have := zSb t ws n i p k (by omega) hp hk
     have := zR2 (whenS t ws (t.lo + n)) ws.length (maxS t ws n); omega
theorem zSc {t : Bt} {ws : List (List Int)} (hE : readyE t ws = 0) (h0 : 0 < spN t) {p : Nat} (hp : p < ws.length) : (knownL t ws (readyV t ws))[p]?.getD 0 = 2 ∧ readyV t ws ≤ 300 ∧ zA6 t ws = true := by
 have hV : readyV t ws = maxS t ws (spN t) := by simp [readyV, hE]
 have hM := zHu t ws (spN t); unfold readyE at hE
 split at hE
 · rename_i hb
   split at hE
   · rename_i ha
     refine ⟨?_, by omega, hb⟩
     rw [zFm hp, hV]
     have hall : cntS (fun s => inS t ws (maxS t ws (spN t)) s p) t.lo (spN t) = spN t := (zEb (P := fun s => inS t ws (maxS t ws (spN t)) s p) _).2 fun i hi => by
      simp only [allN, List.all_eq_true, List.mem_range] at ha; have h1 := allS_iff.1 (ha i hi) p hp; obtain ⟨k, hk⟩ := Option.isSome_iff_exists.1 h1; exact (zM8 hM).2 ⟨k, hk, zSb t ws _ i p k hi hp hk⟩
     rw [hall]; unfold codeK; rw [if_neg (by omega), if_pos rfl]
   · cases hE
 · cases hE
theorem fitP_up {l l' : List Sk} (hlen : l'.length = l.length) (hs : ∀ k (h : k < l.length) (h' : k < l'.length), l'[k].t = l[k].t ∧ rws l'[k].l = rws l[k].l ∧ l[k].h ≤ l'[k].h) (hok : okSks l = true) (hok' : okSks l' = true) (p : Pol) : fitP l p ≤ fitP l' p := by
 unfold fitP
 by_cases hk : p.soak.toNat < l.length
 · have hk' : p.soak.toNat < l'.length := by omega
   rw [if_pos hk, if_pos hk', zFx hk, zFx hk']; obtain ⟨e1, e2, e3⟩ := hs _ hk hk'; simp only [okSks, Bool.and_eq_true, List.all_eq_true] at hok hok'; have h1 := hok.2 _ (List.getElem_mem hk); have h2 := hok'.2 _ (List.getElem_mem hk'); simp only [okSk, Bool.and_eq_true] at h1 h2; rw [zHz h1.1 h1.2, zHz h2.1 h2.2, e1, e2]; have h3 := h2.2; have h4 := h1.2; simp only [allB, List.all_cons, List.all_nil, Bool.and_true, inR_iff] at h3 h4; exact zR9 (by omega) (by omega)
 · rw [if_neg hk, if_neg (by omega)]
   exact Int.le_refl _
def fitAsk (gs : List Gd) (vary : Int) (ps : List Pol) (ts : List Ts) (l : List Sk) : Bool := rdyS gs vary ps ts && (!zDw [] l && (okSks l && decide (0 < l.length)))
theorem zKf (ps : List Pol) (ts : List Ts) (gs : List Gd) (vary : Int) (l : List Sk) (x y : Int) (AP : Option Addr) (cp : Nat) (AT : Option Addr) (ct : Nat) (AG : Option Addr) (cg : Nat) (AL : Option Addr) (cl : Nat) (B : Nat) (w : World) (hB : B ≤ w.heap.size)
 (hz1 : Vals w B AP (ps.flatMap pcl)) (hz2 : Vals w B AT (ts.flatMap tcl)) (hz3 : Vals w B AG (gs.flatMap gcl)) (hz4 : SksAt w B l AL) (hl : l.length ≤ 1000000) (hrv : rdyS gs vary ps ts = true) (hgv : zDw [] l = false) (hask : fitAsk gs vary ps ts l = false) :
 Calls Tryz.prog 10 #[.agg #[.slice AP ps.length cp, .slice AT ts.length ct], .agg #[.slice AG gs.length cg, .int .i64 vary], .slice AL l.length cl, .int .u8 x, .int .u8 y] w fun e w' => e = .returned (.bool true) ∧ Grows w w' := by
 have hrd := fun (W : World) (hW : Grows w W) => zDp ps ts gs vary AP cp AT ct AG cg B W (Nat.le_trans hB hW.size) (hz1.below (hW.mono hB)) (hz2.below (hW.mono hB)) (hz3.below (hW.mono hB))
 have hgb := fun (W : World) (hW : Grows w W) => zD3 [] l none 0 AL cl B W (Nat.le_trans hB hW.size) ⟨fun h => by simp at h, fun x hx => by cases hx⟩ (by simp) (hz4.below (hW.mono hB)) hl
 have hso := fun (W : World) (hW : Grows w W) => zHy l AL cl B W (Nat.le_trans hB hW.size) (hz4.below (hW.mono hB)) hl
 simp only [List.length_nil] at hgb; obtain ⟨w1, hw1⟩ : ∃ w1, (w.alloc (.cells #[.slice AP ps.length cp, .slice AT ts.length ct] 25)).alloc (.cells #[.slice AG gs.length cg, .int .i64 vary] 28) = w1 := ⟨_, rfl⟩; have hb1 : Grows w w1 := by rw [← hw1]; exact grow2 _ _ _
 have m1 : w1.heap[w.heap.size]? = some (.cells [.slice AP ps.length cp, .slice AT ts.length ct].toArray 25 (0, 0)) := by rw [← hw1]; exact zAp _ _ _
 have m2 : w1.heap[w.heap.size + 1]? = some (.cells [.slice AG gs.length cg, .int .i64 vary].toArray 28 (0, 0)) := by rw [← hw1]; exact zAo _ _ _
 have H1 := zz3 hb1 m1 m2; unfold fitAsk at hask; clear hb1 m1 m2 hz1 hz2 hz3 hz4 hB; rw [hrv] at hrd hask; have HRD := zzh hrd; rw [hgv] at hgb hask; have HGB := zzh hgb; clear hrd hrv hgb hgv; cases hsv : okSks l
 · rw [hsv] at hso; have HSO := zzh hso; clear hso hsv hask
   go_enter Tryz.func10, Tryz.ntmps10
   go_wp2_with (first
    | (go_at_call 39; refine (HSO.out w4 H4.out.1).mono ?_; rintro e w5 ⟨rfl, hB⟩; have H5 := zz3 (H4.out.1.trans (hB.mono H4.out.1.size)) ((hB.block _ (zAa H4.out.2.1)).trans H4.out.2.1) ((hB.block _ (zAa H4.out.2.2)).trans H4.out.2.2); clear hB)
    | (go_at_call 12; refine (HGB.out w3 H3.out.1).mono ?_; rintro e w4 ⟨rfl, hB⟩; have H4 := zz3 (H3.out.1.trans (hB.mono H3.out.1.size)) ((hB.block _ (zAa H3.out.2.1)).trans H3.out.2.1) ((hB.block _ (zAa H3.out.2.2)).trans H3.out.2.2); clear hB)
    | (go_at_call 29; refine (HRD.out w2 H2.out.1).mono ?_; rintro e w3 ⟨rfl, hB⟩; have H3 := zz3 (H2.out.1.trans (hB.mono H2.out.1.size)) ((hB.block _ (zAa H2.out.2.1)).trans H2.out.2.1) ((hB.block _ (zAa H2.out.2.2)).trans H2.out.2.2); clear hB)
    | (refine zAh 25 (.tmp 5) rfl rfl rfl H2.out.2.1 [.slice AP ps.length cp, .slice AT ts.length ct] at0 zAs ?_)
    | (refine zAh 28 (.tmp 6) rfl rfl rfl H2.out.2.2 [.slice AG gs.length cg, .int .i64 vary] at0 zAm ?_)
    | (go_at_call 20; refine (zC3 w1).mono ?_; rintro e w2 ⟨rfl, hB⟩; have H2 := zz3 (H1.out.1.trans (hB.mono H1.out.1.size)) ((hB.block _ (zAa H1.out.2.1)).trans H1.out.2.1) ((hB.block _ (zAa H1.out.2.2)).trans H1.out.2.2); clear hB))
   go_ret
   exact ⟨rfl, H5.out.1⟩
 rw [hsv] at hso hask; have HSO := zzh hso; have h0 : l.length = 0 := by simpa using hask
 have h0z : ((l.length : Int) == 0) = true := by rw [h0]; rfl
 clear hso hsv hask h0
 go_enter Tryz.func10, Tryz.ntmps10
 go_wp2_with (first
  | (go_at_call 39; refine (HSO.out w4 H4.out.1).mono ?_; rintro e w5 ⟨rfl, hB⟩; have H5 := zz3 (H4.out.1.trans (hB.mono H4.out.1.size)) ((hB.block _ (zAa H4.out.2.1)).trans H4.out.2.1) ((hB.block _ (zAa H4.out.2.2)).trans H4.out.2.2); clear hB)
  | (go_at_call 12; refine (HGB.out w3 H3.out.1).mono ?_; rintro e w4 ⟨rfl, hB⟩; have H4 := zz3 (H3.out.1.trans (hB.mono H3.out.1.size)) ((hB.block _ (zAa H3.out.2.1)).trans H3.out.2.1) ((hB.block _ (zAa H3.out.2.2)).trans H3.out.2.2); clear hB)
  | (go_at_call 29; refine (HRD.out w2 H2.out.1).mono ?_; rintro e w3 ⟨rfl, hB⟩; have H3 := zz3 (H2.out.1.trans (hB.mono H2.out.1.size)) ((hB.block _ (zAa H2.out.2.1)).trans H2.out.2.1) ((hB.block _ (zAa H2.out.2.2)).trans H2.out.2.2); clear hB)
  | (refine zAh 25 (.tmp 5) rfl rfl rfl H2.out.2.1 [.slice AP ps.length cp, .slice AT ts.length ct] at0 zAs ?_)
  | (refine zAh 28 (.tmp 6) rfl rfl rfl H2.out.2.2 [.slice AG gs.length cg, .int .i64 vary] at0 zAm ?_)
  | (go_at_call 20; refine (zC3 w1).mono ?_; rintro e w2 ⟨rfl, hB⟩; have H2 := zz3 (H1.out.1.trans (hB.mono H1.out.1.size)) ((hB.block _ (zAa H1.out.2.1)).trans H1.out.2.1) ((hB.block _ (zAa H1.out.2.2)).trans H1.out.2.2); clear hB))
 go_ret
 exact ⟨rfl, H5.out.1⟩
theorem zSd {W : World} {base : Nat} {e : TypeId} {size n : Nat} {v : Value} {xs : List Value} (h : W.ownsRow base e size v n xs) (h0 : xs ≠ []) :
 ∃ g c ys, v = .slice (some ⟨g, 0, none⟩) n c ∧ base ≤ g ∧ W.heap[g]? = some (.cells (xs ++ ys).toArray e (0, 0)) ∧ n ≤ c ∧ c ≤ maxLen ∧ (xs ++ ys).length = c * size := by
 obtain ⟨hl, h1 | ⟨g, c, cur, hv, hb, hm, hn, hc, hs, ht⟩⟩ := h
 · exact absurd (List.eq_nil_of_length_eq_zero (by rw [hl, h1.2, Nat.zero_mul])) h0
 · have hx : xs = cur.toList.take xs.length := by
    rw [hl]
    simpa using ht.symm
   refine ⟨g, c, cur.toList.drop xs.length, hv, hb, ?_, hn, hc, ?_⟩
   · rw [show (xs ++ cur.toList.drop xs.length).toArray = cur from by
      conv => lhs; rw [show xs ++ cur.toList.drop xs.length = cur.toList.take xs.length ++ cur.toList.drop xs.length by rw [← hx]]
      rw [List.take_append_drop]]
     exact hm
   · rw [show xs ++ cur.toList.drop xs.length = cur.toList.take xs.length ++ cur.toList.drop xs.length by rw [← hx], List.take_append_drop]
     simpa using hs
def turnSk (l : List Sk) (i : Nat) (h : Int) : List Sk := l.modify i fun x => hourSk x h
theorem zCj (l : List Sk) (i : Nat) (h : Int) : (turnSk l i h).length = l.length := by simp [turnSk]
theorem zFn {l : List Sk} {i : Nat} {h : Int} {k : Nat} (hk : k < l.length) (hk' : k < (turnSk l i h).length) : (turnSk l i h)[k] = if i = k then hourSk l[k] h else l[k] := by
 simp [turnSk, List.getElem_modify]
theorem zH0 : ∀ (l : List Sk) (i : Nat) (h : Int), i < l.length → (l.flatMap skl).set (i * 7 + 6) (.int .i64 h) = (turnSk l i h).flatMap skl
 | [], i, _, hi => by simp at hi
 | x :: l, 0, h, _ => by simp [turnSk, skl, hourSk]
 | x :: l, i + 1, h, hi => by
   have ih := zH0 l i h (by simpa using hi)
   have e : (i + 1) * 7 + 6 = i * 7 + 6 + 7 := by omega
   rw [e]; simp only [List.flatMap_cons]; rw [List.set_append_right _ _ (by rw [zB2]; omega), zB2, Nat.add_sub_cancel, ih]
   rfl
theorem zH1 {l : List Sk} {i : Nat} {h : Int} (hok : okSks l = true) (h0 : 0 ≤ h) (h1 : h ≤ 300) : okSks (turnSk l i h) = true := by
 simp only [okSks, Bool.and_eq_true, List.all_eq_true] at hok ⊢; refine ⟨by rw [zCj]; exact hok.1, fun x hx => ?_⟩
 obtain ⟨k, hk, rfl⟩ := List.getElem_of_mem hx; have hk2 : k < l.length := by rw [zCj] at hk; exact hk
 rw [zFn hk2]; have hx := hok.2 _ (List.getElem_mem hk2)
 split
 · simp only [okSk, hourSk, Bool.and_eq_true] at hx ⊢; refine ⟨hx.1, ?_⟩; simp only [allB, List.all_cons, List.all_nil, Bool.and_true, inR_iff]; exact ⟨h0, h1⟩
 · exact hx
theorem zSe {l : List Sk} {i : Nat} {h : Int} (hok : okSks l = true) (hi : i < l.length) (h0 : l[i].h ≤ h) (h1 : h ≤ 300) (p : Pol) : fitP l p ≤ fitP (turnSk l i h) p := by
 have hx := hok; simp only [okSks, Bool.and_eq_true, List.all_eq_true] at hx; have hy := hx.2 _ (List.getElem_mem hi); simp only [okSk, allB, Bool.and_eq_true, List.all_cons, List.all_nil, Bool.and_true, inR_iff] at hy; refine fitP_up (zCj l i h) (fun k hk hk' => ?_) hok (zH1 hok (by omega) h1) p
 rw [zFn hk]
 split
 · rename_i e
   subst e; exact ⟨rfl, rfl, h0⟩
 · exact ⟨rfl, rfl, Int.le_refl _⟩
theorem zGf {t : Bt} {ws : List (List Int)} (h : zA6 t ws = true) : 0 < spN t ∧ t.lo ≤ t.hi := by
 simp only [zA6, okS, Bool.and_eq_true, decide_eq_true_eq] at h
 have := h.1.2.1; exact ⟨by unfold spN; omega, this⟩
theorem zEv {l : List Sk} (hok : okSks l = true) {k : Nat} (hk : k < l.length) : zA6 l[k].t (rws l[k].l) = true ∧ 0 ≤ l[k].h ∧ l[k].h ≤ 300 ∧ treatS l k = knownL l[k].t (rws l[k].l) l[k].h.toNat := by
 simp only [okSks, Bool.and_eq_true, List.all_eq_true] at hok; have hx := hok.2 _ (List.getElem_mem hk); simp only [okSk, Bool.and_eq_true] at hx; have h2 := hx.2; simp only [allB, List.all_cons, List.all_nil, Bool.and_true, inR_iff] at h2; exact ⟨hx.1, h2.1, h2.2, by rw [zFx hk, zHz hx.1 hx.2]⟩
theorem zP0 {l : List Sk} {i : Nat} (hok : okSks l = true) (hi : i < l.length) (hE : readyE l[i].t (rws l[i].l) = 0) {p : Pol} (hp : p.soak.toNat = i) (hq : p.place.toNat < l[i].l.length) :
 fitP (turnSk l i (readyV l[i].t (rws l[i].l))) p = 2 := by
 obtain ⟨hb, -, -, -⟩ := zEv hok hi; have hr := zSc hE (zGf hb).1 (p := p.place.toNat) (by simpa [rws] using hq)
 have hok2 := zH1 (i := i) (h := (readyV l[i].t (rws l[i].l) : Int)) hok (by omega) (by have := hr.2.1; omega)
 have hi2 : i < (turnSk l i (readyV l[i].t (rws l[i].l) : Int)).length := by rw [zCj]; exact hi
 unfold fitP; rw [hp, if_pos hi2, (zEv hok2 hi2).2.2.2, zFn hi, if_pos rfl]; exact hr.1
theorem zUr {l : List Sk} {p : Pol} (hok : okSks l = true) (h2 : fitP l p = 2) : ∃ h : p.soak.toNat < l.length, p.place.toNat < l[p.soak.toNat].l.length ∧
 ∀ i : Nat, i < spN l[p.soak.toNat].t → inS l[p.soak.toNat].t (rws l[p.soak.toNat].l) l[p.soak.toNat].h.toNat (l[p.soak.toNat].t.lo + i) p.place.toNat = true := by
 unfold fitP at h2
 split at h2
 · rename_i hk
   obtain ⟨hb, -, -, ht⟩ := zEv hok hk; rw [ht] at h2; obtain ⟨h3, h4⟩ := zSa (zGf hb).1 h2; exact ⟨hk, by simpa [rws] using h3, h4⟩
 · cases h2
theorem zSf {l : List Sk} {p : Pol} (hok : okSks l = true) (h : ∀ hk : p.soak.toNat < l.length, ¬ p.place.toNat < l[p.soak.toNat].l.length) : fitP l p = 0 := by
 unfold fitP
 split
 · rename_i hk
   rw [(zEv hok hk).2.2.2]; exact zEc (by simpa [rws] using h hk)
 · rfl
theorem zUs {w : World} {B : Nat} {A : Option Addr} {xs ys : List Value} (h : Vals w B A (xs ++ ys)) : Vals w B A xs := fun h0 => by
 obtain ⟨b, o, e, hb, hc⟩ := h (by rw [List.length_append]; omega)
 refine ⟨b, o, e, hb, fun j u hu => hc j u ?_⟩
 have hj := (List.getElem?_eq_some_iff.1 hu).1; rw [List.getElem?_append_left hj]; exact hu
theorem zJd {l : List Sk} {i : Nat} {h : Int} {x : Sk} (hx : x ∈ turnSk l i h) : ∃ y ∈ l, x.A = y.A ∧ x.l = y.l := by
 obtain ⟨k, hk, rfl⟩ := List.getElem_of_mem hx; have hk2 : k < l.length := by rw [zCj] at hk; exact hk
 refine ⟨l[k], List.getElem_mem hk2, ?_⟩; rw [zFn hk2]
 split <;> exact ⟨rfl, rfl⟩
theorem zUt {w W : World} {B B' : Nat} {l : List Sk} {AL A' : Option Addr} {i : Nat} {h : Int} (hs : SksAt w B l AL) (hW : Below B w W) (hB : B ≤ B') (hv : Vals W B' A' ((turnSk l i h).flatMap skl)) : SksAt W B' (turnSk l i h) A' := by
 refine ⟨hv, fun x hx => ?_, fun x hx => ?_⟩
 · obtain ⟨y, hy, e1, e2⟩ := zJd hx; rw [e1, e2]; exact ((hs.r y hy).below hW).mono hB
 · obtain ⟨y, hy, e1, e2⟩ := zJd hx; rw [e2]; exact hs.s y hy
def FitP (w : World) (n : Nat) (F : List Int) (e : Ending) (w' : World) : Prop := ∃ A c, e = .returned (.tuple #[.slice A n c, .int .i64 0]) ∧ w'.ownsRow w.heap.size 5 1 (.slice A n c) n (u8s F) ∧ Grows w w'
theorem fit_p {ps : List Pol} {ts : List Ts} {gs : List Gd} {vary : Int} {l : List Sk} (hck : gChk gs vary ps ts = 0) (hok : okSks l = true) {w : World} {e : Ending} {w' : World} (h : KnownPost w (sFit gs vary ps ts l) e w') : FitP w ps.length (fitL l ps) e w' := by
 have e1 : sFit gs vary ps ts l = (fitL l ps, 0) := by unfold sFit; rw [if_pos hck, if_pos hok]
 rw [e1] at h; obtain ⟨A, c, h1, h2, h3⟩ := h; have hl : (fitL l ps).length = ps.length := by simp [fitL]
 simp only [OwnU, hl] at h1 h2; exact ⟨A, c, h1, h2, h3⟩
theorem zSg {w : World} {B c o cl : Nat} {l : List Sk} (h : SksAt w B l (some ⟨c, o, none⟩)) {k : Nat} (hk : k < l.length) : c < B ∧ ∀ j v, (skl l[k])[j]? = some v → w.cell? ⟨c, o + k * 7 + j, none⟩ = some v := by
 obtain ⟨b, o', e, hb, hc⟩ := zAw zB2 h.v (by decide) hk
 cases e
 exact ⟨hb, hc⟩
def RunQ (w : World) (np q : Nat) (v : Int) (e : Ending) (w' : World) : Prop :=
 ∃ (b : Int) (c g o N c2 g2 o2 n2 : Nat), e = .returned (.tuple #[.int .i64 b, .slice (some ⟨g, o, none⟩) np c, .int .i64 0]) ∧ Grows w w' ∧ w'.cell? ⟨g, o + q, none⟩ = some (.slice (some ⟨g2, o2, none⟩) N c2) ∧ w'.cell? ⟨g2, o2 + n2, none⟩ = some (.int .i64 v) ∧ N = n2 + 1 ∧ N ≤ 1000000 ∧ g < w'.heap.size ∧ g2 < w'.heap.size
theorem zP1 {zs : List Int} (h : okPole zs = true) : 1 ≤ zs.length ∧ zs.length ≤ 6 := by
 simp only [okPole, Bool.and_eq_true, allB_iff] at h
 have := h.1; omega
theorem run_q {t : Bt} {ls0 : List Sl} {sp : Int} {r q : Nat} (hok : zA6 t (rws ls0) = true) (hs : t.lo ≤ sp ∧ sp ≤ t.hi) (hr : r ≤ 300) (hq : q < ls0.length) {w : World} {e : Ending} {w' : World} (h : RunPost w t (rws ls0) sp r e w') :
 RunQ w ls0.length q (coreOf (runS t.water sp (t.borax, rws ls0) r) q) e w' := by
 obtain ⟨A, c, ls, he, hrw, hO, hB⟩ := h
 have hE : runE t (rws ls0) sp r = 0 := by
  unfold runE; rw [if_pos hok, if_pos]; exact ⟨allB_iff.2 hs, allB_iff.2 (by omega)⟩
 have hR : rws ls = (runS t.water sp (t.borax, rws ls0) r).2 := by rw [hrw]; unfold runR; rw [if_pos hE, Int.toNat_natCast]
 have hlen := zDx t.water sp (t.borax, rws ls0) r
 have hln : ls.length = ls0.length := by
  have h1 := zDy hlen; rw [← hR] at h1
  simpa [rws] using h1
 have hql : q < ls.length := by omega
 have hrow : rowAt (rws ls) q = ls[q].zs := by simp [rowAt, rws, hql]
 have hrow0 : rowAt (rws ls0) q = ls0[q].zs := by simp [rowAt, rws, hq]
 have hzl : ls[q].zs.length = ls0[q].zs.length := by
  have h1 := zGi hlen q; rw [← hR, hrow, hrow0] at h1; exact h1
 have hz6 : 1 ≤ ls0[q].zs.length ∧ ls0[q].zs.length ≤ 6 := by
  simp only [zA6, Bool.and_eq_true, List.all_eq_true] at hok; exact zP1 (hok.1.1.2 ls0[q].zs (by simp only [rws, List.mem_map]; exact ⟨_, List.getElem_mem hq, rfl⟩))
 have hv : coreOf (runS t.water sp (t.borax, rws ls0) r) q = ls[q].zs[ls[q].zs.length - 1]?.getD 0 := by
  unfold coreOf; rw [← hR, hrow]
  rfl
 obtain ⟨n2, hn2⟩ : ∃ n2, ls[q].zs.length = n2 + 1 := ⟨ls[q].zs.length - 1, by omega⟩
 have hRw := hO.rows; obtain ⟨g, o, hA, hg, hc⟩ := hRw.va (by rw [zCm]; omega)
 obtain ⟨g2, o2, hA2, hg2, hc2⟩ := hRw.each ls[q] (List.getElem_mem hql) (by omega)
 subst hA; rw [hE, hln] at he; refine ⟨_, c, g, o, ls[q].zs.length, ls[q].c, g2, o2, n2, he, hB, ?_, ?_, hn2, by omega, hg, hg2⟩
 · rw [hc q (slv ls[q]) (by simp [slvs, hql])]
   unfold slv; rw [hA2]
 · rw [hc2 n2 (by omega), hv, hn2]
   rfl
theorem zSh {t : Bt} {ws : List (List Int)} {h : Nat} {s : Int} {p : Nat} (hi : inS t ws h s p = true) : ∃ r, r ≤ h ∧ decide (t.need ≤ coreOf (runS t.water s (t.borax, ws) r) p) = true := by
 unfold inS at hi; obtain ⟨k, hk⟩ := Option.isSome_iff_exists.1 hi; obtain ⟨a, b, -⟩ := zCb hk; exact ⟨k, by omega, b⟩
theorem zSi : (Tryz.prog.info? 65).map (fun i => (i.zero, i.size, i.bytes)) = some (some (.agg #[.int .i64 0, .int .i64 0, .slice none 0 0, .int .i64 0, .int .i64 0, .int .i64 0, .int .i64 0]), 7, 72) := by kernel_rfl
theorem zSj (t : Bt) (ws : List (List Int)) : readyV t ws ≤ 300 := by
 unfold readyV
 split
 · exact zHu _ _ _
 · omega
end Go.Proofs.YtnjgibbfcigbfaaGreat
namespace Go.Proofs.YtnjgibbfcigbfaaGreat
open Go.RowKit Go.BigFrame
open R6 (done zAg zAj upd_ne upd_me)
attribute [local go_sem] gives
theorem zJe {l : List Sk} {i : Nat} (hi : i < l.length) {h : Int} {y : List Value} : (l.flatMap skl ++ y).set (i * 7 + 6) (.int .i64 h) = (turnSk l i h).flatMap skl ++ y := by
 rw [List.set_append_left _ _ (by rw [zCl zB2]; omega), zH0 l i h hi]
theorem zSk {l : List Sk} {i : Nat} (hi : i < l.length) (y : List Value) : (l.flatMap skl ++ y)[i * 7 + 6]? = some (.int .i64 l[i].h) := by
 rw [List.getElem?_append_left (by rw [zCl zB2]; omega), zHl zB2 l i hi 6 (by decide)]
 rfl
theorem zOc {w : World} {b k : Nat} {L : List Value} {t : TypeId} {v : Value} (h : w.heap[b]? = some (.cells L.toArray t (0, 0))) (hv : L[k]? = some v) : w.cell? ⟨b, k, none⟩ = some v :=
 cell_of_row w b k _ _ _ h |>.trans (by simpa using hv)
theorem zM9 {x : Sk} {j : Nat} {v : Value} (hv : (skb x)[j]? = some v) : (skl x)[j]? = some v := by
 have h := zJx x j v hv; rw [Nat.zero_add, List.getElem?_toArray] at h; exact h
theorem zP2 {l : List Sk} {p : Pol} (hok : okSks l = true) (k q : Nat) (h1 : p.soak = k) (h2 : p.place = q) (h : ∀ hk : k < l.length, ¬ q < l[k].l.length) : fitP l p = 0 := by
 have e1 : p.soak.toNat = k := by rw [h1]; simp
 have e2 : p.place.toNat = q := by rw [h2]; simp
 subst e1; subst e2; exact zSf hok h
theorem zSl {l : List Sk} {p : Pol} (hok : okSks l = true) (k q : Nat) (h1 : p.soak = k) (h2 : p.place = q) (h : fitP l p = 2) (hk : k < l.length) : ∀ i : Nat, i < spN l[k].t → inS l[k].t (rws l[k].l) l[k].h.toNat (l[k].t.lo + i) q = true := by
 have e1 : p.soak.toNat = k := by rw [h1]; simp
 have e2 : p.place.toNat = q := by rw [h2]; simp
 subst e1; subst e2; obtain ⟨_, _, h3⟩ := zUr hok h; exact h3
theorem bad43 {k i : Nat} {E x3 : Int} (h : E = 0 → k = i → x3 = 2) : andB (andB (decide ((k : Int) = (i : Int))) (E == 0)) (x3 != 2) = false := by
 by_cases h1 : k = i
 · by_cases h2 : E = 0
   · simp [andB, h h2 h1]
   · simp [andB, h2]
 · have h3 : ¬ (k : Int) = (i : Int) := by omega
   simp [andB, h3]
theorem zSm {ps : List Pol} (l : List Sk) {j : Nat} (hj : j < ps.length) : (u8s (fitL l ps))[j]? = some (.int .u8 (fitP l ps[j])) := by simp [u8s, fitL, hj]
theorem zSn (x : Sk) : ∀ v ∈ skb x, v.oneCell' = true := by
 intro v hv; simp only [skb, List.mem_cons, List.not_mem_nil, or_false] at hv; rcases hv with rfl | rfl | rfl | rfl | rfl | rfl <;> rfl
theorem zSo {t : Bt} {ws : List (List Int)} (hok : zA6 t ws = true) {h q : Nat} (hin : ∀ i : Nat, i < spN t → inS t ws h (t.lo + i) q = true) :
 ∀ m, m < 2 → ∃ sp, [Value.int .i64 t.lo, .int .i64 t.hi][m]? = some (.int .i64 sp) ∧ (t.lo ≤ sp ∧ sp ≤ t.hi) ∧ ∃ r, r ≤ h ∧ decide (t.need ≤ coreOf (runS t.water sp (t.borax, ws) r) q) = true := by
 obtain ⟨h0, hle⟩ := zGf hok; intro m hm; rcases (by omega : m = 0 ∨ m = 1) with rfl | rfl
 · have h1 := hin 0 h0; simp only [Int.natCast_zero, Int.add_zero] at h1; exact ⟨t.lo, rfl, ⟨Int.le_refl _, hle⟩, zSh h1⟩
 · have h1 := hin (spN t - 1) (by omega)
   rw [show t.lo + ((spN t - 1 : Nat) : Int) = t.hi by unfold spN at h0 ⊢; omega] at h1
   exact ⟨t.hi, rfl, ⟨hle, Int.le_refl _⟩, zSh h1⟩
end Go.Proofs.YtnjgibbfcigbfaaGreat
