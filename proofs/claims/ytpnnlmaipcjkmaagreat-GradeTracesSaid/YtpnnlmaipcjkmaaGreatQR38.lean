/-
  The program's Treated and Ready.
-/
import Derived.Test.YtpnnlmaipcjkmaaGreatQR35
import Derived.Test.YtpnnlmaipcjkmaaGreatQR29
import Derived.Test.YtpnnlmaipcjkmaaGreatQR36
import Derived.Maps.RangeWalk
import Derived.Test.YtpnnlmaipcjkmaaGreatQR37
import Derived.Test.YtpnnlmaipcjkmaaGreatQR19
set_option linter.all false
namespace Go.Proofs.YtpnnlmaipcjkmaaGreat
open Go.RowKit Go.Shelf
open R6 (done done_ne done_me upd_ne upd_me)

attribute [local go_sem] gives

theorem allB_inR (lo hi n : Int) : allB lo hi [n] = inR n lo hi := allB_one lo hi n
section
variable {w W W' : World} {x : Nat} {cs : Array Value} {ws : List (List Int)} {kc tc : Nat} {D : Nat → Bool} {σ : Nat → Value}
end

end Go.Proofs.YtpnnlmaipcjkmaaGreat

namespace Go.Proofs.YtpnnlmaipcjkmaaGreat
open Go.RowKit Go.Shelf

def cntS (P : Int → Bool) (lo : Int) : Nat → Nat
  | 0 => 0
  | n + 1 => cntS P lo n + if P (lo + n) = true then 1 else 0
theorem cntS_le (P : Int → Bool) (lo : Int) : ∀ n, cntS P lo n ≤ n
  | 0 => Nat.le_refl _
  | n + 1 => by have := cntS_le P lo n; unfold cntS; split <;> omega
def whenS (t : Bt) (ws : List (List Int)) (s : Int) (p : Nat) : Option Nat := firstB (hitB t.water s t.need (t.borax, ws) p) 301
def inS (t : Bt) (ws : List (List Int)) (h : Nat) (s : Int) (p : Nat) : Bool := (firstB (hitB t.water s t.need (t.borax, ws) p) (h + 1)).isSome
theorem firstB_le {g : Nat → Bool} {K h : Nat} (hh : h ≤ K) : (firstB g (h + 1)).isSome = true ↔ ∃ k, firstB g (K + 1) = some k ∧ k ≤ h := by
  constructor
  · intro e
    obtain ⟨k, hk⟩ := Option.isSome_iff_exists.1 e
    obtain ⟨a, b, c⟩ := firstB_some hk
    exact ⟨k, firstB_eq (by omega) b c, by omega⟩
  · rintro ⟨k, hk, hle⟩
    obtain ⟨a, b, c⟩ := firstB_some hk
    rw [firstB_eq (K := h + 1) (by omega) b c]
    rfl
def spN (t : Bt) : Nat := (t.hi - t.lo + 1).toNat
def codeK (n c : Nat) : Int := if c = 0 then 0 else if c = n then 2 else 1
def knownL (t : Bt) (ws : List (List Int)) (h : Nat) : List Int := (List.range ws.length).map fun p => codeK (spN t) (cntS (fun s => inS t ws h s p) t.lo (spN t))
theorem knownL_len (t : Bt) (ws : List (List Int)) (h : Nat) : (knownL t ws h).length = ws.length := by simp [knownL]
def treatE (t : Bt) (ws : List (List Int)) (h : Int) : Int := if okBatch t ws = true then (if allB 0 300 [h] = true then 0 else 2) else 40
def treatL (t : Bt) (ws : List (List Int)) (h : Int) : List Int := if treatE t ws h = 0 then knownL t ws h.toNat else []

def mxF (f : Nat → Option Nat) : Nat → Nat → Nat
  | 0, m => m
  | n + 1, m => max (mxF f n m) ((f n).getD 0)
theorem mxF_up (f : Nat → Option Nat) : ∀ n m q k, q < n → f q = some k → k ≤ mxF f n m
  | 0, m, q, k, h, _ => by omega
  | n + 1, m, q, k, h, hk => by
    unfold mxF
    by_cases e : q = n
    · subst e; rw [hk]; simp only [Option.getD_some]; omega
    · have := mxF_up f n m q k (by omega) hk; omega
end Go.Proofs.YtpnnlmaipcjkmaaGreat

namespace Go.Proofs.YtpnnlmaipcjkmaaGreat
open Go.RowKit Go.Shelf

section
variable {P : Program} {ops : Array Oper} {rest : List Oper} {op : Oper} {a : Act} {w : World} {Q : Exit → Act → World → Prop}
theorem wpList_store_v (ty : TypeId) (x y : Operand) (hgd : op.guard = none) (ho : op.op = .store ty x y) (hd : op.dst = none) {b o : Nat} (hx : a.eval x = .pointer (some ⟨b, o, none⟩)) {v : Value} (hy : a.eval y = v) (hv : v.cells = #[v]) (h1 : v.oneCell' = true)
    {L : List Value} {t : TypeId} (hb : w.heap[b]? = some (.cells L.toArray t (0, 0))) (hfit : o < L.length) (hty : (P.info? ty).map (·.size) = some 1)
    (h : ∀ w', Put w w' b → w'.heap[b]? = some (.cells (L.set o v).toArray t (0, 0)) → wpList P ops Q rest a w') : wpList P ops Q (op :: rest) a w := by
  refine wpList_plain hgd fun K hK => ?_
  have hrun := run_store_one (P := P) (v := v) hb hfit hv h1 hty
  unfold Oper.wp execOp
  simp only [ho, hx, hy, Sem.run_bind, Sem.run_pure, hrun, Result.andThen_ok]
  refine hK _ _ ?_
  rw [hd]
  refine h _ (put_setCells b [v] o w) ?_
  have := heap_setCell_same w b o _ _ v hb
  rwa [List.setIfInBounds_toArray] at this
end

def TreatPost (w : World) (zs : List Int) (e : Ending) (w' : World) : Prop :=
  ∃ A c, e = .returned (.slice A zs.length c) ∧ OwnU w' w.heap.size (.slice A zs.length c) zs ∧ Below w.heap.size w w'

def timesL (t : Bt) (ws : List (List Int)) (h k : Nat) : List Int := (List.range 4).map fun p => if p < ws.length then ((cntS (fun s => inS t ws h s p) t.lo k : Nat) : Int) else 0
def midT (T : List Int) (n : Nat) (f : Nat → Option Nat) (left : Lit → Bool) : List Int := (List.range 4).map fun p => T[p]?.getD 0 + if p < n ∧ (f p).isSome = true ∧ left (.int .i64 (p : Int)) = false then 1 else 0
theorem midT_len (T : List Int) (n : Nat) (f : Nat → Option Nat) (left : Lit → Bool) : (midT T n f left).length = 4 := by simp [midT]
theorem timesL_len (t : Bt) (ws : List (List Int)) (h k : Nat) : (timesL t ws h k).length = 4 := by simp [timesL]
theorem timesL_at (t : Bt) (ws : List (List Int)) (h k : Nat) {p : Nat} (hp : p < ws.length) (h4 : p < 4) : (timesL t ws h k)[p]?.getD 0 = ((cntS (fun s => inS t ws h s p) t.lo k : Nat) : Int) := by
  simp [timesL, List.getElem?_range h4, hp]
theorem timesL_zero (t : Bt) (ws : List (List Int)) (h : Nat) : timesL t ws h 0 = [0, 0, 0, 0] := by simp [timesL, cntS, List.range_succ]
theorem midT_at (T : List Int) (n : Nat) (f : Nat → Option Nat) (left : Lit → Bool) {p : Nat} (h4 : p < 4) : (midT T n f left)[p]?.getD 0 = T[p]?.getD 0 + if p < n ∧ (f p).isSome = true ∧ left (.int .i64 (p : Int)) = false then 1 else 0 := by
  simp [midT, List.getElem?_range h4]
theorem list4_ext {a b : List Int} (ha : a.length = 4) (hb : b.length = 4) (h : ∀ p, p < 4 → a[p]?.getD 0 = b[p]?.getD 0) : a = b := by
  apply List.ext_getElem (by omega)
  intro i h1 h2
  have := h i (by omega)
  simpa [h1, h2] using this
theorem midT_start {T : List Int} {n : Nat} {f : Nat → Option Nat} {left : Lit → Bool} (hT : T.length = 4) (h : ∀ p : Nat, p < n → (f p).isSome = true → left (.int .i64 (p : Int)) = true) : midT T n f left = T := by
  refine list4_ext (midT_len ..) hT fun p hp => ?_
  rw [midT_at T n f left hp, if_neg, Int.add_zero]
  rintro ⟨h1, h2, h3⟩
  rw [h p h1 h2] at h3
  cases h3
theorem midT_step {T : List Int} {n q : Nat} {f : Nat → Option Nat} {left : Lit → Bool} (h4 : q < 4) (hq : q < n) (hf : (f q).isSome = true) (hl : left (.int .i64 (q : Int)) = true) :
    (midT T n f left).set q ((midT T n f left)[q]?.getD 0 + 1) = midT T n f (fun z => left z && !z.sameKey (.int .i64 (q : Int))) := by
  refine list4_ext (by simp [midT]) (midT_len ..) fun p hp => ?_
  rw [midT_at T n f _ hp]
  by_cases e : p = q
  · subst e
    have hs : Lit.sameKey (.int .i64 (p : Int)) (.int .i64 (p : Int)) = true := by simp [Lit.sameKey]
    rw [List.getElem?_set_self (by rw [midT_len]; exact hp), Option.getD_some, midT_at T n f left hp, if_neg (by rw [hl]; simp), if_pos ⟨hq, hf, by rw [hs]; simp⟩]
    omega
  · have hs : Lit.sameKey (.int .i64 (p : Int)) (.int .i64 (q : Int)) = false := Maps.sameKey_ne (fun h => e (by injection h with _ h; omega))
    rw [List.getElem?_set_ne (by omega), midT_at T n f left hp, hs]
    simp
theorem midT_end {t : Bt} {ws : List (List Int)} {h k : Nat} {left : Lit → Bool} (_ : ws.length ≤ 4) (hl : ∀ z, left z = false) :
    midT (timesL t ws h k) ws.length (fun q => firstB (hitB t.water (t.lo + k) t.need (t.borax, ws) q) (h + 1)) left = timesL t ws h (k + 1) := by
  refine list4_ext (midT_len ..) (timesL_len ..) fun p hp => ?_
  rw [midT_at _ _ _ _ hp]
  by_cases hw : p < ws.length
  · rw [timesL_at t ws h k hw hp, timesL_at t ws h (k + 1) hw hp]
    show _ = (((cntS _ _ k + if inS t ws h (t.lo + k) p = true then 1 else 0 : Nat)) : Int)
    unfold inS
    simp only [hw, hl, true_and, and_true]
    split <;> simp
  · rw [if_neg (by rintro ⟨h1, _⟩; exact hw h1)]
    simp [timesL, List.getElem?_range hp, hw]

structure TreC (w : World) (V : List Value) (T : List Int) (W : World) : Prop where
  bel : Below w.heap.size w W
  sz : w.heap.size + 1 + 1 ≤ W.heap.size
  b0 : W.heap[w.heap.size]? = some (.cells V.toArray 152 (0, 0))
  b1 : W.heap[w.heap.size + 1]? = some (.cells (ints T).toArray 245 (0, 0))
section
variable {w W W' : World} {V : List Value} {T T' : List Int}
theorem TreC.next (h : TreC w V T W) {b : Nat} (hb : Below b W W') (hle : w.heap.size + 1 + 1 ≤ b) : TreC w V T W' :=
  ⟨h.bel.trans (below_low hb (by omega)), Nat.le_trans h.sz hb.size, (hb.block _ (by omega)).trans h.b0, (hb.block _ (by omega)).trans h.b1⟩
theorem TreC.grown (h : TreC w V T W) {r : Nat} (hg : W.grownBy W' (some r)) (hr : w.heap.size + 1 + 1 ≤ r) : TreC w V T W' :=
  ⟨h.bel.grown hg h.bel.size (fun k e => by cases e; omega), Nat.le_trans h.sz hg.size, (hg.block _ (by have := h.sz; omega) (by simp; omega)).trans h.b0, (hg.block _ (by have := h.sz; omega) (by simp; omega)).trans h.b1⟩
theorem TreC.put (h : TreC w V T W) (hp : Put W W' (w.heap.size + 1)) (hm : W'.heap[w.heap.size + 1]? = some (.cells (ints T').toArray 245 (0, 0))) : TreC w V T' W' :=
  ⟨h.bel.trans (hp.below (by omega)), by rw [hp.size]; exact h.sz, (hp.other _ (by omega)).trans h.b0, hm⟩
end

theorem ints_setL (c : List Int) (k : Nat) (x : Int) : ints (c.set k x) = (ints c).set k (.int .i64 x) := by simp [ints, List.map_set]
set_option maxRecDepth 100000 in
set_option maxHeartbeats 8000000 in
theorem treated_any (t : Bt) (A : Option Addr) (cap : Nat) (l : List Sl) (h : Nat) (B : Nat) (w : World) (hB : B ≤ w.heap.size) (hz : Rows w B A l) (hb : okBatch t (rws l) = true) (h300 : h ≤ 300) :
    Calls Tryz.prog 131 #[.agg (bs t (.slice A l.length cap) (t.borax, rws l)).toArray, .int .i64 (h : Int)] w (TreatPost w (knownL t (rws l) h)) := by
  obtain ⟨hg, g1, g2, g3, g4, -⟩ := okBatch_good hb
  have hn4 : l.length ≤ 4 := by have := hg.n4; simpa [rws] using this
  have hrl : (rws l).length = l.length := by simp [rws]
  have hkl : (knownL t (rws l) h).length = l.length := by rw [knownL_len, hrl]
  have hre := fun (k : Nat) (hk : k < spN t) (W : World) (hW : Below w.heap.size w W) =>
    reached_any t A cap l (t.lo + k) (t.borax, rws l) h B W (Nat.le_trans hB hW.size) (hz.below (hW.mono hB)) (by omega) (by unfold spN at hk; omega) hg rfl h300
  unfold ReachPost at hre
  obtain ⟨V, hV⟩ : ∃ V, V = bs t (.slice A l.length cap) (t.borax, rws l) := ⟨_, rfl⟩
  have hV2 : V.toArray[2]? = some (.slice A l.length cap) := by rw [hV]; rfl
  have hV3 : V.toArray[3]? = some (.int .i64 t.lo) := by rw [hV]; rfl
  have hV4 : V.toArray[4]? = some (.int .i64 t.hi) := by rw [hV]; rfl
  have hlen : V.length = 30 := by rw [hV]; exact bv_len _ _ _ _
  rw [← hV] at hre ⊢
  obtain ⟨w1, hw1⟩ : ∃ w1, w.alloc (.cells V.toArray 152) = w1 := ⟨_, rfl⟩
  obtain ⟨w2, hw2⟩ : ∃ w2, w1.alloc (.cells #[.int .i64 0, .int .i64 0, .int .i64 0, .int .i64 0] 245) = w2 := ⟨_, rfl⟩
  have hT0 : TreC w V (timesL t (rws l) h 0) w2 := by
    rw [timesL_zero]
    subst hw1 hw2
    exact ⟨((Below.refl _ w).alloc (Nat.le_refl _) _).alloc (by simp) _, by simp, alloc2_at0 _ _ _, alloc2_at1 _ _ _⟩
  have hs1 : w1.heap.size = w.heap.size + 1 := by rw [← hw1]; simp
  have hc2 := fun i => cell_of_row w2 w.heap.size i _ _ _ hT0.b0
  have hc3 := (hc2 3).trans hV3
  obtain ⟨i0, hi, hz0, hz1, hz2⟩ := info_parts infoU8
  have hmk := fun W => run_make_u8 (P := Tryz.prog) 34 5 i0 Tryz.underlying34 hi hz0 hz1 hz2 l.length (by omega) W
  have hspn : (spN t : Int) = t.hi - t.lo + 1 := by unfold spN; omega
  have hsp : spN t ≤ 250 := by unfold spN; omega
  have HV := Lib.hid (And.intro hV2 (And.intro hV3 (And.intro hV4 hlen)))
  have HRE := Lib.hid hre
  have HT0 := Lib.hid hT0
  have HK := Lib.hid (And.intro hkl (And.intro hrl hn4))
  have HS1 := Lib.hid hs1
  clear hV hV2 hV3 hV4 hlen hre hT0 hkl hrl hs1 hc2 hg hz hb hi hz0 hz1 hz2
  go_enter Tryz.func131, Tryz.ntmps131
  go_wp2
  go_loopg [6] (spN t) (fun gg s6 wx => ∃ k : Nat, k + gg = spN t ∧ s6 = .int .i64 (t.lo + k) ∧ Hid (TreC w V (timesL t (rws l) h k) wx))
  case atStart => exact ⟨0, by omega, by simp, HT0.out⟩
  case round =>
    obtain ⟨k, hkg, rfl, hT⟩ := hrel
    clear hc3
    have hcr := fun i => cell_of_row wr w.heap.size i _ _ _ hT.out.b0
    have hr2 := (hcr 2).trans HV.out.1
    have hr3 := (hcr 3).trans HV.out.2.1
    have hr4 := (hcr 4).trans HV.out.2.2.1
    clear hcr
    cases gk with
    | zero =>
      have hkn : ¬ t.lo + (k : Int) ≤ t.hi := by omega
      obtain rfl : k = spN t := by omega
      obtain ⟨w7, hw7⟩ : ∃ w7, wr.alloc (.cells (u8s (List.replicate l.length 0)).toArray 5) = w7 := ⟨_, rfl⟩
      have hb7 : Below wr.heap.size wr w7 := by rw [← hw7]; exact grow1 _ _
      have hm7 : w7.heap[wr.heap.size]? = some (.cells (u8s (List.replicate l.length 0)).toArray 5 (0, 0)) := by rw [← hw7]; exact alloc_at0 _ _
      have hmk' := hmk wr
      rw [hw7] at hmk'
      obtain ⟨Z, hZ⟩ : ∃ Z, Z = knownL t (rws l) h := ⟨_, rfl⟩
      have hZl : Z.length = l.length := by rw [hZ, HK.out.1]
      rw [← hZl, ← fillL_zero] at hm7
      have H7 := Lib.hid (And.intro (hT.out.next hb7 hT.out.sz) hm7)
      have HZ := Lib.hid (And.intro hZ hZl)
      have HB7 := Lib.hid hb7
      have HNW := Lib.hid (show w.heap.size ≤ wr.heap.size from hT.out.bel.size)
      clear hb7 hm7 hmk hZ hZl hkg
      go_wp2
      clear hmk' hw7 hr2 hr3 hr4
      obtain ⟨wo, rfl⟩ : ∃ wo : World, wo = wr := ⟨_, rfl⟩
      go_loopg [43] l.length (fun gh s43 wx => ∃ j : Nat, j + gh = l.length ∧ s43 = .int .i64 j ∧ Hid (TreC w V (timesL t (rws l) h (spN t)) wx) ∧ Hid (wx.heap[wo.heap.size]? = some (.cells (u8s (fillL Z j)).toArray 5 (0, 0))))
      case atStart => exact ⟨0, by omega, rfl, H7.out.1, H7.out.2⟩
      case round =>
        obtain ⟨j, hjg, rfl, hTj, hM⟩ := hrel
        cases gk with
        | zero =>
          obtain rfl : j = l.length := by omega
          go_wp2
          go_ret
          have hMe := hM.out
          rw [← HZ.out.2, fillL_all] at hMe
          have hZe := HZ.out.1
          subst hZe
          refine ⟨some ⟨wo.heap.size, 0, none⟩, l.length, by rw [HK.out.1]; rfl, ?_, hTj.out.bel⟩
          refine ⟨by simp [u8s], .inr ⟨wo.heap.size, l.length, (u8s (knownL t (rws l) h)).toArray, by rw [HK.out.1], HNW.out, hMe, by rw [HK.out.1]; exact Nat.le_refl _, by have := HK.out.2.2; simp only [maxLen]; omega, by simp [u8s, HK.out.1], by rw [List.toList_toArray, Nat.mul_one, List.take_of_length_le (by rw [u8s_len]; exact Nat.le_refl _)]⟩⟩
        | succ gh =>
          have hj : j < l.length := by omega
          have hjz : (j : Int) < l.length := by omega
          have hj4 : (j : Int) < 4 := by have := HK.out.2.2; omega
          have hj0 : (0 : Int) ≤ j := by omega
          have hjr : j < (rws l).length := by rw [HK.out.2.1]; exact hj
          have hcr := fun i => cell_of_row wr w.heap.size i _ _ _ hTj.out.b0
          have hr3 := (hcr 3).trans HV.out.2.1
          have hr4 := (hcr 4).trans HV.out.2.2.1
          have htl := timesL_at t (rws l) h (spN t) hjr (by omega)
          have hcx := (cell_of_row wr (w.heap.size + 1) j _ _ _ hTj.out.b1).trans (ints_at _ j (by rw [timesL_len]; omega))
          rw [htl, ← HS1.out] at hcx
          have hset : (u8s (fillL Z j)).set j (.int .u8 (codeK (spN t) (cntS (fun s => inS t (rws l) h s j) t.lo (spN t)))) = u8s (fillL Z (j + 1)) := by
            have e : codeK (spN t) (cntS (fun s => inS t (rws l) h s j) t.lo (spN t)) = Z[j]'(by rw [HZ.out.2]; exact hj) := by
              have := HZ.out.1
              subst this
              simp [knownL]
            rw [e, u8s_set, fillL_set]
          have hfl : (u8s (fillL Z j)).length = l.length := by rw [u8s_len, fillL_len Z (by rw [HZ.out.2]; omega), HZ.out.2]
          have hcle := cntS_le (fun s => inS t (rws l) h s j) t.lo (spN t)
          generalize cntS (fun s => inS t (rws l) h s j) t.lo (spN t) = c at hcx hset hcle
          have HFL := Lib.hid hfl
          have HM := Lib.hid hM.out
          clear hcr htl hfl hjr
          by_cases hc0 : c = 0
          · subst hc0
            rw [show codeK (spN t) 0 = 0 by simp [codeK]] at hset
            have HSET := Lib.hid hset
            rw [Int.natCast_zero] at hcx
            clear hset hcle
            go_wp2_with
              (show wpList _ _ _ (Oper.mk none (Op.store _ (Operand.tmp 56) _) _ _ _ _ :: _) _ _
               refine wpList_store_v 5 (.tmp 56) (.const (.int .u8 0)) (v := .int .u8 0) rfl rfl rfl rfl rfl rfl rfl HM.out (by rw [HFL.out]; omega) sizeU8 ?_
               intro w8 hP8 hM8
               rw [HSET.out] at hM8
               have hT8 := hTj.out.next (hP8.below (Nat.le_refl _)) hT.out.sz
               have H8 := Lib.hid (And.intro hT8 hM8)
               clear hP8 hM8 hT8)
            go_roundg gh
            case measure => omega
            case rel => exact ⟨j + 1, by omega, by go_num, H8.out.1, H8.out.2⟩
          · by_cases hcn : c = spN t
            · have hq : codeK (spN t) c = 2 := by rw [codeK, if_neg hc0, if_pos hcn]
              rw [hq] at hset
              rw [hcn, hspn] at hcx
              have hne : ¬ t.hi - t.lo + 1 = 0 := by omega
              have HSET := Lib.hid hset
              clear hset hcle hc0 hcn hq
              go_wp2_with
                (show wpList _ _ _ (Oper.mk none (Op.store _ (Operand.tmp 71) _) _ _ _ _ :: _) _ _
                 refine wpList_store_v 5 (.tmp 71) (.const (.int .u8 2)) (v := .int .u8 2) rfl rfl rfl rfl rfl rfl rfl HM.out (by rw [HFL.out]; omega) sizeU8 ?_
                 intro w8 hP8 hM8
                 rw [HSET.out] at hM8
                 have hT8 := hTj.out.next (hP8.below (Nat.le_refl _)) hT.out.sz
                 have H8 := Lib.hid (And.intro hT8 hM8)
                 clear hP8 hM8 hT8)
              go_roundg gh
              case measure => omega
              case rel => exact ⟨j + 1, by omega, by go_num, H8.out.1, H8.out.2⟩
            · have hq : codeK (spN t) c = 1 := by rw [codeK, if_neg hc0, if_neg hcn]
              rw [hq] at hset
              have hne1 : ¬ (c : Int) = 0 := by omega
              have hne2 : ¬ (c : Int) = t.hi - t.lo + 1 := by omega
              have hc9 : (c : Int) ≤ 250 := by omega
              have HSET := Lib.hid hset
              clear hset hcle hc0 hcn hq
              go_wp2_with
                (show wpList _ _ _ (Oper.mk none (Op.store _ (Operand.tmp 51) _) _ _ _ _ :: _) _ _
                 refine wpList_store_v 5 (.tmp 51) (.const (.int .u8 1)) (v := .int .u8 1) rfl rfl rfl rfl rfl rfl rfl HM.out (by rw [HFL.out]; omega) sizeU8 ?_
                 intro w8 hP8 hM8
                 rw [HSET.out] at hM8
                 have hT8 := hTj.out.next (hP8.below (Nat.le_refl _)) hT.out.sz
                 have H8 := Lib.hid (And.intro hT8 hM8)
                 clear hP8 hM8 hT8)
              go_roundg gh
              case measure => omega
              case rel => exact ⟨j + 1, by omega, by go_num, H8.out.1, H8.out.2⟩
    | succ gg =>
      have hkz : t.lo + (k : Int) ≤ t.hi := by omega
      have hkn : k < spN t := by omega
      have hk250 : (k : Int) < 250 := by omega
      go_wp2_with (first
        | (show wpList _ _ _ (Oper.mk (some 22) _ _ _ _ _ :: _) _ _
           refine wpList_load_blk 152 (.tmp 2) rfl rfl rfl hT.out.b0 V (fun j v hj => by rw [Nat.zero_add, List.getElem?_toArray]; exact hj) (by rw [HV.out.2.2.2]; exact rowBatch) ?_)
        | (go_at_call 116
           refine (HRE.out k hkn wr hT.out.bel).mono ?_
           rintro e w3 ⟨mb, rfl, hmb, ⟨D, hOw, hMI⟩, hB3⟩
           have hT3 := hT.out.next hB3 hT.out.sz
           have H3 := Lib.hid (And.intro hmb (And.intro hOw (And.intro hMI hT3)))
           clear hmb hOw hMI hT3 hB3 hr2 hr3 hr4)
        | (at_range
           refine wpList_range_own (H := Value) _ rfl _ 79 rfl 3 3 keyInt Tryz.underlying79 _ mb _ D rfl H3.out.2.1 ?_
           intro w0 hrg0 hg0 hs0
           have hT4 : TreC w V (timesL t (rws l) h k) w0 := H3.out.2.2.2.grown (r := w3.heap.size) (hg0.but _) (by have := H3.out.2.2.2.sz; omega)
           have H4 := Lib.hid (And.intro hrg0 hT4)
           clear hrg0 hg0 hs0 hT4))
      go_frame
      obtain ⟨wo, rfl⟩ : ∃ wo : World, wo = wr := ⟨_, rfl⟩
      go_loopg [7] (Maps.size D) (fun gh s7 wx => ∃ left : Lit → Bool, Hid (wx.ranges Tryz.prog 3 (plainElem Tryz.prog 3) mb w3.heap.size (Maps.size D) D left gh) ∧ Hid (TreC w V (midT (timesL t (rws l) h k) l.length (fun q => firstB (hitB t.water (t.lo + k) t.need (t.borax, rws l) q) (h + 1)) left) wx))
      case atStart =>
        refine ⟨_, H4.out.1, ?_⟩
        show TreC _ _ _ _
        rw [midT_start (timesL_len ..) (fun p hp hs => (H3.out.2.2.1.has p).2 ⟨p, rfl, hp, hs⟩)]
        exact H4.out.2
      case round =>
        obtain ⟨left, hrg, hTj⟩ := hrel
        go_wp2_with
          (at_next
           refine wpList_next_ranges_ii (H := Value) _ rfl _ rfl 3 3 .i64 .i64 keyInt Tryz.underlying3 Tryz.underlying3 mb w3.heap.size _ _ _ _ rfl hrg.out ?_ ?_)
        · intro hc0 hl0
          have hTe := hTj.out
          rw [show l.length = (rws l).length by simp [rws], midT_end (by have := HK.out.2; simp [rws]; omega) hl0] at hTe
          have HTE := Lib.hid hTe
          clear hTe hc0 hl0
          go_wp2
          go_roundg gg
          case measure => omega
          case rel => exact ⟨k + 1, by omega, by go_num, HTE.out⟩
        · intro x c w5 cnt5 hwx hwc hlx hat hrg5 hlt hg5 hs5 hen
          obtain ⟨p, rfl, hp, hps⟩ := (H3.out.2.2.1.has x).1 (Maps.has_true_of_atKey hat)
          have hp4 : p < 4 := by have := HK.out.2.2; omega
          have hpz : (p : Int) < 4 := by omega
          have hp0 : (0 : Int) ≤ p := by omega
          have hT5 := hTj.out.grown hg5 (by have := H3.out.2.2.2.sz; omega)
          have hst := midT_step (T := timesL t (rws l) h k) (f := fun q => firstB (hitB t.water (t.lo + k) t.need (t.borax, rws l) q) (h + 1)) hp4 hp hps hlx
          have hat4 := midT_at (timesL t (rws l) h k) l.length (fun q => firstB (hitB t.water (t.lo + k) t.need (t.borax, rws l) q) (h + 1)) left hp4
          have htl := timesL_at t (rws l) h k (p := p) (by rw [HK.out.2.1]; exact hp) hp4
          have hcl := cntS_le (fun s => inS t (rws l) h s p) t.lo k
          have hbd : 0 ≤ (midT (timesL t (rws l) h k) l.length (fun q => firstB (hitB t.water (t.lo + k) t.need (t.borax, rws l) q) (h + 1)) left)[p]?.getD 0 ∧ (midT (timesL t (rws l) h k) l.length (fun q => firstB (hitB t.water (t.lo + k) t.need (t.borax, rws l) q) (h + 1)) left)[p]?.getD 0 ≤ 1000 := by
            rw [hat4, htl]
            split <;> omega
          generalize hMM : midT (timesL t (rws l) h k) l.length (fun q => firstB (hitB t.water (t.lo + k) t.need (t.borax, rws l) q) (h + 1)) left = M at hT5 hst hbd
          have hM4 : p < (ints M).length := by rw [← hMM]; simp [ints, midT]; omega
          have hcx := (cell_of_row w5 (w.heap.size + 1) p _ _ _ hT5.b1).trans (ints_at M p (by simpa [ints] using hM4))
          rw [← HS1.out] at hcx
          generalize hmp : M[p]?.getD 0 = mp at hcx hst hbd
          have HST := Lib.hid hst
          have HM4 := Lib.hid hM4
          have H5 := Lib.hid (And.intro hT5 hrg5)
          have hlt5 := hlt
          clear hst hM4 hT5 hrg5 hMM hmp hat4 htl hcl hat hlx hwx hwc hg5 hs5 hps hlt hrg
          obtain ⟨hb0, hb1⟩ := hbd
          go_wp2_with
            (show wpList _ _ _ (Oper.mk none (Op.store _ (Operand.tmp 35) (Operand.tmp 34)) _ _ _ _ :: _) _ _
             refine wpList_store_one 3 (.tmp 35) (.tmp 34) rfl rfl rfl rfl rfl (by rw [HS1.out]; exact H5.out.1.b1) HM4.out sizeInt1 ?_
             intro w6 hP6 hM6
             rw [HS1.out] at hP6 hM6
             rw [← ints_setL, HST.out] at hM6
             have hT6 := H5.out.1.put hP6 hM6
             have hrg6 := H5.out.2.kept hP6.grown (by have := H3.out.1; have := hT.out.sz; simp; omega) (by have := H3.out.2.2.2.sz; simp; omega)
             have H6 := Lib.hid (And.intro hT6 hrg6)
             clear hP6 hM6 hT6 hrg6 hcx)
          go_roundg cnt5
          case measure => omega
          case rel => exact ⟨_, H6.out.2, H6.out.1⟩

end Go.Proofs.YtpnnlmaipcjkmaaGreat

namespace Go.Proofs.YtpnnlmaipcjkmaaGreat
open Go.RowKit Go.Shelf

structure MidM (f : Nat → Option Nat) (n m0 : Nat) (left : Lit → Bool) (m : Nat) : Prop where
  lo : m0 ≤ m
  up : ∀ q k : Nat, q < n → f q = some k → left (.int .i64 (q : Int)) = false → k ≤ m
  le : m ≤ mxF f n m0
theorem MidM.step {f : Nat → Option Nat} {n m0 m q c : Nat} {left : Lit → Bool} (h : MidM f n m0 left m) (hq : q < n) (hc : f q = some c) : MidM f n m0 (fun z => left z && !z.sameKey (.int .i64 (q : Int))) (max m c) := by
  refine ⟨by have := h.lo; omega, fun p k hp hk hl => ?_, by have := h.le; have := mxF_up f n m0 q c hq hc; omega⟩
  by_cases e : p = q
  · subst e
    rw [hc] at hk
    injection hk with hk
    omega
  · have hs : Lit.sameKey (.int .i64 (p : Int)) (.int .i64 (q : Int)) = false := Maps.sameKey_ne (fun h => e (by injection h with _ h; omega))
    simp only [hs, Bool.not_false, Bool.and_true] at hl
    have := h.up p k hp hk hl
    omega
structure RdyC (w : World) (V : List Value) (W : World) : Prop where
  bel : Below w.heap.size w W
  sz : w.heap.size + 1 ≤ W.heap.size
  b0 : W.heap[w.heap.size]? = some (.cells V.toArray 152 (0, 0))
theorem RdyC.next {w W W' : World} {V : List Value} (h : RdyC w V W) {b : Nat} (hb : Below b W W') (hle : w.heap.size + 1 ≤ b) : RdyC w V W' :=
  ⟨h.bel.trans (below_low hb (by omega)), Nat.le_trans h.sz hb.size, (hb.block _ (by omega)).trans h.b0⟩
theorem RdyC.grown {w W W' : World} {V : List Value} (h : RdyC w V W) {r : Nat} (hg : W.grownBy W' (some r)) (hr : w.heap.size + 1 ≤ r) : RdyC w V W' :=
  ⟨h.bel.grown hg h.bel.size (fun k e => by cases e; omega), Nat.le_trans h.sz hg.size, (hg.block _ (by have := h.sz; omega) (by simp; omega)).trans h.b0⟩

end Go.Proofs.YtpnnlmaipcjkmaaGreat

namespace Go.Proofs.YtpnnlmaipcjkmaaGreat
open Go.RowKit Go.Shelf

def TrePost (w : World) (t : Bt) (ws : List (List Int)) (h : Int) (e : Ending) (w' : World) : Prop :=
  ∃ A c, e = .returned (.tuple #[.slice A (treatL t ws h).length c, .int .i64 (treatE t ws h)]) ∧ OwnU w' w.heap.size (.slice A (treatL t ws h).length c) (treatL t ws h) ∧ Below w.heap.size w w'
theorem ownU_nilC (W : World) (base : Nat) : OwnU W base (.slice none 0 0) [] := ⟨rfl, .inl ⟨rfl, rfl⟩⟩
theorem OwnU.less {W : World} {base base' : Nat} {v : Value} {zs : List Int} (h : OwnU W base v zs) (hb : base' ≤ base) : OwnU W base' v zs := by
  refine ⟨h.1, h.2.imp id ?_⟩
  rintro ⟨g, cap, cur, h1, h2, h3⟩
  exact ⟨g, cap, cur, h1, Nat.le_trans hb h2, h3⟩
theorem OwnU.grows {W W' : World} {base : Nat} {v : Value} {zs : List Int} (h : OwnU W base v zs) (hg : Grows W W') : OwnU W' base v zs := own_grows h hg

set_option maxRecDepth 100000 in
set_option maxHeartbeats 8000000 in
theorem cureTreated_bad (t : Bt) (A : Option Addr) (cap : Nat) (l : List Sl) (h : Int) (B : Nat) (w : World) (hB : B ≤ w.heap.size) (hz : Rows w B A l) (hl : shortL l) (hno : treatE t (rws l) h ≠ 0) :
    Calls Tryz.prog 87 #[.agg (btcells t (.slice A l.length cap)), .int .i64 h] w (TrePost w t (rws l) h) := by
  have hLL : treatL t (rws l) h = [] := by simp [treatL, hno]
  have hck := fun W (hW : Below w.heap.size w W) => check_any t A cap l B W (Nat.le_trans hB hW.size) (hz.below (hW.mono hB)) hl
  have hho := fun W => validHours_any h W
  cases hb : okBatch t (rws l) with
  | false =>
    have hE : treatE t (rws l) h = 40 := by simp [treatE, hb]
    simp only [checkE, hb, Bool.false_eq_true, if_false] at hck
    have HCK := Lib.hid hck
    have HR := Lib.hid (And.intro hE hLL)
    clear hck hE hLL hz hl hb hno hho
    unfold btcells at HCK ⊢
    go_enter Tryz.func87, Tryz.ntmps87
    go_wp2_with (go_at_call 68; refine (HCK.out _ (grow1 w _)).mono ?_; rintro e w1 ⟨rfl, hB1⟩; have H1 := Lib.hid ((grow1 w _).trans (hB1.mono (by simp))); clear hB1)
    go_ret2
    exact ⟨none, 0, by rw [HR.out.1, HR.out.2]; rfl, by rw [HR.out.2]; exact ownU_nilC _ _, H1.out⟩
  | true =>
    have hh : allB 0 300 [h] = false := by
      cases e : allB 0 300 [h] with
      | false => rfl
      | true => simp [treatE, hb, e] at hno
    have hE : treatE t (rws l) h = 2 := by simp [treatE, hb, hh]
    simp only [checkE, hb, if_true] at hck
    rw [hh] at hho
    have HCK := Lib.hid hck
    have HHO := Lib.hid hho
    have HR := Lib.hid (And.intro hE hLL)
    clear hck hE hLL hz hl hb hno hho hh
    unfold btcells at HCK ⊢
    go_enter Tryz.func87, Tryz.ntmps87
    go_wp2_with (first
      | (go_at_call 68; refine (HCK.out _ (grow1 w _)).mono ?_; rintro e w1 ⟨rfl, hB1⟩; have H1 := Lib.hid ((grow1 w _).trans (hB1.mono (by simp))); clear hB1)
      | (go_at_call 72; refine (HHO.out _).mono ?_; rintro e w3 ⟨rfl, hB3⟩; have H3 := Lib.hid (H1.out.trans (hB3.mono H1.out.size)); clear hB3))
    go_ret2
    exact ⟨none, 0, by rw [HR.out.1, HR.out.2]; rfl, by rw [HR.out.2]; exact ownU_nilC _ _, H3.out⟩

set_option maxRecDepth 100000 in
set_option maxHeartbeats 8000000 in
theorem cureTreated_ok (t : Bt) (A : Option Addr) (cap : Nat) (l : List Sl) (h : Nat) (B : Nat) (w : World) (hB : B ≤ w.heap.size) (hz : Rows w B A l) (hl : shortL l) (hb : okBatch t (rws l) = true) (hh : allB 0 300 [(h : Int)] = true) :
    Calls Tryz.prog 87 #[.agg (btcells t (.slice A l.length cap)), .int .i64 (h : Int)] w (TrePost w t (rws l) h) := by
  have hE : treatE t (rws l) h = 0 := by simp [treatE, hb, hh]
  have hLL : treatL t (rws l) h = knownL t (rws l) h := by simp [treatL, hE]
  obtain ⟨hg, g1, g2, g3, g4, -⟩ := okBatch_good hb
  have hh3 := allB_iff.1 hh
  have h4 : l.length ≤ 4 := by have := hg.n4; simpa [rws] using this
  have h6 : ∀ s ∈ l, 1 ≤ s.zs.length ∧ s.zs.length ≤ 6 := fun s hs => by
    have := hg.rows s.zs (by simp only [rws, List.mem_map]; exact ⟨s, hs, rfl⟩)
    exact ⟨this.l1, this.l6⟩
  have hck := fun W (hW : Below w.heap.size w W) => check_any t A cap l B W (Nat.le_trans hB hW.size) (hz.below (hW.mono hB)) hl
  simp only [checkE, hb, if_true] at hck
  have hho := fun W => validHours_any h W
  rw [hh] at hho
  have hat := fun W (hW : Below w.heap.size w W) => atWork_any t A cap l B W (Nat.le_trans hB hW.size) (hz.below (hW.mono hB)) h4 h6
  have htr := fun W (hW : Below w.heap.size w W) => treated_any t A cap l h B W (Nat.le_trans hB hW.size) (hz.below (hW.mono hB)) hb (by omega)
  unfold TreatPost at htr
  rw [← hLL] at htr
  generalize bs t (.slice A l.length cap) (t.borax, rws l) = V0 at hat htr
  have HF := Lib.hid (And.intro hck (And.intro hho (And.intro hat htr)))
  have HE := Lib.hid hE
  clear hck hLL hz hl hb hat htr hho hh hg g1 g2 g3 g4 hh3 h4 h6 hE
  have h0 : (w.alloc (.cells (btcells t (.slice A l.length cap)) 63)).heap[w.heap.size]? = _ := alloc_at0 _ _
  have HB0 := Lib.hid h0
  clear h0
  unfold btcells at HB0 HF ⊢
  go_enter Tryz.func87, Tryz.ntmps87
  go_wp2_with (first
    | (go_at_call 68; refine (HF.out.1 _ (grow1 w _)).mono ?_; rintro e w1 ⟨rfl, hB1⟩
       have hb1 := (hB1.block _ (by simp)).trans HB0.out
       have H1 := Lib.hid (And.intro ((grow1 w _).trans (hB1.mono (by simp))) hb1); clear hB1 hb1)
    | (go_at_call 72; refine (HF.out.2.1 _).mono ?_; rintro e w3 ⟨rfl, hB3⟩
       have hc3 := fun i => cell_of_row w3 w.heap.size i _ _ _ ((hB3.block _ (lt_of_heap H1.out.2)).trans H1.out.2)
       have H3 := Lib.hid (H1.out.1.trans (hB3.mono H1.out.1.size)); clear hB3)
    | (go_at_call 69; refine (HF.out.2.2.1 _ H3.out).mono ?_; rintro e w4 ⟨rfl, hB4⟩; have H4 := Lib.hid (H3.out.trans (hB4.mono H3.out.size)); clear hB4 hc3)
    | (go_at_call 131; refine (HF.out.2.2.2 _ H4.out).mono ?_; rintro e w5 ⟨A5, c5, rfl, hO5, hB5⟩; have H5 := Lib.hid (And.intro (hO5.less H4.out.size) (H4.out.trans (hB5.mono H4.out.size))); clear hB5 hO5))
  go_ret2
  exact ⟨A5, c5, by rw [HE.out]; rfl, H5.out.1, H5.out.2⟩

theorem cureTreated_any (t : Bt) (A : Option Addr) (cap : Nat) (l : List Sl) (h : Int) (B : Nat) (w : World) (hB : B ≤ w.heap.size) (hz : Rows w B A l) (hl : shortL l) :
    Calls Tryz.prog 87 #[.agg (btcells t (.slice A l.length cap)), .int .i64 h] w (TrePost w t (rws l) h) := by
  by_cases hE : treatE t (rws l) h = 0
  · have hb : okBatch t (rws l) = true := by
      cases hb : okBatch t (rws l) with
      | true => rfl
      | false => simp [treatE, hb] at hE
    have hh : allB 0 300 [h] = true := by
      cases hh : allB 0 300 [h] with
      | true => rfl
      | false => simp [treatE, hb, hh] at hE
    have h0 := allB_iff.1 hh
    obtain ⟨n, rfl⟩ : ∃ n : Nat, h = (n : Int) := ⟨h.toNat, by omega⟩
    exact cureTreated_ok t A cap l n B w hB hz hl hb hh
  · exact cureTreated_bad t A cap l h B w hB hz hl hE

end Go.Proofs.YtpnnlmaipcjkmaaGreat
