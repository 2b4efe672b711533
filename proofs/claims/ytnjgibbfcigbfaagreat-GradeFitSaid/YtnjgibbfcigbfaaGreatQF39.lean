import Derived.Test.YtnjgibbfcigbfaaGreatQF12
import Derived.Test.YtnjgibbfcigbfaaGreatQF14
import Derived.Maps.RangeWalk
import Derived.Test.YtnjgibbfcigbfaaGreatQF13
import Derived.Test.YtnjgibbfcigbfaaGreatQF38
set_option linter.all false
set_option maxRecDepth 100000
set_option maxHeartbeats 64000000
namespace Go.Proofs.YtnjgibbfcigbfaaGreat
open Go.RowKit Go.Shelf
def cntS (P : Int → Bool) (lo : Int) : Nat → Nat
 | 0 => 0
 | n + 1 => cntS P lo n + if P (lo + n) = true then 1 else 0
theorem zKc (P : Int → Bool) (lo : Int) : ∀ n, cntS P lo n ≤ n
 | 0 => Nat.le_refl _
 | n + 1 => by have := zKc P lo n; unfold cntS; split <;> omega
theorem zFk {P : Int → Bool} {lo : Int} : ∀ n, cntS P lo n = 0 ↔ ∀ i : Nat, i < n → P (lo + i) = false
 | 0 => by simp [cntS]
 | n + 1 => by
   unfold cntS
   constructor
   · intro h i hi; have h0 : cntS P lo n = 0 := by omega
     by_cases e : i = n
     · subst e; cases hP : P (lo + i) with
       | false => rfl
       | true => rw [hP] at h; simp at h
     · exact (zFk n).1 h0 i (by omega)
   · intro h; rw [(zFk n).2 (fun i hi => h i (by omega)), h n (by omega)]
     rfl
theorem zEb {P : Int → Bool} {lo : Int} : ∀ n, cntS P lo n = n ↔ ∀ i : Nat, i < n → P (lo + i) = true
 | 0 => by simp [cntS]
 | n + 1 => by
   have hl := zKc P lo n; unfold cntS
   constructor
   · intro h i hi
     by_cases hn : P (lo + n) = true
     · rw [if_pos hn] at h
       by_cases e : i = n
       · rw [e]; exact hn
       · exact (zEb n).1 (by omega) i (by omega)
     · rw [if_neg hn] at h; omega
   · intro h; rw [if_pos (h n (by omega)), (zEb n).2 (fun i hi => h i (by omega))]
def whenS (t : Bt) (ws : List (List Int)) (s : Int) (p : Nat) : Option Nat := firstB (hitB t.water s t.need (t.borax, ws) p) 301
def inS (t : Bt) (ws : List (List Int)) (h : Nat) (s : Int) (p : Nat) : Bool := (firstB (hitB t.water s t.need (t.borax, ws) p) (h + 1)).isSome
theorem zR0 {g : Nat → Bool} {K h : Nat} (hh : h ≤ K) : (firstB g (h + 1)).isSome = true ↔ ∃ k, firstB g (K + 1) = some k ∧ k ≤ h := by
 constructor
 · intro e; obtain ⟨k, hk⟩ := Option.isSome_iff_exists.1 e; obtain ⟨a, b, c⟩ := zCb hk; exact ⟨k, zFc (by omega) b c, by omega⟩
 · rintro ⟨k, hk, hle⟩; obtain ⟨a, b, c⟩ := zCb hk; rw [zFc (K := h + 1) (by omega) b c]
   rfl
def spN (t : Bt) : Nat := (t.hi - t.lo + 1).toNat
def codeK (n c : Nat) : Int := if c = 0 then 0 else if c = n then 2 else 1
def knownL (t : Bt) (ws : List (List Int)) (h : Nat) : List Int := (List.range ws.length).map fun p => codeK (spN t) (cntS (fun s => inS t ws h s p) t.lo (spN t))
theorem zJc (t : Bt) (ws : List (List Int)) (h : Nat) : (knownL t ws h).length = ws.length := by simp [knownL]
theorem zR1 (n c : Nat) : 0 ≤ codeK n c ∧ codeK n c ≤ 2 := by unfold codeK; split <;> (try split) <;> omega
def treatE (t : Bt) (ws : List (List Int)) (h : Int) : Int := if zA6 t ws = true then (if allB 0 300 [h] = true then 0 else 2) else 40
def treatL (t : Bt) (ws : List (List Int)) (h : Int) : List Int := if treatE t ws h = 0 then knownL t ws h.toNat else []
def mxF (f : Nat → Option Nat) : Nat → Nat → Nat
 | 0, m => m
 | n + 1, m => max (mxF f n m) ((f n).getD 0)
theorem zR2 (f : Nat → Option Nat) : ∀ n m, m ≤ mxF f n m
 | 0, m => Nat.le_refl _
 | n + 1, m => by have := zR2 f n m; unfold mxF; omega
theorem zR3 (f : Nat → Option Nat) : ∀ n m q k, q < n → f q = some k → k ≤ mxF f n m
 | 0, m, q, k, h, _ => by omega
 | n + 1, m, q, k, h, hk => by
   unfold mxF
   by_cases e : q = n
   · subst e; rw [hk]; simp only [Option.getD_some]; omega
   · have := zR3 f n m q k (by omega) hk; omega
theorem zR4 (f : Nat → Option Nat) : ∀ n m M, m ≤ M → (∀ q k, q < n → f q = some k → k ≤ M) → mxF f n m ≤ M
 | 0, m, M, h, _ => h
 | n + 1, m, M, h, hq => by
   have h1 := zR4 f n m M h (fun q k hq' hk => hq q k (by omega) hk)
   unfold mxF; cases e : f n with
   | none => simp only [Option.getD_none]; omega
   | some k => have := hq n k (by omega) e; simp only [Option.getD_some]; omega
def maxS (t : Bt) (ws : List (List Int)) : Nat → Nat
 | 0 => 0
 | n + 1 => mxF (whenS t ws (t.lo + n)) ws.length (maxS t ws n)
def allS (t : Bt) (ws : List (List Int)) (s : Int) : Bool := (List.range ws.length).all fun p => (whenS t ws s p).isSome
theorem allS_iff {t : Bt} {ws : List (List Int)} {s : Int} : allS t ws s = true ↔ ∀ p, p < ws.length → (whenS t ws s p).isSome = true := by simp [allS]
def allN (t : Bt) (ws : List (List Int)) (n : Nat) : Bool := (List.range n).all fun (i : Nat) => allS t ws (t.lo + i)
theorem zR5 (t : Bt) (ws : List (List Int)) (n : Nat) : allN t ws (n + 1) = (allN t ws n && allS t ws (t.lo + n)) := by simp [allN, List.range_succ]
theorem zPx {t : Bt} {ws : List (List Int)} {n k : Nat} (h : allS t ws (t.lo + k) = false) (hk : k < n) : allN t ws n = false := by
 cases e : allN t ws n with
 | false => rfl
 | true =>
   have := List.all_eq_true.1 e k (List.mem_range.2 hk); rw [h] at this; cases this
theorem zOa {t : Bt} {ws : List (List Int)} {s : Int} {p k : Nat} (h : whenS t ws s p = some k) : k ≤ 300 := by have := (zCb h).1; omega
theorem zHu (t : Bt) (ws : List (List Int)) : ∀ n, maxS t ws n ≤ 300
 | 0 => by unfold maxS; omega
 | n + 1 => by
   unfold maxS; exact zR4 _ _ _ _ (zHu t ws n) (fun q k _ h => zOa h)
def readyE (t : Bt) (ws : List (List Int)) : Int := if zA6 t ws = true then (if allN t ws (spN t) = true then 0 else 6) else 40
def readyV (t : Bt) (ws : List (List Int)) : Nat := if readyE t ws = 0 then maxS t ws (spN t) else 0
section
variable {P : Program} {ops : Array Oper} {rest : List Oper} {op : Oper} {a : Act} {w : World} {Q : Exit → Act → World → Prop}
theorem zDd (ty : TypeId) (x y : Operand) (hgd : op.guard = none) (ho : op.op = .store ty x y) (hd : op.dst = none) {b o : Nat} (hx : a.eval x = .pointer (some ⟨b, o, none⟩)) {v : Value} (hy : a.eval y = v) (hv : v.cells = #[v]) (h1 : v.oneCell' = true)
 {L : List Value} {t : TypeId} (hb : w.heap[b]? = some (.cells L.toArray t (0, 0))) (hfit : o < L.length) (hty : (P.info? ty).map (·.size) = some 1)
 (h : ∀ w', Put w w' b → w'.heap[b]? = some (.cells (L.set o v).toArray t (0, 0)) → wpList P ops Q rest a w') : wpList P ops Q (op :: rest) a w := by
 refine wpList_plain hgd fun K hK => ?_
 have hrun := zBv (P := P) (v := v) hb hfit hv h1 hty; unfold Oper.wp execOp; simp only [ho, hx, hy, Sem.run_bind, Sem.run_pure, hrun, Result.andThen_ok]; refine hK _ _ ?_; rw [hd]; refine h _ (zBl b [v] o w) ?_
 have := heap_setCell_same w b o _ _ v hb
 rwa [zza] at this
end
def TreatPost (w : World) (zs : List Int) (e : Ending) (w' : World) : Prop :=
 ∃ A c, e = .returned (.slice A zs.length c) ∧ OwnU w' w.heap.size (.slice A zs.length c) zs ∧ Grows w w'
def timesL (t : Bt) (ws : List (List Int)) (h k : Nat) : List Int := (List.range 4).map fun p => if p < ws.length then ((cntS (fun s => inS t ws h s p) t.lo k : Nat) : Int) else 0
def midT (T : List Int) (n : Nat) (f : Nat → Option Nat) (left : Lit → Bool) : List Int := (List.range 4).map fun p => T[p]?.getD 0 + if p < n ∧ (f p).isSome = true ∧ left (.int .i64 (p : Int)) = false then 1 else 0
theorem zHa (T : List Int) (n : Nat) (f : Nat → Option Nat) (left : Lit → Bool) : (midT T n f left).length = 4 := by simp [midT]
theorem zGd (t : Bt) (ws : List (List Int)) (h k : Nat) : (timesL t ws h k).length = 4 := by simp [timesL]
theorem zFl (t : Bt) (ws : List (List Int)) (h k : Nat) {p : Nat} (hp : p < ws.length) (h4 : p < 4) : (timesL t ws h k)[p]?.getD 0 = ((cntS (fun s => inS t ws h s p) t.lo k : Nat) : Int) := by
 simp [timesL, List.getElem?_range h4, hp]
theorem zM6 (t : Bt) (ws : List (List Int)) (h : Nat) : timesL t ws h 0 = [0, 0, 0, 0] := by simp [timesL, cntS, List.range_succ]
theorem zGe (T : List Int) (n : Nat) (f : Nat → Option Nat) (left : Lit → Bool) {p : Nat} (h4 : p < 4) : (midT T n f left)[p]?.getD 0 = T[p]?.getD 0 + if p < n ∧ (f p).isSome = true ∧ left (.int .i64 (p : Int)) = false then 1 else 0 := by
 simp [midT, List.getElem?_range h4]
theorem zHv {a b : List Int} (ha : a.length = 4) (hb : b.length = 4) (h : ∀ p, p < 4 → a[p]?.getD 0 = b[p]?.getD 0) : a = b := by
 apply List.ext_getElem (by omega)
 intro i h1 h2
 have := h i (by omega)
 simpa [h1, h2] using this
theorem zPy {T : List Int} {n : Nat} {f : Nat → Option Nat} {left : Lit → Bool} (hT : T.length = 4) (h : ∀ p : Nat, p < n → (f p).isSome = true → left (.int .i64 (p : Int)) = true) : midT T n f left = T := by
 refine zHv (zHa ..) hT fun p hp => ?_
 rw [zGe T n f left hp, if_neg, Int.add_zero]; rintro ⟨h1, h2, h3⟩; rw [h p h1 h2] at h3; cases h3
theorem zR6 {T : List Int} {n q : Nat} {f : Nat → Option Nat} {left : Lit → Bool} (h4 : q < 4) (hq : q < n) (hf : (f q).isSome = true) (hl : left (.int .i64 (q : Int)) = true) :
 (midT T n f left).set q ((midT T n f left)[q]?.getD 0 + 1) = midT T n f (fun z => left z && !z.sameKey (.int .i64 (q : Int))) := by
 refine zHv (by simp [midT]) (zHa ..) fun p hp => ?_
 rw [zGe T n f _ hp]
 by_cases e : p = q
 · subst e; have hs : Lit.sameKey (.int .i64 (p : Int)) (.int .i64 (p : Int)) = true := by simp [Lit.sameKey]
   rw [List.getElem?_set_self (by rw [zHa]; exact hp), Option.getD_some, zGe T n f left hp, if_neg (by rw [hl]; simp), if_pos ⟨hq, hf, by rw [hs]; simp⟩]
   omega
 · have hs : Lit.sameKey (.int .i64 (p : Int)) (.int .i64 (q : Int)) = false := Maps.sameKey_ne (fun h => e (by injection h with _ h; omega))
   rw [List.getElem?_set_ne (by omega), zGe T n f left hp, hs]
   simp
theorem zUq {t : Bt} {ws : List (List Int)} {h k : Nat} {left : Lit → Bool} (_ : ws.length ≤ 4) (hl : ∀ z, left z = false) :
 midT (timesL t ws h k) ws.length (fun q => firstB (hitB t.water (t.lo + k) t.need (t.borax, ws) q) (h + 1)) left = timesL t ws h (k + 1) := by
 refine zHv (zHa ..) (zGd ..) fun p hp => ?_
 rw [zGe _ _ _ _ hp]
 by_cases hw : p < ws.length
 · rw [zFl t ws h k hw hp, zFl t ws h (k + 1) hw hp]
   show _ = (((cntS _ _ k + if inS t ws h (t.lo + k) p = true then 1 else 0 : Nat)) : Int); unfold inS; simp only [hw, hl, true_and, and_true]
   split <;> simp
 · rw [if_neg (by rintro ⟨h1, _⟩; exact hw h1)]
   simp [timesL, List.getElem?_range hp, hw]
structure TreC (w : World) (V : List Value) (T : List Int) (W : World) : Prop where
 bel : Grows w W
 sz : w.heap.size + 1 + 1 ≤ W.heap.size
 b0 : W.heap[w.heap.size]? = some (.cells V.toArray 152 (0, 0))
 b1 : W.heap[w.heap.size + 1]? = some (.cells (ints T).toArray 245 (0, 0))
section
variable {w W W' : World} {V : List Value} {T T' : List Int}
theorem TreC.next (h : TreC w V T W) {b : Nat} (hb : Below b W W') (hle : w.heap.size + 1 + 1 ≤ b) : TreC w V T W' :=
 ⟨h.bel.trans (zFa hb (by omega)), Nat.le_trans h.sz hb.size, (hb.block _ (by omega)).trans h.b0, (hb.block _ (by omega)).trans h.b1⟩
theorem TreC.grown (h : TreC w V T W) {r : Nat} (hg : W.grownBy W' (some r)) (hr : w.heap.size + 1 + 1 ≤ r) : TreC w V T W' :=
 ⟨h.bel.grown hg h.bel.size (fun k e => by cases e; omega), Nat.le_trans h.sz hg.size, (hg.block _ (by have := h.sz; omega) (by simp; omega)).trans h.b0, (hg.block _ (by have := h.sz; omega) (by simp; omega)).trans h.b1⟩
theorem TreC.put (h : TreC w V T W) (hp : Put W W' (w.heap.size + 1)) (hm : W'.heap[w.heap.size + 1]? = some (.cells (ints T').toArray 245 (0, 0))) : TreC w V T' W' :=
 ⟨h.bel.trans (hp.below (by omega)), by rw [hp.size]; exact h.sz, (hp.other _ (by omega)).trans h.b0, hm⟩
end
theorem zR7 (c : List Int) (k : Nat) (x : Int) : ints (c.set k x) = (ints c).set k (.int .i64 x) := by simp [ints, List.map_set]
theorem zM7 (t : Bt) (A : Option Addr) (cap : Nat) (l : List Sl) (h : Nat) (B : Nat) (w : World) (hB : B ≤ w.heap.size) (hz : Rows w B A l) (hb : zA6 t (rws l) = true) (h300 : h ≤ 300) :
 Calls Tryz.prog 131 #[.agg (bs t (.slice A l.length cap) (t.borax, rws l)).toArray, .int .i64 (h : Int)] w (TreatPost w (knownL t (rws l) h)) := by
 obtain ⟨hg, g1, g2, g3, g4, -⟩ := zCr hb; have hn4 : l.length ≤ 4 := by have := hg.n4; simpa [rws] using this
 have hrl : (rws l).length = l.length := by simp [rws]
 have hkl : (knownL t (rws l) h).length = l.length := by rw [zJc, hrl]
 have hre := fun (k : Nat) (hk : k < spN t) (W : World) (hW : Grows w W) =>
  zHh t A cap l (t.lo + k) (t.borax, rws l) h B W (Nat.le_trans hB hW.size) (hz.below (hW.mono hB)) (by omega) (by unfold spN at hk; omega) hg rfl h300
 unfold ReachPost at hre; obtain ⟨V, hV⟩ : ∃ V, V = bs t (.slice A l.length cap) (t.borax, rws l) := ⟨_, rfl⟩; have hV2 : V.toArray[2]? = some (.slice A l.length cap) := by rw [hV]; rfl
 have hV3 : V.toArray[3]? = some (.int .i64 t.lo) := by rw [hV]; rfl
 have hV4 : V.toArray[4]? = some (.int .i64 t.hi) := by rw [hV]; rfl
 have hlen : V.length = 30 := by rw [hV]; exact zE6 _ _ _ _
 rw [← hV] at hre ⊢; obtain ⟨w1, hw1⟩ : ∃ w1, w.alloc (.cells V.toArray 152) = w1 := ⟨_, rfl⟩; obtain ⟨w2, hw2⟩ : ∃ w2, w1.alloc (.cells #[.int .i64 0, .int .i64 0, .int .i64 0, .int .i64 0] 245) = w2 := ⟨_, rfl⟩
 have hT0 : TreC w V (timesL t (rws l) h 0) w2 := by
  rw [zM6]; subst hw1 hw2; exact ⟨((Below.refl _ w).alloc (Nat.le_refl _) _).alloc (by simp) _, by simp, zAp _ _ _, zAo _ _ _⟩
 have hs1 : w1.heap.size = w.heap.size + 1 := by rw [← hw1]; simp
 have hc2 := fun i => cell_of_row w2 w.heap.size i _ _ _ hT0.b0
 have hc3 := (hc2 3).trans hV3; obtain ⟨i0, hi, hz0, hz1, hz2⟩ := info_parts infoU8; have hmk := fun W => zEu (P := Tryz.prog) 34 5 i0 Tryz.underlying34 hi hz0 hz1 hz2 l.length (by omega) W
 have hspn : (spN t : Int) = t.hi - t.lo + 1 := by unfold spN; omega
 have hsp : spN t ≤ 250 := by unfold spN; omega
 have HV := zz4 hV2 hV3 hV4 hlen; have HRE := zzh hre; have HT0 := zzh hT0; have HK := zz3 hkl hrl hn4; have HS1 := zzh hs1; clear hV hV2 hV3 hV4 hlen hre hT0 hkl hrl hs1 hc2 hg hz hb hi hz0 hz1 hz2
 go_enter Tryz.func131, Tryz.ntmps131
 go_wp2
 go_loopg [6] (spN t) (fun gg s6 wx => ∃ k : Nat, k + gg = spN t ∧ s6 = .int .i64 (t.lo + k) ∧ Hid (TreC w V (timesL t (rws l) h k) wx))
 case atStart => exact ⟨0, by omega, by simp, HT0.out⟩
 case round =>
  obtain ⟨k, hkg, rfl, hT⟩ := hrel; clear hc3; have hcr := fun i => cell_of_row wr w.heap.size i _ _ _ hT.out.b0
  have hr2 := (hcr 2).trans HV.out.1; have hr3 := (hcr 3).trans HV.out.2.1; have hr4 := (hcr 4).trans HV.out.2.2.1; clear hcr; cases gk with
  | zero =>
    have hkn : ¬ t.lo + (k : Int) ≤ t.hi := by omega
    obtain rfl : k = spN t := by omega
    obtain ⟨w7, hw7⟩ : ∃ w7, wr.alloc (.cells (u8s (List.replicate l.length 0)).toArray 5) = w7 := ⟨_, rfl⟩; have hb7 : Grows wr w7 := by rw [← hw7]; exact grow1 _ _
    have hm7 : w7.heap[wr.heap.size]? = some (.cells (u8s (List.replicate l.length 0)).toArray 5 (0, 0)) := by rw [← hw7]; exact zAd _ _
    have hmk' := hmk wr; rw [hw7] at hmk'; obtain ⟨Z, hZ⟩ : ∃ Z, Z = knownL t (rws l) h := ⟨_, rfl⟩; have hZl : Z.length = l.length := by rw [hZ, HK.out.1]
    rw [← hZl, ← zGb] at hm7; have H7 := zz2 (hT.out.next hb7 hT.out.sz) hm7; have HZ := zz2 hZ hZl; have HB7 := zzh hb7; have HNW := zzh (show w.heap.size ≤ wr.heap.size from hT.out.bel.size)
    clear hb7 hm7 hmk hZ hZl hkg; go_wp2; clear hmk' hw7 hr2 hr3 hr4; obtain ⟨wo, rfl⟩ : ∃ wo : World, wo = wr := ⟨_, rfl⟩
    go_loopg [43] l.length (fun gh s43 wx => ∃ j : Nat, j + gh = l.length ∧ s43 = .int .i64 j ∧ Hid (TreC w V (timesL t (rws l) h (spN t)) wx) ∧ Hid (wx.heap[wo.heap.size]? = some (.cells (u8s (fillL Z j)).toArray 5 (0, 0))))
    case atStart => exact ⟨0, by omega, rfl, H7.out.1, H7.out.2⟩
    case round =>
     obtain ⟨j, hjg, rfl, hTj, hM⟩ := hrel; cases gk with
     | zero =>
       obtain rfl : j = l.length := by omega
       go_wp2; go_ret
       have hMe := hM.out; rw [← HZ.out.2, zHq] at hMe; have hZe := HZ.out.1; subst hZe; refine ⟨some ⟨wo.heap.size, 0, none⟩, l.length, by rw [HK.out.1]; rfl, ?_, hTj.out.bel⟩
       refine ⟨by simp [u8s], .inr ⟨wo.heap.size, l.length, (u8s (knownL t (rws l) h)).toArray, by rw [HK.out.1], HNW.out, hMe, by rw [HK.out.1]; exact Nat.le_refl _, by have := HK.out.2.2; simp only [maxLen]; omega, by simp [u8s, HK.out.1], by rw [List.toList_toArray, Nat.mul_one, List.take_of_length_le (by rw [zC1]; exact Nat.le_refl _)]⟩⟩
     | succ gh =>
       have hj : j < l.length := by omega
       have hjz : (j : Int) < l.length := by omega
       have hj4 : (j : Int) < 4 := by have := HK.out.2.2; omega
       have hj0 : (0 : Int) ≤ j := by omega
       have hjr : j < (rws l).length := by rw [HK.out.2.1]; exact hj
       have hcr := fun i => cell_of_row wr w.heap.size i _ _ _ hTj.out.b0
       have hr3 := (hcr 3).trans HV.out.2.1; have hr4 := (hcr 4).trans HV.out.2.2.1; have htl := zFl t (rws l) h (spN t) hjr (by omega)
       have hcx := (cell_of_row wr (w.heap.size + 1) j _ _ _ hTj.out.b1).trans (zEy _ j (by rw [zGd]; omega))
       rw [htl, ← HS1.out] at hcx
       have hset : (u8s (fillL Z j)).set j (.int .u8 (codeK (spN t) (cntS (fun s => inS t (rws l) h s j) t.lo (spN t)))) = u8s (fillL Z (j + 1)) := by
        have e : codeK (spN t) (cntS (fun s => inS t (rws l) h s j) t.lo (spN t)) = Z[j]'(by rw [HZ.out.2]; exact hj) := by
         have := HZ.out.1; subst this; simp [knownL]
        rw [e, zJ9, zD5]
       have hfl : (u8s (fillL Z j)).length = l.length := by rw [zC1, zFj Z (by rw [HZ.out.2]; omega), HZ.out.2]
       have hcle := zKc (fun s => inS t (rws l) h s j) t.lo (spN t)
       generalize cntS (fun s => inS t (rws l) h s j) t.lo (spN t) = c at hcx hset hcle
       have HFL := zzh hfl; have HM := zzh hM.out; clear hcr htl hfl hjr
       by_cases hc0 : c = 0
       · subst hc0; rw [show codeK (spN t) 0 = 0 by simp [codeK]] at hset
         have HSET := zzh hset; rw [Int.natCast_zero] at hcx; clear hset hcle
         go_wp2_with
          (show wpList _ _ _ (Oper.mk none (Op.store _ (Operand.tmp 56) _) _ _ _ _ :: _) _ _
           refine zDd 5 (.tmp 56) (.const (.int .u8 0)) (v := .int .u8 0) rfl rfl rfl rfl rfl rfl rfl HM.out (by rw [HFL.out]; omega) sizeU8 ?_
           intro w8 hP8 hM8; rw [HSET.out] at hM8; have hT8 := hTj.out.next (hP8.below (Nat.le_refl _)) hT.out.sz; have H8 := zz2 hT8 hM8; clear hP8 hM8 hT8)
         go_roundg gh
         case measure => omega
         case rel => exact ⟨j + 1, by omega, by go_num, H8.out.1, H8.out.2⟩
       · by_cases hcn : c = spN t
         · have hq : codeK (spN t) c = 2 := by rw [codeK, if_neg hc0, if_pos hcn]
           rw [hq] at hset; rw [hcn, hspn] at hcx; have hne : ¬ t.hi - t.lo + 1 = 0 := by omega
           have HSET := zzh hset; clear hset hcle hc0 hcn hq
           go_wp2_with
            (show wpList _ _ _ (Oper.mk none (Op.store _ (Operand.tmp 71) _) _ _ _ _ :: _) _ _
             refine zDd 5 (.tmp 71) (.const (.int .u8 2)) (v := .int .u8 2) rfl rfl rfl rfl rfl rfl rfl HM.out (by rw [HFL.out]; omega) sizeU8 ?_
             intro w8 hP8 hM8; rw [HSET.out] at hM8; have hT8 := hTj.out.next (hP8.below (Nat.le_refl _)) hT.out.sz; have H8 := zz2 hT8 hM8; clear hP8 hM8 hT8)
           go_roundg gh
           case measure => omega
           case rel => exact ⟨j + 1, by omega, by go_num, H8.out.1, H8.out.2⟩
         · have hq : codeK (spN t) c = 1 := by rw [codeK, if_neg hc0, if_neg hcn]
           rw [hq] at hset; have hne1 : ¬ (c : Int) = 0 := by omega
           have hne2 : ¬ (c : Int) = t.hi - t.lo + 1 := by omega
           have hc9 : (c : Int) ≤ 250 := by omega
           have HSET := zzh hset; clear hset hcle hc0 hcn hq
           go_wp2_with
            (show wpList _ _ _ (Oper.mk none (Op.store _ (Operand.tmp 51) _) _ _ _ _ :: _) _ _
             refine zDd 5 (.tmp 51) (.const (.int .u8 1)) (v := .int .u8 1) rfl rfl rfl rfl rfl rfl rfl HM.out (by rw [HFL.out]; omega) sizeU8 ?_
             intro w8 hP8 hM8; rw [HSET.out] at hM8; have hT8 := hTj.out.next (hP8.below (Nat.le_refl _)) hT.out.sz; have H8 := zz2 hT8 hM8; clear hP8 hM8 hT8)
           go_roundg gh
           case measure => omega
           case rel => exact ⟨j + 1, by omega, by go_num, H8.out.1, H8.out.2⟩
  | succ gg =>
    have hkz : t.lo + (k : Int) ≤ t.hi := by omega
    have hkn : k < spN t := by omega
    have hk250 : (k : Int) < 250 := by omega
    go_wp2_with (first
     | (refine zAc 152 (.tmp 2) rfl rfl rfl hT.out.b0 V (fun j v hj => by rw [Nat.zero_add, List.getElem?_toArray]; exact hj) (by rw [HV.out.2.2.2]; exact zAz) ?_)
     | (go_at_call 116; refine (HRE.out k hkn wr hT.out.bel).mono ?_; rintro e w3 ⟨mb, rfl, hmb, ⟨D, hOw, hMI⟩, hB3⟩; have hT3 := hT.out.next hB3 hT.out.sz; have H3 := zz4 hmb hOw hMI hT3; clear hmb hOw hMI hT3 hB3 hr2 hr3 hr4)
     | (at_range
        refine wpList_range_own (H := Value) _ rfl _ 79 rfl 3 3 keyInt Tryz.underlying79 _ mb _ D rfl H3.out.2.1 ?_; intro w0 hrg0 hg0 hs0; have hT4 : TreC w V (timesL t (rws l) h k) w0 := H3.out.2.2.2.grown (r := w3.heap.size) (hg0.but _) (by have := H3.out.2.2.2.sz; omega)
        have H4 := zz2 hrg0 hT4; clear hrg0 hg0 hs0 hT4))
    go_frame
    obtain ⟨wo, rfl⟩ : ∃ wo : World, wo = wr := ⟨_, rfl⟩
    go_loopg [7] (Maps.size D) (fun gh s7 wx => ∃ left : Lit → Bool, Hid (wx.ranges Tryz.prog 3 (plainElem Tryz.prog 3) mb w3.heap.size (Maps.size D) D left gh) ∧ Hid (TreC w V (midT (timesL t (rws l) h k) l.length (fun q => firstB (hitB t.water (t.lo + k) t.need (t.borax, rws l) q) (h + 1)) left) wx))
    case atStart =>
     refine ⟨_, H4.out.1, ?_⟩
     show TreC _ _ _ _; rw [zPy (zGd ..) (fun p hp hs => (H3.out.2.2.1.has p).2 ⟨p, rfl, hp, hs⟩)]
     exact H4.out.2
    case round =>
     obtain ⟨left, hrg, hTj⟩ := hrel
     go_wp2_with
      (at_next
       refine wpList_next_ranges_ii (H := Value) _ rfl _ rfl 3 3 .i64 .i64 keyInt Tryz.underlying3 Tryz.underlying3 mb w3.heap.size _ _ _ _ rfl hrg.out ?_ ?_)
     · intro hc0 hl0; have hTe := hTj.out; rw [show l.length = (rws l).length by simp [rws], zUq (by have := HK.out.2; simp [rws]; omega) hl0] at hTe
       have HTE := zzh hTe; clear hTe hc0 hl0; go_wp2
       go_roundg gg
       case measure => omega
       case rel => exact ⟨k + 1, by omega, by go_num, HTE.out⟩
     · intro x c w5 cnt5 hwx hwc hlx hat hrg5 hlt hg5 hs5 hen; obtain ⟨p, rfl, hp, hps⟩ := (H3.out.2.2.1.has x).1 (Maps.has_true_of_atKey hat); have hp4 : p < 4 := by have := HK.out.2.2; omega
       have hpz : (p : Int) < 4 := by omega
       have hp0 : (0 : Int) ≤ p := by omega
       have hT5 := hTj.out.grown hg5 (by have := H3.out.2.2.2.sz; omega)
       have hst := zR6 (T := timesL t (rws l) h k) (f := fun q => firstB (hitB t.water (t.lo + k) t.need (t.borax, rws l) q) (h + 1)) hp4 hp hps hlx
       have hat4 := zGe (timesL t (rws l) h k) l.length (fun q => firstB (hitB t.water (t.lo + k) t.need (t.borax, rws l) q) (h + 1)) left hp4
       have htl := zFl t (rws l) h k (p := p) (by rw [HK.out.2.1]; exact hp) hp4
       have hcl := zKc (fun s => inS t (rws l) h s p) t.lo k
       have hbd : 0 ≤ (midT (timesL t (rws l) h k) l.length (fun q => firstB (hitB t.water (t.lo + k) t.need (t.borax, rws l) q) (h + 1)) left)[p]?.getD 0 ∧ (midT (timesL t (rws l) h k) l.length (fun q => firstB (hitB t.water (t.lo + k) t.need (t.borax, rws l) q) (h + 1)) left)[p]?.getD 0 ≤ 1000 := by
        rw [hat4, htl]
        split <;> omega
       generalize hMM : midT (timesL t (rws l) h k) l.length (fun q => firstB (hitB t.water (t.lo + k) t.need (t.borax, rws l) q) (h + 1)) left = M at hT5 hst hbd
       have hM4 : p < (ints M).length := by rw [← hMM]; simp [ints, midT]; omega
       have hcx := (cell_of_row w5 (w.heap.size + 1) p _ _ _ hT5.b1).trans (zEy M p (by simpa [ints] using hM4))
       rw [← HS1.out] at hcx; generalize hmp : M[p]?.getD 0 = mp at hcx hst hbd; have HST := zzh hst; have HM4 := zzh hM4; have H5 := zz2 hT5 hrg5; have hlt5 := hlt; clear hst hM4 hT5 hrg5 hMM hmp hat4 htl hcl hat hlx hwx hwc hg5 hs5 hps hlt hrg; obtain ⟨hb0, hb1⟩ := hbd
       go_wp2_with
        (show wpList _ _ _ (Oper.mk none (Op.store _ (Operand.tmp 35) (Operand.tmp 34)) _ _ _ _ :: _) _ _
         refine zCt 3 (.tmp 35) (.tmp 34) rfl rfl rfl rfl rfl (by rw [HS1.out]; exact H5.out.1.b1) HM4.out zG6 ?_
         intro w6 hP6 hM6; rw [HS1.out] at hP6 hM6; rw [← zR7, HST.out] at hM6; have hT6 := H5.out.1.put hP6 hM6; have hrg6 := H5.out.2.kept hP6.grown (by have := H3.out.1; have := hT.out.sz; simp; omega) (by have := H3.out.2.2.2.sz; simp; omega)
         have H6 := zz2 hT6 hrg6; clear hP6 hM6 hT6 hrg6 hcx)
       go_roundg cnt5
       case measure => omega
       case rel => exact ⟨_, H6.out.2, H6.out.1⟩
structure MidM (f : Nat → Option Nat) (n m0 : Nat) (left : Lit → Bool) (m : Nat) : Prop where
 lo : m0 ≤ m
 up : ∀ q k : Nat, q < n → f q = some k → left (.int .i64 (q : Int)) = false → k ≤ m
 le : m ≤ mxF f n m0
theorem MidM.end_ {f : Nat → Option Nat} {n m0 m : Nat} {left : Lit → Bool} (h : MidM f n m0 left m) (hl : ∀ z, left z = false) : m = mxF f n m0 :=
 Nat.le_antisymm h.le (zR4 f n m0 m h.lo fun q k hq hk => h.up q k hq hk (hl _))
theorem MidM.step {f : Nat → Option Nat} {n m0 m q c : Nat} {left : Lit → Bool} (h : MidM f n m0 left m) (hq : q < n) (hc : f q = some c) : MidM f n m0 (fun z => left z && !z.sameKey (.int .i64 (q : Int))) (max m c) := by
 refine ⟨by have := h.lo; omega, fun p k hp hk hl => ?_, by have := h.le; have := zR3 f n m0 q c hq hc; omega⟩
 by_cases e : p = q
 · subst e; rw [hc] at hk
   injection hk with hk
   omega
 · have hs : Lit.sameKey (.int .i64 (p : Int)) (.int .i64 (q : Int)) = false := Maps.sameKey_ne (fun h => e (by injection h with _ h; omega))
   simp only [hs, Bool.not_false, Bool.and_true] at hl
   have := h.up p k hp hk hl; omega
def rdV (t : Bt) (ws : List (List Int)) : Nat := if allN t ws (spN t) = true then maxS t ws (spN t) else 0
structure RdyC (w : World) (V : List Value) (W : World) : Prop where
 bel : Grows w W
 sz : w.heap.size + 1 ≤ W.heap.size
 b0 : W.heap[w.heap.size]? = some (.cells V.toArray 152 (0, 0))
theorem RdyC.next {w W W' : World} {V : List Value} (h : RdyC w V W) {b : Nat} (hb : Below b W W') (hle : w.heap.size + 1 ≤ b) : RdyC w V W' :=
 ⟨h.bel.trans (zFa hb (by omega)), Nat.le_trans h.sz hb.size, (hb.block _ (by omega)).trans h.b0⟩
theorem RdyC.grown {w W W' : World} {V : List Value} (h : RdyC w V W) {r : Nat} (hg : W.grownBy W' (some r)) (hr : w.heap.size + 1 ≤ r) : RdyC w V W' :=
 ⟨h.bel.grown hg h.bel.size (fun k e => by cases e; omega), Nat.le_trans h.sz hg.size, (hg.block _ (by have := h.sz; omega) (by simp; omega)).trans h.b0⟩
theorem zR8 (t : Bt) (A : Option Addr) (cap : Nat) (l : List Sl) (B : Nat) (w : World) (hB : B ≤ w.heap.size) (hz : Rows w B A l) (hb : zA6 t (rws l) = true) :
 Calls Tryz.prog 70 #[.agg (bs t (.slice A l.length cap) (t.borax, rws l)).toArray] w fun e w' =>
  e = .returned (.tuple #[.int .i64 (rdV t (rws l) : Nat), .bool (allN t (rws l) (spN t))]) ∧ Grows w w' := by
 obtain ⟨hg, g1, g2, g3, g4, -⟩ := zCr hb; have hn4 : l.length ≤ 4 := by have := hg.n4; simpa [rws] using this
 have hrl : (rws l).length = l.length := by simp [rws]
 have hre := fun (k : Nat) (hk : k < spN t) (W : World) (hW : Grows w W) =>
  zHh t A cap l (t.lo + k) (t.borax, rws l) 300 B W (Nat.le_trans hB hW.size) (hz.below (hW.mono hB)) (by omega) (by unfold spN at hk; omega) hg rfl (Nat.le_refl _)
 unfold ReachPost at hre; obtain ⟨V, hV⟩ : ∃ V, V = bs t (.slice A l.length cap) (t.borax, rws l) := ⟨_, rfl⟩; have hV2 : V.toArray[2]? = some (.slice A l.length cap) := by rw [hV]; rfl
 have hV3 : V.toArray[3]? = some (.int .i64 t.lo) := by rw [hV]; rfl
 have hV4 : V.toArray[4]? = some (.int .i64 t.hi) := by rw [hV]; rfl
 have hlen : V.length = 30 := by rw [hV]; exact zE6 _ _ _ _
 rw [← hV] at hre ⊢; obtain ⟨w1, hw1⟩ : ∃ w1, w.alloc (.cells V.toArray 152) = w1 := ⟨_, rfl⟩
 have hT0 : RdyC w V w1 := by
  subst hw1; exact ⟨(Below.refl _ w).alloc (Nat.le_refl _) _, by simp, zAd _ _⟩
 have hc2 := fun i => cell_of_row w1 w.heap.size i _ _ _ hT0.b0
 have hc3 := (hc2 3).trans hV3; have hspn : (spN t : Int) = t.hi - t.lo + 1 := by unfold spN; omega
 have hsp : spN t ≤ 250 := by unfold spN; omega
 have HV := zz4 hV2 hV3 hV4 hlen; have HRE := zzh hre; have HT0 := zzh hT0; have HK := zz2 hrl hn4; clear hV hV2 hV3 hV4 hlen hre hT0 hrl hc2 hg hz hb
 go_enter Tryz.func70, Tryz.ntmps70
 go_wp2
 go_loopg [2, 4] (spN t) (fun gg s2 s4 wx => ∃ k : Nat, k + gg = spN t ∧ s2 = .int .i64 ((maxS t (rws l) k : Nat) : Int) ∧ s4 = .int .i64 (t.lo + k) ∧ Hid (allN t (rws l) k = true) ∧ Hid (RdyC w V wx))
 case atStart => exact ⟨0, by omega, rfl, by simp, rfl, HT0.out⟩
 case round =>
  obtain ⟨k, hkg, rfl, rfl, hA, hT⟩ := hrel; clear hc3; have hcr := fun i => cell_of_row wr w.heap.size i _ _ _ hT.out.b0
  have hr2 := (hcr 2).trans HV.out.1; have hr3 := (hcr 3).trans HV.out.2.1; have hr4 := (hcr 4).trans HV.out.2.2.1; clear hcr; cases gk with
  | zero =>
    have hkn : ¬ t.lo + (k : Int) ≤ t.hi := by omega
    have hke : k = spN t := by omega
    have HKE := zzh hke; clear hke; go_wp2; go_ret2
    have hA := hA.out; rw [HKE.out] at hA ⊢; exact ⟨by rw [hA, rdV, if_pos hA]; rfl, hT.out.bel⟩
  | succ gg =>
    have hkz : t.lo + (k : Int) ≤ t.hi := by omega
    have hkn : k < spN t := by omega
    have hk250 : (k : Int) < 250 := by omega
    have hfall : allS t (rws l) (t.lo + k) = true ↔ cntFC (whenS t (rws l) (t.lo + k)) l.length = l.length := by
     rw [allS_iff, zDg, HK.out.1]
    have hfs := zR5 t (rws l) k; rw [hA.out, Bool.true_and] at hfs; cases hall : allS t (rws l) (t.lo + k) with
    | false =>
      have hlt : cntFC (whenS t (rws l) (t.lo + k)) l.length < l.length := by
       have h1 := zFd (whenS t (rws l) (t.lo + k)) l.length; rcases Nat.lt_or_ge (cntFC (whenS t (rws l) (t.lo + k)) l.length) l.length with h | h
       · exact h
       · rw [hfall.2 (by omega)] at hall; cases hall
      have hno := zPx hall hkn; have HNO := zz2 hlt hno; clear hlt hno hall hfs hfall
      go_wp2_with (first
       | (refine zAc 152 (.tmp 1) rfl rfl rfl hT.out.b0 V (fun j v hj => by rw [Nat.zero_add, List.getElem?_toArray]; exact hj) (by rw [HV.out.2.2.2]; exact zAz) ?_)
       | (go_at_call 116; refine (HRE.out k hkn wr hT.out.bel).mono ?_; rintro e w3 ⟨mb, rfl, hmb, ⟨D, hOw, hMI⟩, hB3⟩; have hT3 := hT.out.next hB3 hT.out.sz; have hsz := hMI.size; have h3r2 := (cell_of_row w3 w.heap.size 2 _ _ _ hT3.b0).trans HV.out.1; have H3 := zz4 hmb hOw hMI hT3; have hbx := hB3.size; have HBX := zzh hbx; have hlz : ((Maps.size D : Nat) : Int) < (l.length : Int) := by rw [hsz]; exact Int.ofNat_lt.2 HNO.out.1
          clear hmb hOw hMI hT3 hB3 hr2 hr3 hr4 hsz hbx)
       | (at_len
          refine wpList_len_own (H := Value) _ rfl _ 79 rfl 3 3 Tryz.underlying79 _ mb _ D rfl H3.out.2.1 ?_)
       | (at_range
          refine wpList_range_own (H := Value) _ rfl _ 79 rfl 3 3 keyInt Tryz.underlying79 _ mb _ D rfl H3.out.2.1 ?_; intro w0 hrg0 hg0 hs0; have hT4 : RdyC w V w0 := H3.out.2.2.2.grown (r := w3.heap.size) (hg0.but _) (by have := H3.out.2.2.2.sz; omega)
          have H4 := zz2 hrg0 hT4; clear hrg0 hg0 hs0 hT4))
      go_ret2
      exact ⟨by rw [HNO.out.2, rdV, if_neg (by rw [HNO.out.2]; decide)]; rfl, H3.out.2.2.2.bel⟩
    | true =>
      have hfe := hfall.1 hall; rw [hall] at hfs; have HFE := zz2 hfe hfs; clear hfe hfs hall hfall; have h300 := zHu t (rws l) k
      go_wp2_with (first
       | (refine zAc 152 (.tmp 1) rfl rfl rfl hT.out.b0 V (fun j v hj => by rw [Nat.zero_add, List.getElem?_toArray]; exact hj) (by rw [HV.out.2.2.2]; exact zAz) ?_)
       | (go_at_call 116; refine (HRE.out k hkn wr hT.out.bel).mono ?_; rintro e w3 ⟨mb, rfl, hmb, ⟨D, hOw, hMI⟩, hB3⟩; have hT3 := hT.out.next hB3 hT.out.sz; have hsz := hMI.size; have h3r2 := (cell_of_row w3 w.heap.size 2 _ _ _ hT3.b0).trans HV.out.1; have H3 := zz4 hmb hOw hMI hT3; have hbx := hB3.size; have HBX := zzh hbx; have hlz : ¬ Maps.size D < l.length := by rw [show Maps.size D = l.length from hsz.trans HFE.out.1]; exact Nat.lt_irrefl _
          clear hmb hOw hMI hT3 hB3 hr2 hr3 hr4 hsz hbx)
       | (at_len
          refine wpList_len_own (H := Value) _ rfl _ 79 rfl 3 3 Tryz.underlying79 _ mb _ D rfl H3.out.2.1 ?_)
       | (at_range
          refine wpList_range_own (H := Value) _ rfl _ 79 rfl 3 3 keyInt Tryz.underlying79 _ mb _ D rfl H3.out.2.1 ?_; intro w0 hrg0 hg0 hs0; have hT4 : RdyC w V w0 := H3.out.2.2.2.grown (r := w3.heap.size) (hg0.but _) (by have := H3.out.2.2.2.sz; omega)
          have H4 := zz2 hrg0 hT4; clear hrg0 hg0 hs0 hT4))
      go_frame
      obtain ⟨wo, rfl⟩ : ∃ wo : World, wo = wr := ⟨_, rfl⟩
      go_loopg [2, 7] (Maps.size D) (fun gh s2 s7 wx => ∃ (left : Lit → Bool) (m : Nat), s2 = .int .i64 (m : Int) ∧ m ≤ 300 ∧ Hid (MidM (whenS t (rws l) (t.lo + k)) l.length (maxS t (rws l) k) left m) ∧ Hid (wx.ranges Tryz.prog 3 (plainElem Tryz.prog 3) mb w3.heap.size (Maps.size D) D left gh) ∧ Hid (RdyC w V wx))
      case atStart =>
       refine ⟨_, maxS t (rws l) k, rfl, zHu _ _ _, ⟨Nat.le_refl _, fun q c hq hc hl => ?_, zR2 _ _ _⟩, H4.out.1, H4.out.2⟩
       have := (H3.out.2.2.1.has q).2 ⟨q, rfl, hq, by show (whenS t (rws l) (t.lo + k) q).isSome = true; rw [hc]; rfl⟩
       rw [this] at hl; cases hl
      case round =>
       obtain ⟨left, m, rfl, hm3, hMM, hrg, hTj⟩ := hrel
       go_wp2_with
        (at_next
         refine wpList_next_ranges_ii (H := Value) _ rfl _ rfl 3 3 .i64 .i64 keyInt Tryz.underlying3 Tryz.underlying3 mb w3.heap.size _ _ _ _ rfl hrg.out ?_ ?_)
       · intro hc0 hl0; have hme := hMM.out.end_ hl0; have hms : m = maxS t (rws l) (k + 1) := by rw [hme, ← HK.out.1]; rfl
         have HMS := zzh hms; clear hme hms hc0 hl0; go_wp2
         go_roundg gg
         case measure => omega
         case rel => exact ⟨k + 1, by omega, by rw [HMS.out], by go_num, HFE.out.2, hTj.out⟩
       · intro x c w5 cnt5 hwx hwc hlx hat hrg5 hlt hg5 hs5 hen; obtain ⟨p, rfl, hp, hps⟩ := (H3.out.2.2.1.has x).1 (Maps.has_true_of_atKey hat); obtain ⟨q, hq⟩ := Option.isSome_iff_exists.1 hps; have hcq := (hat .nil).symm.trans (H3.out.2.2.1.at_ p q hp hq .nil); simp only [DataW.lit.injEq, Lit.int.injEq, true_and] at hcq; subst hcq; have hq3 : q ≤ 300 := zOa (t := t) (ws := rws l) (s := t.lo + k) (p := p) hq; have hT5 := hTj.out.grown hg5 (by have := H3.out.2.2.2.sz; omega)
         have hM5 := hMM.out.step (q := p) (c := q) hp hq
         by_cases hmq : m < q
         · rw [show max m q = q by omega] at hM5
           have H5 := zz3 hT5 hrg5 hM5; have hlt5 := hlt; clear hT5 hrg5 hM5 hat hlx hwx hwc hg5 hs5 hps hlt hrg hq; go_wp2
           go_roundg cnt5
           case measure => omega
           case rel => exact ⟨_, q, by first | rfl | exact congrArg (Value.int IntKind.i64) (by omega), by omega, H5.out.2.2, H5.out.2.1, H5.out.1⟩
         · rw [show max m q = m by omega] at hM5
           have H5 := zz3 hT5 hrg5 hM5; have hlt5 := hlt; clear hT5 hrg5 hM5 hat hlx hwx hwc hg5 hs5 hps hlt hrg hq; go_wp2
           go_roundg cnt5
           case measure => omega
           case rel => exact ⟨_, m, by first | rfl | exact congrArg (Value.int IntKind.i64) (by omega), by omega, H5.out.2.2, H5.out.2.1, H5.out.1⟩
def TrePost (w : World) (t : Bt) (ws : List (List Int)) (h : Int) (e : Ending) (w' : World) : Prop :=
 ∃ A c, e = .returned (.tuple #[.slice A (treatL t ws h).length c, .int .i64 (treatE t ws h)]) ∧ OwnU w' w.heap.size (.slice A (treatL t ws h).length c) (treatL t ws h) ∧ Grows w w'
theorem zLo (W : World) (base : Nat) : OwnU W base (.slice none 0 0) [] := ⟨rfl, .inl ⟨rfl, rfl⟩⟩
theorem OwnU.less {W : World} {base base' : Nat} {v : Value} {zs : List Int} (h : OwnU W base v zs) (hb : base' ≤ base) : OwnU W base' v zs := by
 refine ⟨h.1, h.2.imp id ?_⟩; rintro ⟨g, cap, cur, h1, h2, h3⟩; exact ⟨g, cap, cur, h1, Nat.le_trans hb h2, h3⟩
theorem OwnU.grows {W W' : World} {base : Nat} {v : Value} {zs : List Int} (h : OwnU W base v zs) (hg : Grows W W') : OwnU W' base v zs := zBi h hg
theorem zHw (t : Bt) (A : Option Addr) (cap : Nat) (l : List Sl) (h : Int) (B : Nat) (w : World) (hB : B ≤ w.heap.size) (hz : Rows w B A l) (hl : shortL l) (hno : treatE t (rws l) h ≠ 0) :
 Calls Tryz.prog 87 #[.agg (zAt t (.slice A l.length cap)), .int .i64 h] w (TrePost w t (rws l) h) := by
 have hLL : treatL t (rws l) h = [] := by simp [treatL, hno]
 have hck := fun W (hW : Grows w W) => zCp t A cap l B W (Nat.le_trans hB hW.size) (hz.below (hW.mono hB)) hl
 have hho := fun W => zCn h W
 cases hb : zA6 t (rws l) with
 | false =>
   have hE : treatE t (rws l) h = 40 := by simp [treatE, hb]
   simp only [checkE, hb, Bool.false_eq_true, if_false] at hck; have HCK := zzh hck; have HR := zz2 hE hLL; clear hck hE hLL hz hl hb hno hho; unfold zAt at HCK ⊢
   go_enter Tryz.func87, Tryz.ntmps87
   go_wp2_with (go_at_call 68; refine (HCK.out _ (grow1 w _)).mono ?_; rintro e w1 ⟨rfl, hB1⟩; have H1 := zzh ((grow1 w _).trans (hB1.mono (by simp))); clear hB1)
   go_ret2
   exact ⟨none, 0, by rw [HR.out.1, HR.out.2]; rfl, by rw [HR.out.2]; exact zLo _ _, H1.out⟩
 | true =>
   have hh : allB 0 300 [h] = false := by
    cases e : allB 0 300 [h] with
    | false => rfl
    | true => simp [treatE, hb, e] at hno
   have hE : treatE t (rws l) h = 2 := by simp [treatE, hb, hh]
   simp only [checkE, hb, if_true] at hck; rw [hh] at hho; have HCK := zzh hck; have HHO := zzh hho; have HR := zz2 hE hLL; clear hck hE hLL hz hl hb hno hho hh; unfold zAt at HCK ⊢
   go_enter Tryz.func87, Tryz.ntmps87
   go_wp2_with (first
    | (go_at_call 68; refine (HCK.out _ (grow1 w _)).mono ?_; rintro e w1 ⟨rfl, hB1⟩; have H1 := zzh ((grow1 w _).trans (hB1.mono (by simp))); clear hB1)
    | (go_at_call 72; refine (HHO.out _).mono ?_; rintro e w3 ⟨rfl, hB3⟩; have H3 := zzh (H1.out.trans (hB3.mono H1.out.size)); clear hB3))
   go_ret2
   exact ⟨none, 0, by rw [HR.out.1, HR.out.2]; rfl, by rw [HR.out.2]; exact zLo _ _, H3.out⟩
theorem zIx (t : Bt) (A : Option Addr) (cap : Nat) (l : List Sl) (h : Nat) (B : Nat) (w : World) (hB : B ≤ w.heap.size) (hz : Rows w B A l) (hl : shortL l) (hb : zA6 t (rws l) = true) (hh : allB 0 300 [(h : Int)] = true) :
 Calls Tryz.prog 87 #[.agg (zAt t (.slice A l.length cap)), .int .i64 (h : Int)] w (TrePost w t (rws l) h) := by
 have hE : treatE t (rws l) h = 0 := by simp [treatE, hb, hh]
 have hLL : treatL t (rws l) h = knownL t (rws l) h := by simp [treatL, hE]
 obtain ⟨hg, g1, g2, g3, g4, -⟩ := zCr hb; have hh3 := allB_iff.1 hh; have h4 : l.length ≤ 4 := by have := hg.n4; simpa [rws] using this
 have h6 : ∀ s ∈ l, 1 ≤ s.zs.length ∧ s.zs.length ≤ 6 := fun s hs => by
  have := hg.rows s.zs (by simp only [rws, List.mem_map]; exact ⟨s, hs, rfl⟩)
  exact ⟨this.l1, this.l6⟩
 have hck := fun W (hW : Grows w W) => zCp t A cap l B W (Nat.le_trans hB hW.size) (hz.below (hW.mono hB)) hl
 simp only [checkE, hb, if_true] at hck; have hho := fun W => zCn h W
 rw [hh] at hho; have hat := fun W (hW : Grows w W) => zF6 t A cap l B W (Nat.le_trans hB hW.size) (hz.below (hW.mono hB)) h4 h6
 have htr := fun W (hW : Grows w W) => zM7 t A cap l h B W (Nat.le_trans hB hW.size) (hz.below (hW.mono hB)) hb (by omega)
 unfold TreatPost at htr; rw [← hLL] at htr; generalize bs t (.slice A l.length cap) (t.borax, rws l) = V0 at hat htr; have HF := zz4 hck hho hat htr; have HE := zzh hE; clear hck hLL hz hl hb hat htr hho hh hg g1 g2 g3 g4 hh3 h4 h6 hE; have h0 : (w.alloc (.cells (zAt t (.slice A l.length cap)) 63)).heap[w.heap.size]? = _ := zAd _ _; have HB0 := zzh h0; clear h0; unfold zAt at HB0 HF ⊢
 go_enter Tryz.func87, Tryz.ntmps87
 go_wp2_with (first
  | (go_at_call 68; refine (HF.out.1 _ (grow1 w _)).mono ?_; rintro e w1 ⟨rfl, hB1⟩; have hb1 := (hB1.block _ (by simp)).trans HB0.out
     have H1 := zz2 ((grow1 w _).trans (hB1.mono (by simp))) hb1; clear hB1 hb1)
  | (go_at_call 72; refine (HF.out.2.1 _).mono ?_; rintro e w3 ⟨rfl, hB3⟩; have hc3 := fun i => cell_of_row w3 w.heap.size i _ _ _ ((hB3.block _ (zAa H1.out.2)).trans H1.out.2)
     have H3 := zzh (H1.out.1.trans (hB3.mono H1.out.1.size)); clear hB3)
  | (go_at_call 69; refine (HF.out.2.2.1 _ H3.out).mono ?_; rintro e w4 ⟨rfl, hB4⟩; have H4 := zzh (H3.out.trans (hB4.mono H3.out.size)); clear hB4 hc3)
  | (go_at_call 131; refine (HF.out.2.2.2 _ H4.out).mono ?_; rintro e w5 ⟨A5, c5, rfl, hO5, hB5⟩; have H5 := zz2 (hO5.less H4.out.size) (H4.out.trans (hB5.mono H4.out.size)); clear hB5 hO5))
 go_ret2
 exact ⟨A5, c5, by rw [HE.out]; rfl, H5.out.1, H5.out.2⟩
theorem zHx (t : Bt) (A : Option Addr) (cap : Nat) (l : List Sl) (h : Int) (B : Nat) (w : World) (hB : B ≤ w.heap.size) (hz : Rows w B A l) (hl : shortL l) :
 Calls Tryz.prog 87 #[.agg (zAt t (.slice A l.length cap)), .int .i64 h] w (TrePost w t (rws l) h) := by
 by_cases hE : treatE t (rws l) h = 0
 · have hb : zA6 t (rws l) = true := by
    cases hb : zA6 t (rws l) with
    | true => rfl
    | false => simp [treatE, hb] at hE
   have hh : allB 0 300 [h] = true := by
    cases hh : allB 0 300 [h] with
    | true => rfl
    | false => simp [treatE, hb, hh] at hE
   have h0 := allB_iff.1 hh; obtain ⟨n, rfl⟩ : ∃ n : Nat, h = (n : Int) := ⟨h.toNat, by omega⟩
   exact zIx t A cap l n B w hB hz hl hb hh
 · exact zHw t A cap l h B w hB hz hl hE
def RedPost (w : World) (t : Bt) (ws : List (List Int)) (e : Ending) (w' : World) : Prop :=
 e = .returned (.tuple #[.int .i64 ((readyV t ws : Nat) : Int), .int .i64 (readyE t ws)]) ∧ Grows w w'
theorem zKd (t : Bt) (A : Option Addr) (cap : Nat) (l : List Sl) (B : Nat) (w : World) (hB : B ≤ w.heap.size) (hz : Rows w B A l) (hl : shortL l) (hb : zA6 t (rws l) = false) :
 Calls Tryz.prog 40 #[.agg (zAt t (.slice A l.length cap))] w (RedPost w t (rws l)) := by
 have hck := fun W (hW : Grows w W) => zCp t A cap l B W (Nat.le_trans hB hW.size) (hz.below (hW.mono hB)) hl
 have hE : readyE t (rws l) = 40 := by simp [readyE, hb]
 have hV : readyV t (rws l) = 0 := by simp [readyV, hE]
 simp only [checkE, hb, Bool.false_eq_true, if_false] at hck; have HCK := zzh hck; have HR := zz2 hE hV; clear hck hE hV hz hl hb; unfold zAt at HCK ⊢
 go_enter Tryz.func40, Tryz.ntmps40
 go_wp2_with (go_at_call 68; refine (HCK.out _ (grow1 w _)).mono ?_; rintro e w1 ⟨rfl, hB1⟩; have H1 := zzh ((grow1 w _).trans (hB1.mono (by simp))); clear hB1)
 go_ret2
 exact ⟨by rw [HR.out.1, HR.out.2]; rfl, H1.out⟩
theorem zLp (t : Bt) (A : Option Addr) (cap : Nat) (l : List Sl) (B : Nat) (w : World) (hB : B ≤ w.heap.size) (hz : Rows w B A l) (hl : shortL l) (hb : zA6 t (rws l) = true) :
 Calls Tryz.prog 40 #[.agg (zAt t (.slice A l.length cap))] w (RedPost w t (rws l)) := by
 obtain ⟨hg, g1, g2, g3, g4, -⟩ := zCr hb; have h4 : l.length ≤ 4 := by have := hg.n4; simpa [rws] using this
 have h6 : ∀ s ∈ l, 1 ≤ s.zs.length ∧ s.zs.length ≤ 6 := fun s hs => by
  have := hg.rows s.zs (by simp only [rws, List.mem_map]; exact ⟨s, hs, rfl⟩)
  exact ⟨this.l1, this.l6⟩
 have hck := fun W (hW : Grows w W) => zCp t A cap l B W (Nat.le_trans hB hW.size) (hz.below (hW.mono hB)) hl
 simp only [checkE, hb, if_true] at hck; have hat := fun W (hW : Grows w W) => zF6 t A cap l B W (Nat.le_trans hB hW.size) (hz.below (hW.mono hB)) h4 h6
 have htr := fun W (hW : Grows w W) => zR8 t A cap l B W (Nat.le_trans hB hW.size) (hz.below (hW.mono hB)) hb
 have hRE : readyE t (rws l) = if allN t (rws l) (spN t) = true then 0 else 6 := by simp [readyE, hb]
 have hRV : readyV t (rws l) = rdV t (rws l) := by
  unfold readyV rdV; rw [hRE]; cases allN t (rws l) (spN t) <;> rfl
 generalize rdV t (rws l) = rv at htr hRV; generalize bs t (.slice A l.length cap) (t.borax, rws l) = V0 at hat htr; have h0 : (w.alloc (.cells (zAt t (.slice A l.length cap)) 63)).heap[w.heap.size]? = _ := zAd _ _; have HB0 := zzh h0; have hrv0 : allN t (rws l) (spN t) = false → readyV t (rws l) = 0 := fun e => by simp [readyV, hRE, e]
 have HRV := zz2 hRV hrv0; cases hall : allN t (rws l) (spN t) <;> rw [hall] at htr hRE
 all_goals
  have HF := zz3 hck hat htr; have HE := zz2 hRE hall; clear hck hz hl hb hat htr hg g1 g2 g3 g4 h4 h6 hRE hRV hall h0 hrv0; unfold zAt at HB0 HF ⊢
  go_enter Tryz.func40, Tryz.ntmps40
  go_wp2_with (first
   | (go_at_call 68; refine (HF.out.1 _ (grow1 w _)).mono ?_; rintro e w1 ⟨rfl, hB1⟩; have hb1 := (hB1.block _ (by simp)).trans HB0.out
      have hc3 := fun i => cell_of_row w1 w.heap.size i _ _ _ hb1
      have H1 := zz2 ((grow1 w _).trans (hB1.mono (by simp))) hb1; clear hB1 hb1)
   | (go_at_call 69; refine (HF.out.2.1 _ H1.out.1).mono ?_; rintro e w4 ⟨rfl, hB4⟩; have H4 := zzh (H1.out.1.trans (hB4.mono H1.out.1.size)); clear hB4 hc3)
   | (go_at_call 70; refine (HF.out.2.2 _ H4.out).mono ?_; rintro e w5 ⟨rfl, hB5⟩; have H5 := zzh (H4.out.trans (hB5.mono H4.out.size)); clear hB5))
  go_ret2
 · exact ⟨by rw [HRV.out.2 HE.out.2, HE.out.1]; rfl, H5.out⟩
 · exact ⟨by rw [HRV.out.1, HE.out.1]; rfl, H5.out⟩
theorem zKe (t : Bt) (A : Option Addr) (cap : Nat) (l : List Sl) (B : Nat) (w : World) (hB : B ≤ w.heap.size) (hz : Rows w B A l) (hl : shortL l) :
 Calls Tryz.prog 40 #[.agg (zAt t (.slice A l.length cap))] w (RedPost w t (rws l)) := by
 cases hb : zA6 t (rws l) with
 | false => exact zKd t A cap l B w hB hz hl hb
 | true => exact zLp t A cap l B w hB hz hl hb
end Go.Proofs.YtnjgibbfcigbfaaGreat
