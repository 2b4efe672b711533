/-
  Plain: what Ready tells of each spread; what has been reached hour by hour; what the batch is as hours go by; contracts said of it.
-/
import Derived.Test.YtfampdiompjmeaaCfC
namespace Go.Proofs.Ytfampdiompjmeaa
open Go.RowKit Go.Shelf
open R6 (done done_ne done_me upd_ne upd_me)

attribute [local go_sem] gives


theorem mxF_mono (f : Nat → Option Nat) : ∀ n {m m' : Nat}, m ≤ m' → mxF f n m ≤ mxF f n m'
  | 0, _, _, h => h
  | n + 1, m, m', h => by have := mxF_mono f n h; unfold mxF; omega
theorem maxS_up (t : Bt) (ws : List (List Int)) : ∀ n i p k : Nat, i < n → p < ws.length → whenS t ws (t.lo + i) p = some k → k ≤ maxS t ws n
  | 0, i, _, _, h, _, _ => by omega
  | n + 1, i, p, k, h, hp, hk => by
    show k ≤ mxF (whenS t ws (t.lo + n)) ws.length (maxS t ws n)
    by_cases e : i = n
    · subst e
      exact mxF_up _ _ _ p k hp hk
    · have := maxS_up t ws n i p k (by omega) hp hk
      have := mxF_ge (whenS t ws (t.lo + n)) ws.length (maxS t ws n)
      omega
/-- The greatest is one of them, or nought. -/
theorem mxF_hit (f : Nat → Option Nat) : ∀ n m, mxF f n m = m ∨ ∃ q, q < n ∧ f q = some (mxF f n m)
  | 0, m => .inl rfl
  | n + 1, m => by
    show max (mxF f n m) ((f n).getD 0) = m ∨ _
    cases e : f n with
    | none =>
      have e0 : mxF f (n + 1) m = mxF f n m := by
        show max (mxF f n m) ((f n).getD 0) = _
        rw [e]; simp
      rcases mxF_hit f n m with h | ⟨q, hq, hf⟩
      · left; simp; exact h
      · right; exact ⟨q, by omega, by rw [e0]; exact hf⟩
    | some k =>
      simp only [Option.getD_some]
      by_cases hk : mxF f n m < k
      · right
        refine ⟨n, by omega, ?_⟩
        rw [e]
        show some k = some (max (mxF f n m) ((f n).getD 0))
        rw [e, Option.getD_some, show max (mxF f n m) k = k by omega]
      · have e0 : mxF f (n + 1) m = mxF f n m := by
          show max (mxF f n m) ((f n).getD 0) = _
          rw [e, Option.getD_some]; omega
        rcases mxF_hit f n m with h | ⟨q, hq, hf⟩
        · left; omega
        · right; exact ⟨q, by omega, by rw [e0]; exact hf⟩
theorem maxS_hit (t : Bt) (ws : List (List Int)) : ∀ n, maxS t ws n = 0 ∨ ∃ i p : Nat, i < n ∧ p < ws.length ∧ whenS t ws (t.lo + i) p = some (maxS t ws n)
  | 0 => .inl rfl
  | n + 1 => by
    have e : maxS t ws (n + 1) = mxF (whenS t ws (t.lo + n)) ws.length (maxS t ws n) := rfl
    rcases mxF_hit (whenS t ws (t.lo + n)) ws.length (maxS t ws n) with h | ⟨q, hq, hf⟩
    · rcases maxS_hit t ws n with h0 | ⟨i, p, hi, hp, hw⟩
      · left; rw [e, h, h0]
      · right; exact ⟨i, p, by omega, hp, by rw [e, h]; exact hw⟩
    · right; exact ⟨n, q, by omega, hq, by rw [e]; exact hf⟩

/-- What is known for sure is so at each spread. -/
theorem known_sure {t : Bt} {ws : List (List Int)} {h p : Nat} (hp : p < ws.length) (h0 : 0 < spN t) : (knownL t ws h)[p]?.getD 0 = 2 ↔ ∀ i : Nat, i < spN t → inS t ws h (t.lo + i) p = true := by
  have e : (knownL t ws h)[p]?.getD 0 = codeK (spN t) (cntS (fun s => inS t ws h s p) t.lo (spN t)) := by simp [knownL, List.getElem?_range hp]
  rw [e, ← cntS_all (P := fun s => inS t ws h s p)]
  have := cntS_le (fun s => inS t ws h s p) t.lo (spN t)
  unfold codeK
  constructor
  · intro h
    split at h
    · cases h
    · split at h
      · assumption
      · cases h
  · intro h
    rw [if_neg (by omega), if_pos h]
theorem inS_when {t : Bt} {ws : List (List Int)} {h : Nat} {s : Int} {p : Nat} (hh : h ≤ 300) : inS t ws h s p = true ↔ ∃ j, whenS t ws s p = some j ∧ j ≤ h := firstB_le hh

/-- What Ready has told, spelled out. -/
structure RdyIs (t : Bt) (ws : List (List Int)) (last : Nat) : Prop where
  le : last ≤ 300
  ok : readyE t ws = 0 ∨ readyE t ws = 6
  v : readyE t ws = 0 → readyV t ws = last
  v0 : readyE t ws = 6 → readyV t ws = 0 ∧ last = 300
  all : readyE t ws = 0 → ∀ i p : Nat, i < spN t → p < ws.length → inS t ws last (t.lo + i) p = true
  sure : readyE t ws = 0 → ∀ p : Nat, p < ws.length → (knownL t ws last)[p]?.getD 0 = 2
  open_ : readyE t ws = 6 → ∃ p : Nat, p < ws.length ∧ (knownL t ws last)[p]?.getD 0 ≠ 2
  less : readyE t ws = 0 → 0 < last → ∃ p : Nat, p < ws.length ∧ (knownL t ws (last - 1))[p]?.getD 0 ≠ 2
theorem rdyIs_of {t : Bt} {ws : List (List Int)} (hok : okBatch t ws = true) : ∃ last, RdyIs t ws last := by
  obtain ⟨hg, g1, g2, g3, g4, -⟩ := okBatch_good hok
  have h0 : 0 < spN t := by unfold spN; omega
  cases ha : allN t ws (spN t) with
  | true =>
    have hE : readyE t ws = 0 := by simp [readyE, hok, ha]
    have hV : readyV t ws = maxS t ws (spN t) := by simp [readyV, hE]
    have hle := maxS_le t ws (spN t)
    have hall : ∀ i p : Nat, i < spN t → p < ws.length → inS t ws (maxS t ws (spN t)) (t.lo + i) p = true := fun i p hi hp => by
      have h1 := List.all_eq_true.1 ha i (List.mem_range.2 hi)
      obtain ⟨k, hk⟩ := Option.isSome_iff_exists.1 (allS_iff.1 h1 p hp)
      exact (inS_when hle).2 ⟨k, hk, maxS_up t ws (spN t) i p k hi hp hk⟩
    refine ⟨maxS t ws (spN t), ⟨hle, .inl hE, fun _ => hV, fun e => absurd (hE.symm.trans e) (by decide), fun _ => hall, fun _ p hp => (known_sure hp h0).2 fun i hi => hall i p hi hp, fun e => absurd (hE.symm.trans e) (by decide), fun _ hpos => ?_⟩⟩
    rcases maxS_hit t ws (spN t) with e | ⟨i, p, hi, hp, hw⟩
    · omega
    · refine ⟨p, hp, fun e => ?_⟩
      obtain ⟨j, hj, hjl⟩ := (inS_when (by omega)).1 ((known_sure hp h0).1 e i hi)
      rw [hw] at hj
      injection hj with hj
      omega
  | false =>
    have hE : readyE t ws = 6 := by simp [readyE, hok, ha]
    have hV : readyV t ws = 0 := by simp [readyV, hE]
    refine ⟨300, ⟨Nat.le_refl _, .inr hE, fun e => absurd (hE.symm.trans e) (by decide), fun _ => ⟨hV, rfl⟩, fun e => absurd (hE.symm.trans e) (by decide), fun e => absurd (hE.symm.trans e) (by decide), fun _ => ?_, fun e => absurd (hE.symm.trans e) (by decide)⟩⟩
    obtain ⟨i, hi, hno⟩ : ∃ i : Nat, i < spN t ∧ allS t ws (t.lo + i) = false := by
      apply Classical.byContradiction
      intro hn
      have : allN t ws (spN t) = true := List.all_eq_true.2 fun i hi => by
        cases e : allS t ws (t.lo + i) with
        | true => rfl
        | false => exact absurd ⟨i, List.mem_range.1 hi, e⟩ hn
      rw [ha] at this; cases this
    obtain ⟨p, hp, hw⟩ : ∃ p : Nat, p < ws.length ∧ whenS t ws (t.lo + i) p = none := by
      apply Classical.byContradiction
      intro hn
      have : allS t ws (t.lo + i) = true := allS_iff.2 fun p hp => by
        cases e : whenS t ws (t.lo + i) p with
        | some _ => rfl
        | none => exact absurd ⟨p, hp, e⟩ hn
      rw [hno] at this; cases this
    refine ⟨p, hp, fun e => ?_⟩
    obtain ⟨j, hj, _⟩ := (inS_when (Nat.le_refl _)).1 ((known_sure hp h0).1 e i hi)
    rw [hw] at hj
    cases hj


def bls (zs : List Bool) : List Value := zs.map Value.bool
theorem bls_len (zs : List Bool) : (bls zs).length = zs.length := by simp [bls]
theorem bls_set (zs : List Bool) (k : Nat) (b : Bool) : (bls zs).set k (.bool b) = bls (zs.set k b) := by simp [bls, List.map_set]
theorem bls_at (zs : List Bool) {k : Nat} (hk : k < zs.length) : (bls zs).toArray[k]? = some (.bool (zs[k]?.getD false)) := by simp [bls, hk]
theorem infoBool : (Try.prog.info? 4).map (fun i => (i.zero, i.size, i.bytes)) = some (some (.bool false), 1, 1) := by kernel_rfl
theorem sizeBool : (Try.prog.info? 4).map (·.size) = some 1 := by kernel_rfl
theorem run_make_bool {P : Program} (t e : TypeId) (i : TypeInfo) (ht : P.underlying t = some (.slice e)) (hi : P.info? e = some i) (hz : i.zero = some (.bool false)) (hs : i.size = 1) (hb : i.bytes = 1) (n : Nat) (hn : n ≤ 1000000) (w : World) :
    (Instr.makeSlice t (.int .i64 (n : Int)) (.int .i64 (n : Int))).run P w = .ok (.slice (some ⟨w.heap.size, 0, none⟩) n n) (w.alloc (.cells (bls (List.replicate n false)).toArray e)) := by
  have hr := run_make (P := P) w t e i (.bool false) ht hi hz .i64 .i64 n n (by omega) (by omega) (by rw [hb]; omega) (by omega)
  simp only [Int.toNat_natCast] at hr
  rw [hr, hs]
  have e1 : madeCells (Value.bool false).cells (n * 1) = (bls (List.replicate n false)).toArray := by
    apply Array.ext'
    rw [show (Value.bool false).cells = #[.bool false] from rfl, toList_madeCells_one]
    simp [bls]
  rw [e1]
theorem listB_ext {a b : List Bool} {n : Nat} (ha : a.length = n) (hb : b.length = n) (h : ∀ p, p < n → a[p]?.getD false = b[p]?.getD false) : a = b := by
  apply List.ext_getElem (by omega)
  intro i h1 h2
  have := h i (by omega)
  simpa [h1, h2] using this
/-- Lists that lie beside a block. -/
structure RowsN (w : World) (g : Nat) (A : Option Addr) (l : List Sl) : Prop where
  va : 0 < (slvs l).length → ∃ b off, A = some ⟨b, off, none⟩ ∧ b < w.heap.size ∧ b ≠ g ∧ ∀ k v, (slvs l)[k]? = some v → w.cell? ⟨b, off + k, none⟩ = some v
  each : ∀ s ∈ l, 0 < s.zs.length → ∃ b off, s.A = some ⟨b, off, none⟩ ∧ b < w.heap.size ∧ b ≠ g ∧ ∀ k, k < s.zs.length → w.cell? ⟨b, off + k, none⟩ = some (.int .i64 (s.zs[k]?.getD 0))
theorem RowsN.rows {w : World} {g : Nat} {A : Option Addr} {l : List Sl} (h : RowsN w g A l) : Rows w w.heap.size A l :=
  ⟨fun hl => let ⟨b, off, e, hb, _, hc⟩ := h.va hl; ⟨b, off, e, hb, hc⟩, fun s hs hl => let ⟨b, off, e, hb, _, hc⟩ := h.each s hs hl; ⟨b, off, e, hb, hc⟩⟩
theorem RowsN.below {w w' : World} {g : Nat} {A : Option Addr} {l : List Sl} (h : RowsN w g A l) (hb : Below w.heap.size w w') : RowsN w' g A l :=
  ⟨fun hl => let ⟨b, off, e, hlt, hn, hc⟩ := h.va hl; ⟨b, off, e, Nat.lt_of_lt_of_le hlt hb.size, hn, fun k v hv => (hb.cell (p := ⟨b, off + k, none⟩) hlt).trans (hc k v hv)⟩,
   fun s hs hl => let ⟨b, off, e, hlt, hn, hc⟩ := h.each s hs hl; ⟨b, off, e, Nat.lt_of_lt_of_le hlt hb.size, hn, fun k hk => (hb.cell (p := ⟨b, off + k, none⟩) hlt).trans (hc k hk)⟩⟩
theorem OwnR.rowsN {W : World} {base g : Nat} {A : Option Addr} {c : Nat} {ls : List Sl} (h : OwnR W base (.slice A ls.length c) ls) (hg : g < base) : RowsN W g A ls := by
  have key : ∀ {e : TypeId} {n m cp : Nat} {X : Option Addr} {xs : List Value}, W.ownsRow base e n (.slice X m cp) m xs → 0 < m → ∀ b off, X = some ⟨b, off, none⟩ → b ≠ g := by
    intro e n m cp X xs ho hm b off hX
    rcases ho.2 with ⟨hv, _⟩ | ⟨g', cap', cur, hv, hb, _⟩
    · simp only [Value.slice.injEq] at hv
      omega
    · simp only [Value.slice.injEq] at hv
      have := hv.1
      rw [hX] at this
      simp only [Option.some.injEq, Addr.mk.injEq] at this
      omega
  refine ⟨fun hl => ?_, fun s hs hl => ?_⟩
  · obtain ⟨b, off, e, hb, hc⟩ := Vals.own h.row hl
    exact ⟨b, off, e, hb, key h.row (by rwa [slvs_len] at hl) b off e, hc⟩
  · obtain ⟨b, off, e, hb, hc⟩ := (h.each s hs).ints hl
    exact ⟨b, off, e, hb, key (h.each s hs) hl b off e, hc⟩
/-- The drying lies in its box. -/
theorem boxD (w : World) (cs : Array Value) (ty : TypeId) : ResC w.heap.size w w.heap.size cs ty (fun _ _ => True) 99 999 (fun _ => false) (fun _ => undef) (w.alloc (.cells cs ty)) := ⟨grow1 _ _, by simp, alloc_at0 _ _, fun _ => trivial⟩
theorem ResC.any {B : Nat} {w0 W W' : World} {x : Nat} {cs : Array Value} {ty : TypeId} {D D' : Nat → Bool} {σ σ' : Nat → Value} (h : ResC B w0 x cs ty (fun _ _ => True) 99 999 D σ W) (hg : Grows W W') : ResC B w0 x cs ty (fun _ _ => True) 99 999 D' σ' W' :=
  ⟨h.bel.trans (hg.mono h.lb), Nat.le_trans h.lb hg.size, (hg.block _ (lt_of_heap h.box)).trans h.box, fun _ => trivial⟩
theorem small_good {W : Int} {st : St} (h : GoodS W st) {ls : List Sl} (e : rws ls = st.2) : smallL ls := by
  have hn : ls.length = st.2.length := by rw [← e]; simp [rws]
  refine ⟨by have := h.n4; omega, fun s hs => ?_⟩
  have := (h.rows s.zs (by rw [← e]; simp only [rws, List.mem_map]; exact ⟨s, hs, rfl⟩)).l6
  omega
def zero6 : List Value := [.int .i64 0, .int .i64 0, .slice none 0 0, .int .i64 0, .int .i64 0, .int .i64 0]
theorem u8s_get {zs : List Int} {p : Nat} (hp : p < zs.length) : (u8s zs)[p]? = some (.int .u8 (zs[p]?.getD 0)) := by simp [u8s, hp]
def TrV (l : Nat) (L : List Int) (W : World) (e : Ending) (w' : World) : Prop := ∃ A c, e = .returned (.tuple #[.slice A l c, .int .i64 0]) ∧ Vals w' w'.heap.size A (u8s L) ∧ Below W.heap.size W w'
theorem trV_of {t : Bt} {A : Option Addr} {cap : Nat} {l : List Sl} {h : Nat} {B : Nat} {W : World} (hB : B ≤ W.heap.size) (hz : Rows W B A l) (hok : okBatch t (rws l) = true) (h3 : h ≤ 300) :
    Calls Try.prog 18 #[.agg (btcells t (.slice A l.length cap)), .int .i64 (h : Int)] W (TrV l.length (knownL t (rws l) h) W) := by
  have := cureTreated_any t A cap l h B W hB hz (okBatch_shortL hok)
  have hE : treatE t (rws l) h = 0 := by
    have e2 : allB 0 300 [(h : Int)] = true := allB_iff.2 ⟨by omega, by omega⟩
    simp [treatE, hok, e2]
  have hL : treatL t (rws l) h = knownL t (rws l) h := by simp [treatL, hE]
  unfold TrePost at this
  rw [hE, hL] at this
  refine this.mono fun e w' ⟨A', c, he, hO, hB'⟩ => ⟨A', c, ?_, Vals.own hO, hB'⟩
  rw [he, knownL_len]
  simp [rws]


/-- Which cores have been reached in the rounds before, and in round k of the poles before p. -/
def rL (g : Nat → Nat → Bool) (n k p : Nat) : List Bool := (List.range n).map fun q => (whenF g k p q).isSome
theorem rL_len (g : Nat → Nat → Bool) (n k p : Nat) : (rL g n k p).length = n := by simp [rL]
theorem rL_get (g : Nat → Nat → Bool) (k p : Nat) {n q : Nat} (hq : q < n) : (rL g n k p)[q]?.getD false = (whenF g k p q).isSome := by simp [rL, List.getElem?_range hq]
theorem rL_start (g : Nat → Nat → Bool) (n : Nat) : rL g n 0 0 = List.replicate n false := by
  refine listB_ext (n := n) (rL_len ..) (by simp) fun q hq => ?_
  rw [rL_get g 0 0 hq]
  simp [whenF, firstB, hq]
theorem first_or (f : Nat → Bool) (k : Nat) : (firstB f (k + 1)).isSome = ((firstB f k).isSome || f k) := by
  rw [firstB_succ]
  cases firstB f k <;> cases f k <;> rfl
theorem rL_step {g : Nat → Nat → Bool} {n k p : Nat} (hp : p < n) : (rL g n k p).set p ((rL g n k p)[p]?.getD false || g p k) = rL g n k (p + 1) := by
  refine listB_ext (n := n) (by simp [rL]) (rL_len ..) fun q hq => ?_
  rw [rL_get g k (p + 1) hq]
  by_cases e : q = p
  · subst e
    rw [List.getElem?_set_self (by rw [rL_len]; exact hq), Option.getD_some, rL_get g k q hq]
    unfold whenF
    rw [if_neg (by omega), if_pos (by omega), first_or]
  · rw [List.getElem?_set_ne (by omega), rL_get g k p hq]
    unfold whenF
    by_cases h1 : q < p
    · rw [if_pos h1, if_pos (by omega)]
    · rw [if_neg h1, if_neg (by omega)]
theorem rL_next (g : Nat → Nat → Bool) (n k : Nat) : rL g n k n = rL g n (k + 1) 0 := by
  refine listB_ext (n := n) (rL_len ..) (rL_len ..) fun q hq => ?_
  rw [rL_get g k n hq, rL_get g (k + 1) 0 hq, whenF_next hq]
def allU (g : Nat → Nat → Bool) (k i : Nat) : Bool := (List.range i).all fun q => (firstB (g q) (k + 1)).isSome
theorem allU_succ (g : Nat → Nat → Bool) (k i : Nat) : allU g k (i + 1) = (allU g k i && (firstB (g i) (k + 1)).isSome) := by simp [allU, List.range_succ]
theorem rL_new (g : Nat → Nat → Bool) {n k i : Nat} (hi : i < n) : (firstB (g i) (k + 1)).isSome = ((rL g n k i)[i]?.getD false || g i k) := by
  rw [rL_get g k i hi, first_or]
  unfold whenF
  rw [if_neg (by omega)]

def sureU (L : List Int) (j : Nat) : Bool := (L.take j).all (· == 2)
def openU (L : List Int) (j : Nat) : Bool := (L.take j).any (· != 2)
theorem sureU_succ {L : List Int} {j : Nat} (h : j < L.length) : sureU L (j + 1) = (sureU L j && (L[j]?.getD 0 == 2)) := by
  unfold sureU
  rw [List.take_add_one, List.all_append]
  simp [h]
theorem openU_succ {L : List Int} {j : Nat} (h : j < L.length) : openU L (j + 1) = (openU L j || (L[j]?.getD 0 != 2)) := by
  unfold openU
  rw [List.take_add_one, List.any_append]
  simp [h]
theorem sureU_all {L : List Int} (h : ∀ p, p < L.length → L[p]?.getD 0 = 2) : sureU L L.length = true := by
  unfold sureU
  rw [List.take_length, List.all_eq_true]
  intro x hx
  obtain ⟨i, hi, rfl⟩ := List.getElem_of_mem hx
  have := h i hi
  rw [List.getElem?_eq_getElem hi, Option.getD_some] at this
  simp [this]
theorem openU_some {L : List Int} {p : Nat} (hp : p < L.length) (h : L[p]?.getD 0 ≠ 2) : openU L L.length = true := by
  unfold openU
  rw [List.take_length, List.any_eq_true]
  rw [List.getElem?_eq_getElem hp, Option.getD_some] at h
  exact ⟨L[p], List.getElem_mem hp, by simpa using h⟩
theorem sureU_no {L : List Int} {p : Nat} (hp : p < L.length) (h : L[p]?.getD 0 ≠ 2) : sureU L L.length = false := by
  cases e : sureU L L.length with
  | false => rfl
  | true =>
    unfold sureU at e
    rw [List.take_length] at e
    rw [List.getElem?_eq_getElem hp, Option.getD_some] at h
    exact absurd (by simpa using List.all_eq_true.1 e _ (List.getElem_mem hp)) h

/-- The batch with another borax. -/
def btB (t : Bt) (b : Int) : Bt := ⟨t.water, b, t.lo, t.hi, t.need⟩
theorem rws_len {ls : List Sl} {ws : List (List Int)} (h : rws ls = ws) : ls.length = ws.length := by rw [← h]; simp [rws]

def RunK (W : World) (n : Nat) (st : St) (e : Ending) (w' : World) : Prop :=
  ∃ A c l8, e = .returned (.tuple #[.int .i64 st.1, .slice A n c, .int .i64 0]) ∧ l8.length = n ∧ rws l8 = st.2 ∧ OwnR w' W.heap.size (.slice A l8.length c) l8 ∧ Below W.heap.size W w'
def RunZ (W : World) (e : Ending) (w' : World) : Prop := ∃ A c n b e8, e = .returned (.tuple #[.int .i64 b, .slice A n c, .int .i64 e8]) ∧ Below W.heap.size W w'
theorem runK_any {t : Bt} {l ls : List Sl} {s : Int} {k : Nat} {A : Option Addr} {c : Nat} {W : World} (hg : GoodS t.water (runS t.water s (t.borax, rws l) k)) (hr : rws ls = (runS t.water s (t.borax, rws l) k).2) (hR : Rows W W.heap.size A ls) (h1 : t.lo ≤ s) (h2 : s ≤ t.hi)
    (hok : okBatch (btB t (runS t.water s (t.borax, rws l) k).1) (runS t.water s (t.borax, rws l) k).2 = true) :
    Calls Try.prog 17 #[.agg (btcells (btB t (runS t.water s (t.borax, rws l) k).1) (.slice A l.length c)), .int .i64 s, .int .i64 1] W (RunK W l.length (runS t.water s (t.borax, rws l) (k + 1))) := by
  have hl : lens (runS t.water s (t.borax, rws l) k).2 = lens (rws l) := lens_run _ _ _ _
  have hl2 : lens (runS t.water s (t.borax, rws l) (k + 1)).2 = lens (rws l) := lens_run _ _ _ _
  have hn : ls.length = l.length := by rw [rws_len hr, lens_len hl]; simp [rws]
  have h := run_any (btB t (runS t.water s (t.borax, rws l) k).1) A c ls s ((1 : Nat) : Int) W.heap.size W (Nat.le_refl _) hR (small_short (small_good hg hr))
  have hi := runIs_of (sp := s) (n := 1) hok h1 h2 (by omega)
  have h1s : runS t.water s ((runS t.water s (t.borax, rws l) k).1, (runS t.water s (t.borax, rws l) k).2) 1 = runS t.water s (t.borax, rws l) (k + 1) := rfl
  unfold RunPost at h
  rw [hr, hi.e, hi.b, hi.r] at h
  rw [← hn]
  refine h.mono fun e w' ⟨A8, c8, l8, he, hr8, hO, hB⟩ => ?_
  have hr9 : rws l8 = (runS t.water s (t.borax, rws l) (k + 1)).2 := hr8.trans (congrArg Prod.snd h1s)
  have hn8 : l8.length = ls.length := by rw [rws_len hr9, lens_len hl2, hn]; simp [rws]
  refine ⟨A8, c8, l8, ?_, hn8, hr9, hO, hB⟩
  rw [he, hn8]
  rfl
theorem runZ_any {t : Bt} {l ls : List Sl} {s b : Int} {A : Option Addr} {c : Nat} {W : World} (hR : Rows W W.heap.size A ls) (hn : ls.length = l.length) (hsm : smallL ls) :
    Calls Try.prog 17 #[.agg (btcells (btB t b) (.slice A l.length c)), .int .i64 s, .int .i64 1] W (RunZ W) := by
  have h := run_any (btB t b) A c ls s 1 W.heap.size W (Nat.le_refl _) hR (small_short hsm)
  unfold RunPost at h
  rw [← hn]
  exact h.mono fun e w' ⟨A8, c8, l8, he, hr8, hO, hB⟩ => ⟨A8, c8, l8.length, _, _, he, hB⟩

/-- What lies where hours are gone through. -/
structure RyW (w : World) (cs : Array Value) (n rb nb : Nat) (L : List Bool) (X : List Value) (W : World) : Prop where
  bel : Below w.heap.size w W
  b0 : W.heap[w.heap.size]? = some (.cells cs 28 (0, 0))
  r : W.heap[rb]? = some (.cells (bls L).toArray 4 (0, 0))
  x : W.heap[nb]? = some (.cells X.toArray 28 (0, 0))
  ne : rb ≠ nb
  lr : w.heap.size < rb
  lx : w.heap.size < nb
  ll : L.length = n
section
variable {w W W' : World} {cs : Array Value} {n rb nb : Nat} {L L' : List Bool} {X X' : List Value}
theorem RyW.next (h : RyW w cs n rb nb L X W) (hg : Grows W W') : RyW w cs n rb nb L X W' :=
  ⟨h.bel.trans (hg.mono h.bel.size), (hg.block _ (lt_of_heap h.b0)).trans h.b0, (hg.block _ (lt_of_heap h.r)).trans h.r, (hg.block _ (lt_of_heap h.x)).trans h.x, h.ne, h.lr, h.lx, h.ll⟩
theorem RyW.putX (h : RyW w cs n rb nb L X W) (hp : Put W W' nb) (hM : W'.heap[nb]? = some (.cells X'.toArray 28 (0, 0))) : RyW w cs n rb nb L X' W' :=
  ⟨h.bel.trans (hp.below (Nat.le_of_lt h.lx)), (hp.other _ (by have := h.lx; omega)).trans h.b0, (hp.other _ h.ne).trans h.r, hM, h.ne, h.lr, h.lx, h.ll⟩
theorem RyW.turn (h : RyW w cs n rb nb L X W) (hg : W.grownBy W' (some rb)) (hM : W'.heap[rb]? = some (.cells (bls L').toArray 4 (0, 0))) (hl : L'.length = n) : RyW w cs n rb nb L' X W' :=
  ⟨h.bel.grown hg h.bel.size (fun q e => by cases e; have := h.lr; omega), (hg.block _ (lt_of_heap h.b0) (fun e => by injection e with e; have := h.lr; omega)).trans h.b0, hM, (hg.block _ (lt_of_heap h.x) (fun e => by injection e with e; exact h.ne e.symm)).trans h.x, h.ne, h.lr, h.lx, hl⟩
end
theorem RowsN.turn {w w' : World} {g : Nat} {A : Option Addr} {l : List Sl} (h : RowsN w g A l) (hg : w.grownBy w' (some g)) : RowsN w' g A l :=
  ⟨fun hl => let ⟨b, off, e, hb, hn, hc⟩ := h.va hl; ⟨b, off, e, Nat.lt_of_lt_of_le hb hg.size, hn, fun k v hv => (World.cell?_of_block (w := w) (hg.block b hb (by simpa using hn))).trans (hc k v hv)⟩,
   fun s hs hl => let ⟨b, off, e, hb, hn, hc⟩ := h.each s hs hl; ⟨b, off, e, Nat.lt_of_lt_of_le hb hg.size, hn, fun k hk => (World.cell?_of_block (w := w) (hg.block b hb (by simpa using hn))).trans (hc k hk)⟩⟩

end Go.Proofs.Ytfampdiompjmeaa
