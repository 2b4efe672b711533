/-
  Lists of spans: made, copied, searched.
-/
import Derived.Test.YtfampdiompjmeaaCdB
import Derived.Laws.CopyRow
import Derived.Laws.IdiomCopy
namespace Go.Proofs.Ytfampdiompjmeaa
open Go.RowKit

attribute [local go_sem] gives

theorem zeros_pairs (n : Nat) : pairs (List.replicate n (0, 0)) = List.replicate (n * 2) (Value.int .i64 0) := by
  induction n with
  | zero => rfl
  | succ n ih =>
    rw [List.replicate_succ, show (n + 1) * 2 = n * 2 + 1 + 1 by omega, List.replicate_succ, List.replicate_succ, ← ih]
    rfl
theorem run_make_pairs {P : Program} (t e : TypeId) (hi : (P.info? e).map (fun i => (i.zero, i.size, i.bytes)) = some (some (.agg #[.int .i64 0, .int .i64 0]), 2, 16)) (ht : P.underlying t = some (.slice e)) (n : Nat) (hn : n ≤ 1000000) (w : World) :
    (Instr.makeSlice t (.int .i64 (n : Int)) (.int .i64 (n : Int))).run P w = .ok (.slice (some ⟨w.heap.size, 0, none⟩) n n) (w.alloc (.cells (pairs (List.replicate n (0, 0))).toArray e)) := by
  obtain ⟨i, h1, h2, h3, h4⟩ := info_parts hi
  have hr := run_make (P := P) w t e i _ ht h1 h2 .i64 .i64 n n (by omega) (by omega) (by rw [h4]; omega) (by omega)
  simp only [Int.toNat_natCast] at hr
  rw [hr, h3]
  have e1 : madeCells (Value.agg #[.int .i64 0, .int .i64 0]).cells (n * 2) = (pairs (List.replicate n (0, 0))).toArray := by
    apply Array.ext'
    rw [zeros_pairs]
    apply List.ext_getElem?
    intro j
    by_cases hj : j < n * 2
    · have h2 : j % 2 = 0 ∨ j % 2 = 1 := by omega
      rcases h2 with h2 | h2 <;> simp [madeCells, hj, Value.cells, h2]
    · simp [madeCells, hj]
  rw [e1]

/-- copy, where an element is a whole struct. -/
theorem run_copy_structs {P : Program} (w : World) (dT sT ty elem : TypeId) (b o dLen dCap : Nat) (a : Addr) (sLen sCap size n : Nat) (cs : List Value)
    (hu : P.underlying dT = some (.slice elem)) (hs : (P.info? elem).map (·.size) = some size) (hn : n = Nat.min sLen dLen) (hl : cs.length = n * size)
    (hsrc : ∀ j v, cs[j]? = some v → w.cell? (a.add j) = some v) (hc : ∀ j, j < cs.length → (w.cell? ⟨b, o + j, none⟩).isSome = true) (hf : ∀ j, j < cs.length → w.frozen? ⟨b, o + j, none⟩ = false) (h1 : ∀ v ∈ cs, v.oneCell' = true) :
    (Builtin.copy_ #[dT, sT] ty #[.slice (some ⟨b, o, none⟩) dLen dCap, .slice (some a) sLen sCap]).run P w = .ok (goInt n) (w.setCells b o cs) := by
  have hl' := run_loadCells_list (P := P) w a cs hsrc
  have hst := run_storeCells_cells (P := P) b o cs 0 w (by simpa using hc) (by simpa using hf) h1
  cases hq : P.info? elem with
  | none => simp [hq] at hs
  | some i =>
    have hi : i.size = size := by simpa [hq] using hs
    rw [hl] at hl'
    simp [Builtin.copy_, run_underlying hu, Builtin.lenOf, Builtin.firstCells, sizeOf, typeInfo, hq, hi, ← hn, hl', hst]

section
variable {P : Program} {ops : Array Oper} {rest : List Oper} {op : Oper} {a : Act} {w : World} {Q : Exit → Act → World → Prop} {R : Value → World → Prop}
/-- .. as a step: the block behind it, all others as they were. -/
theorem gives_copy_blk (d s : Operand) (dT sT : TypeId) (ho : op.op = .call { callee := .builtin .copy, args := #[d, s], argTypes := #[dT, sT] }) (elem : TypeId) (hu : P.underlying dT = some (.slice elem)) (size n : Nat) (hs : (P.info? elem).map (·.size) = some size)
    (b o dLen dCap : Nat) (x : Addr) (sLen sCap : Nat) (hd : a.eval d = .slice (some ⟨b, o, none⟩) dLen dCap) (hx : a.eval s = .slice (some x) sLen sCap) (hn : n = Nat.min sLen dLen) {cs L : List Value} (hl : cs.length = n * size)
    (hsrc : ∀ j v, cs[j]? = some v → w.cell? (x.add j) = some v) {t : TypeId} (hb : w.heap[b]? = some (.cells L.toArray t (0, 0))) (hfit : o + cs.length ≤ L.length) (h1 : ∀ v ∈ cs, v.oneCell' = true)
    (h : ∀ w', Put w w' b → w'.heap[b]? = some (.cells (splice L o cs).toArray t (0, 0)) → R (goInt n) w') : gives P op a w R := by
  have hrun := run_copy_structs (P := P) w dT sT op.type elem b o dLen dCap x sLen sCap size n cs hu hs hn hl hsrc (fun j hj => by
    rw [cell_of_row w b _ _ _ _ hb]; simp [show o + j < L.length by omega]) (fun j hj => frozen_of_row w b _ _ _ hb) h1
  unfold gives execOp
  simp only [ho, resolve, invoke, builtin, Sem.run_bind, Sem.run_pure, Result.andThen_ok, List.map_toArray, List.map_cons, List.map_nil, hd, hx, hrun]
  exact h _ (put_setCells b cs o w) (setCells_block b cs o w L hb hfit)
theorem wpList_copy_blk (hgd : op.guard = none) (d s : Operand) (dT sT : TypeId) (ho : op.op = .call { callee := .builtin .copy, args := #[d, s], argTypes := #[dT, sT] }) (elem : TypeId) (hu : P.underlying dT = some (.slice elem)) (size n : Nat) (hs : (P.info? elem).map (·.size) = some size)
    (b o dLen dCap : Nat) (x : Addr) (sLen sCap : Nat) (hd : a.eval d = .slice (some ⟨b, o, none⟩) dLen dCap) (hx : a.eval s = .slice (some x) sLen sCap) (hn : n = Nat.min sLen dLen) {cs L : List Value} (hl : cs.length = n * size)
    (hsrc : ∀ j v, cs[j]? = some v → w.cell? (x.add j) = some v) {t : TypeId} (hb : w.heap[b]? = some (.cells L.toArray t (0, 0))) (hfit : o + cs.length ≤ L.length) (h1 : ∀ v ∈ cs, v.oneCell' = true)
    (h : ∀ w', Put w w' b → w'.heap[b]? = some (.cells (splice L o cs).toArray t (0, 0)) → wpList P ops Q rest (a.put op.dst (goInt n)) w') : wpList P ops Q (op :: rest) a w := by
  refine wpList_plain hgd fun K hK => ?_
  have hrun := run_copy_structs (P := P) w dT sT op.type elem b o dLen dCap x sLen sCap size n cs hu hs hn hl hsrc (fun j hj => by
    rw [cell_of_row w b _ _ _ _ hb]; simp [show o + j < L.length by omega]) (fun j hj => frozen_of_row w b _ _ _ hb) h1
  unfold Oper.wp execOp
  simp only [ho, resolve, invoke, builtin, Sem.run_bind, Sem.run_pure, Result.andThen_ok, List.map_toArray, List.map_cons, List.map_nil, hd, hx, hrun]
  exact hK _ _ (h _ (put_setCells b cs o w) (setCells_block b cs o w L hb hfit))
end

theorem pairs_one (l : List (Int × Int)) : ∀ v ∈ pairs l, v.oneCell' = true := oneCells_pairs l

/-- The first span that is so. -/
theorem indexDry_any (x : Dr) (b : Nat) (A : Option Addr) (cap : Nat) (l : List (Int × Int)) (B : Nat) (w : World) (hB : B ≤ w.heap.size) (hb : w.heap[b]? = some (.cells (dcells x) 41 (0, 0))) (hz : Vals w B A (pairs l)) (hl : l.length ≤ 1000000) :
    Calls Try.prog 53 #[.slice A l.length cap, .func (.func 55) #[] #[.pointer (some ⟨b, 0, none⟩)]] w fun e w' => e = .returned (.int .i64 (idxL (fun p => decide (p.2 ≤ x.most)) l 0)) ∧ Below w.heap.size w w' := by
  have HB := Lib.hid hb
  have HZ := Lib.hid hz
  clear hb hz
  have hP : ∃ P : Int × Int → Bool, P = fun p => decide (p.2 ≤ x.most) := ⟨_, rfl⟩
  obtain ⟨P, hP⟩ := hP
  rw [← hP]
  have HPP := Lib.hid hP
  clear hP
  go_enter Try.func53, Try.ntmps53
  go_wp2
  go_loopg [8] l.length (fun gg s8 wx => ∃ k : Nat, k + gg = l.length ∧ s8 = .int .i64 k ∧ Hid (idxL P (l.drop k) k = idxL P l 0) ∧ Hid (Below w.heap.size w wx))
  case atStart => exact ⟨0, by omega, rfl, rfl, Below.refl _ _⟩
  case round =>
    obtain ⟨k, hkg, rfl, hI, hBr⟩ := hrel
    cases gk with
    | zero =>
      obtain rfl : k = l.length := by omega
      go_wp2
      go_ret
      refine ⟨?_, hBr.out⟩
      rw [← hI.out, List.drop_length]
      rfl
    | succ gg =>
      have hk : k < l.length := by omega
      have hkz : (k : Int) < l.length := by omega
      obtain ⟨c, off, hA, hcB, hc⟩ := HZ.out (by rw [pairs_len]; omega)
      subst hA
      have hpa := pairs_at l k hk
      have hc0 : wr.cell? ⟨c, off + k * 2, none⟩ = _ := (hBr.out.cell (p := ⟨c, off + k * 2, none⟩) (by simp; omega)).trans (hc _ _ hpa.1)
      have hc1 : wr.cell? ⟨c, off + k * 2 + 1, none⟩ = _ := (hBr.out.cell (p := ⟨c, off + k * 2 + 1, none⟩) (by simp; omega)).trans (hc _ _ hpa.2)
      have hst := idxL_step (P := P) hk
      have hg : l[k]?.getD (0, 0) = l[k] := by simp [hk]
      rw [hg] at hc0 hc1
      rw [hI.out] at hst
      have hb' := (hBr.out.block b (lt_of_heap HB.out)).trans HB.out
      generalize l[k] = y at hc0 hc1 hst
      obtain ⟨y1, y2⟩ := y
      have hpp := congrFun HPP.out (y1, y2)
      simp only at hc0 hc1 hpp
      have HC := Lib.hid (dry1_any y1 y2 x b wr hb')
      have HST := Lib.hid hst
      clear hc hst hg hpa hb'
      cases hp : P (y1, y2) with
      | true =>
        rw [hp] at hpp
        have HP := Lib.hid (And.intro hp hpp)
        clear hp hpp
        go_wp2_with (go_at_call 55; refine HC.out.mono ?_; rintro e w' ⟨rfl, hB1⟩; rw [← HP.out.2]; have HB1 := Lib.hid hB1; clear hB1)
        go_ret
        refine ⟨?_, hBr.out.trans (HB1.out.mono hBr.out.size)⟩
        rw [HST.out, HP.out.1]
        rfl
      | false =>
        rw [hp] at hpp
        have HP := Lib.hid (And.intro hp hpp)
        clear hp hpp
        go_wp2_with (go_at_call 55; refine HC.out.mono ?_; rintro e w' ⟨rfl, hB1⟩; rw [← HP.out.2]; have HB1 := Lib.hid hB1; clear hB1)
        go_roundg gg
        case measure => omega
        case rel => exact ⟨k + 1, by omega, by go_num, by rw [HST.out, HP.out.1]; rfl, hBr.out.trans (HB1.out.mono hBr.out.size)⟩

/-- The first span that is so. -/
theorem indexLev_any (x : Po) (b : Nat) (A : Option Addr) (cap : Nat) (l : List (Int × Int)) (B : Nat) (w : World) (hB : B ≤ w.heap.size) (hb : w.heap[b]? = some (.cells (pcells x) 46 (0, 0))) (hz : Vals w B A (pairs l)) (hl : l.length ≤ 1000000) :
    Calls Try.prog 53 #[.slice A l.length cap, .func (.func 59) #[] #[.pointer (some ⟨b, 0, none⟩)]] w fun e w' => e = .returned (.int .i64 (idxL (fun p => decide (x.lim < p.2)) l 0)) ∧ Below w.heap.size w w' := by
  have HB := Lib.hid hb
  have HZ := Lib.hid hz
  clear hb hz
  have hP : ∃ P : Int × Int → Bool, P = fun p => decide (x.lim < p.2) := ⟨_, rfl⟩
  obtain ⟨P, hP⟩ := hP
  rw [← hP]
  have HPP := Lib.hid hP
  clear hP
  go_enter Try.func53, Try.ntmps53
  go_wp2
  go_loopg [8] l.length (fun gg s8 wx => ∃ k : Nat, k + gg = l.length ∧ s8 = .int .i64 k ∧ Hid (idxL P (l.drop k) k = idxL P l 0) ∧ Hid (Below w.heap.size w wx))
  case atStart => exact ⟨0, by omega, rfl, rfl, Below.refl _ _⟩
  case round =>
    obtain ⟨k, hkg, rfl, hI, hBr⟩ := hrel
    cases gk with
    | zero =>
      obtain rfl : k = l.length := by omega
      go_wp2
      go_ret
      refine ⟨?_, hBr.out⟩
      rw [← hI.out, List.drop_length]
      rfl
    | succ gg =>
      have hk : k < l.length := by omega
      have hkz : (k : Int) < l.length := by omega
      obtain ⟨c, off, hA, hcB, hc⟩ := HZ.out (by rw [pairs_len]; omega)
      subst hA
      have hpa := pairs_at l k hk
      have hc0 : wr.cell? ⟨c, off + k * 2, none⟩ = _ := (hBr.out.cell (p := ⟨c, off + k * 2, none⟩) (by simp; omega)).trans (hc _ _ hpa.1)
      have hc1 : wr.cell? ⟨c, off + k * 2 + 1, none⟩ = _ := (hBr.out.cell (p := ⟨c, off + k * 2 + 1, none⟩) (by simp; omega)).trans (hc _ _ hpa.2)
      have hst := idxL_step (P := P) hk
      have hg : l[k]?.getD (0, 0) = l[k] := by simp [hk]
      rw [hg] at hc0 hc1
      rw [hI.out] at hst
      have hb' := (hBr.out.block b (lt_of_heap HB.out)).trans HB.out
      generalize l[k] = y at hc0 hc1 hst
      obtain ⟨y1, y2⟩ := y
      have hpp := congrFun HPP.out (y1, y2)
      simp only at hc0 hc1 hpp
      have HC := Lib.hid (levels1_any y1 y2 x b wr hb')
      have HST := Lib.hid hst
      clear hc hst hg hpa hb'
      cases hp : P (y1, y2) with
      | true =>
        rw [hp] at hpp
        have HP := Lib.hid (And.intro hp hpp)
        clear hp hpp
        go_wp2_with (go_at_call 59; refine HC.out.mono ?_; rintro e w' ⟨rfl, hB1⟩; rw [← HP.out.2]; have HB1 := Lib.hid hB1; clear hB1)
        go_ret
        refine ⟨?_, hBr.out.trans (HB1.out.mono hBr.out.size)⟩
        rw [HST.out, HP.out.1]
        rfl
      | false =>
        rw [hp] at hpp
        have HP := Lib.hid (And.intro hp hpp)
        clear hp hpp
        go_wp2_with (go_at_call 59; refine HC.out.mono ?_; rintro e w' ⟨rfl, hB1⟩; rw [← HP.out.2]; have HB1 := Lib.hid hB1; clear hB1)
        go_roundg gg
        case measure => omega
        case rel => exact ⟨k + 1, by omega, by go_num, by rw [HST.out, HP.out.1]; rfl, hBr.out.trans (HB1.out.mono hBr.out.size)⟩

end Go.Proofs.Ytfampdiompjmeaa
