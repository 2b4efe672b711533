/-
  GuB
-/
import Derived.Test.YtddpebnmjfmgdaaGreatQT1
import Derived.IntWalk
import Derived.Test.YtddpebnmjfmgdaaGreatQC38
import Derived.Test.YtddpebnmjfmgdaaGreatQC37
import Derived.Test.YtddpebnmjfmgdaaGreatQT2
set_option linter.all false
namespace Go.Proofs.YtddpebnmjfmgdaaGreat
open Go.RowKit Go.Maps

theorem zeroI6 (w : World) : (zeroValue 3).run Tryz.prog w = .ok (.int .i64 0) w := by kernel_rfl
def MapZ (D : DataW Value) (F : Int → Int) : Prop := ∀ id : Int, D.atKey (.int .i64 id) (.held (.int .i64 0)) = .held (.int .i64 (F id))
def OwnZ (W : World) (mb n : Nat) (F : Int → Int) : Prop := ∃ D : DataW Value, W.ownsMap Tryz.prog 3 rdE mb n D ∧ MapZ D F
def updZ (F : Int → Int) (id x : Int) : Int → Int := fun i => if i = id then x else F i
theorem OwnZ.made {W : World} {mb : Nat} (h : W.heap[mb]? = some (.map #[] 0)) : OwnZ W mb 0 fun _ => 0 := by
  refine ⟨.map [], ⟨#[], 0, h, ?_⟩, fun id => rfl⟩
  have := World.ownsMap_made (H := Value) W Tryz.prog 3 rdE
  obtain ⟨es, cl, hb, r⟩ := this
  rw [World.alloc_heap_new] at hb
  simp only [Option.some.injEq, Obj.map.injEq] at hb
  obtain ⟨rfl, rfl⟩ := hb
  exact r
theorem OwnZ.block {W W' : World} {mb n : Nat} {F : Int → Int} (h : OwnZ W mb n F) (e : W'.heap[mb]? = W.heap[mb]?) : OwnZ W' mb n F := by
  obtain ⟨D, h1, h2⟩ := h
  refine ⟨D, ?_, h2⟩
  unfold World.ownsMap at h1 ⊢
  rw [e]
  exact h1
theorem OwnZ.lt {W : World} {mb n : Nat} {F : Int → Int} (h : OwnZ W mb n F) : mb < W.heap.size := let ⟨_, h1, _⟩ := h; h1.lt
theorem OwnZ.obj {W : World} {mb n : Nat} {F : Int → Int} (h : OwnZ W mb n F) : ∃ es cl, W.heap[mb]? = some (.map es cl) := by
  obtain ⟨D, ⟨es, cl, hb, _⟩, _⟩ := h
  exact ⟨es, cl, hb⟩
section
variable {op : Oper} {ops : Array Oper} {rest : List Oper} {a : Act} {w : World} {Q : Exit → Act → World → Prop} {M n : Nat} {F : Int → Int}
theorem wpList_lookZ (hg : op.guard = none) (m x : Operand) (hop : op.op = Op.lookup 79 m x false) (hm : a.eval m = .map (some M)) (hO : OwnZ w M n F) {id : Int} (hid : idOk id) (hx : a.eval x = .int .i64 id) (h : wpList Tryz.prog ops Q rest (a.put op.dst (.int .i64 (F id))) w) : wpList Tryz.prog ops Q (op :: rest) a w := by
  obtain ⟨D, h1, h2⟩ := hO
  obtain ⟨v, ps, hrun, hv⟩ := h1.lookup keyI5 Tryz.underlying79 (zeroI6 w) (zd := .held (.int .i64 0)) (zp := []) rfl (Maps.keyOf_int_mk Tryz.underlying3 (WalkArith.wf_i64 hid))
  simp only [rdE, Option.some.injEq, Prod.mk.injEq, h2 id, DataW.held.injEq] at hv
  rw [hv.1] at hrun
  refine wpList_plain hg fun K hK => ?_
  unfold Oper.wp
  simp [execOp, hop, hm, hx, hrun, Result.andThen]
  exact hK _ _ h
theorem wpList_keepZ (hg : op.guard = none) (m x v : Operand) (hop : op.op = Op.mapUpdate 79 m x v) (hd : op.dst = none) (hm : a.eval m = .map (some M)) (hO : OwnZ w M n F) (hn : n < maxLen) {id : Int} (hid : idOk id) (hx : a.eval x = .int .i64 id) {y : Int} (hv : a.eval v = .int .i64 y)
    (h : ∀ w', OwnZ w' M (n + 1) (updZ F id y) → w.grownBy w' (some M) → wpList Tryz.prog ops Q rest a w') : wpList Tryz.prog ops Q (op :: rest) a w := by
  obtain ⟨D, h1, h2⟩ := hO
  have hkey := Maps.keyOf_int_mk Tryz.underlying3 (WalkArith.wf_i64 hid)
  obtain ⟨w', hrun, r1, r2⟩ := h1.update keyI5 Tryz.underlying79 hn hkey (val := .int .i64 y) (d := .held (.int .i64 y)) (ps := []) rfl
  refine wpList_plain hg fun K hK => ?_
  unfold Oper.wp
  simp [execOp, hop, hm, hx, hv, hrun, Result.andThen]
  refine hK _ _ ?_
  rw [hd]
  refine h w' ⟨_, r1, fun i => ?_⟩ r2
  unfold updZ
  by_cases e : i = id
  · subst e
    rw [if_pos rfl]
    exact atKey_put_same h1.isMap (keyI5.key hkey) _ _
  · rw [if_neg e, atKey_put_other (fun h => e (by injection h))]
    exact h2 i
end

structure TruC (w0 : World) (mb n : Nat) (F : Int → Int) (A : Option Addr) (m c : Nat) (R : List Int) (W : World) : Prop where
  bel : Below w0.heap.size w0 W
  mbl : w0.heap.size ≤ mb
  map : OwnZ W mb n F
  row : W.ownsRow w0.heap.size 54 3 (.slice A m c) m (ints R)
section
variable {w0 W W' : World} {mb n m c : Nat} {F : Int → Int} {A : Option Addr} {R : List Int}
theorem TruC.grows (h : TruC w0 mb n F A m c R W) (hg : Grows W W') : TruC w0 mb n F A m c R W' :=
  ⟨h.bel.trans (hg.mono h.bel.size), h.mbl, h.map.block (hg.block _ h.map.lt), own_grows h.row hg⟩
theorem TruC.notMap (h : TruC w0 mb n F A m c R W) : some mb ≠ (Value.slice A m c).ownBlock := fun e => by
  obtain ⟨es, cl, hb⟩ := h.map.obj
  obtain ⟨cur, h1, _⟩ := own_bt h.row e.symm
  rw [hb] at h1
  cases h1
theorem TruC.keep (h : TruC w0 mb n F A m c R W) {G : Int → Int} {n' : Nat} (hO : OwnZ W' mb n' G) (hg : W.grownBy W' (some mb)) : TruC w0 mb n' G A m c R W' :=
  ⟨h.bel.grown hg h.bel.size (fun q e => by cases e; exact h.mbl), h.mbl, hO, by
    refine h.row.kept hg ?_
    cases hv : (Value.slice A m c).ownBlock with
    | none => exact .inl rfl
    | some g => exact .inr fun e => h.notMap (by rw [hv, e])⟩
theorem TruC.put {b : Nat} {cs : Array Value} {t : TypeId} {fr : Nat × Nat} (h : TruC w0 mb n F A m c R W) (hP : Put W W' b) (hb : W.heap[b]? = some (.cells cs t fr)) (h0 : w0.heap.size ≤ b) (hne : (Value.slice A m c).ownBlock ≠ some b) : TruC w0 mb n F A m c R W' :=
  ⟨h.bel.trans (hP.below h0), h.mbl, h.map.block (hP.other _ (fun e => by
    obtain ⟨es, cl, hm⟩ := h.map.obj
    rw [e, hb] at hm
    cases hm)), by
    refine h.row.kept hP.grown ?_
    cases hv : (Value.slice A m c).ownBlock with
    | none => exact .inl rfl
    | some g => exact .inr fun e => hne (by rw [hv, e])⟩
theorem TruC.fresh (h : TruC w0 mb n F A m c R W) : (Value.slice A m c).ownBlock ≠ some W.heap.size := fun e => by
  obtain ⟨cur, h1, _⟩ := own_bt h.row e
  exact absurd (lt_of_heap h1) (Nat.lt_irrefl _)
end

def u4s (zs : List Int) : List Value := zs.map (.int .u32 ·)
theorem u4s_len (zs : List Int) : (u4s zs).length = zs.length := by simp [u4s]
set_option maxRecDepth 100000 in
set_option maxHeartbeats 4000000 in
theorem choose_any (b : List Int) (A : Option Addr) (c : Nat) (x : Int) (B : Nat) (w : World) (hz : Vals w B A (u4s b)) (hb : ∀ z ∈ b, 0 ≤ z ∧ z ≤ 4294967295) (hl : b.length ≤ 9223372036854775807) (h0 : 0 ≤ x) :
    Calls Tryz.prog 30 #[.slice A b.length c, .int .i64 x] w fun e w' => e = .returned (.int .i64 (chB b x.toNat)) ∧ w = w' := by
  obtain ⟨i, rfl⟩ := Int.eq_ofNat_of_zero_le h0
  rw [Int.toNat_natCast]
  by_cases hi : i < b.length
  · have hiz : (i : Int) < b.length := by omega
    obtain ⟨g, o, rfl, hg, hc⟩ := hz (by rw [u4s_len]; omega)
    have hc := hc i (.int .u32 b[i]) (by simp [u4s, hi])
    have hm := hb _ (List.getElem_mem hi)
    have he : chB b i = b[i] := by simp [chB, hi]
    rw [he]
    generalize b[i] = z at hc hm
    have hw : IntKind.i64.wrap z = z := IntWalk.i64_in _ (by omega)
    have HB := Lib.hid hb
    clear hz hb he
    go_enter Tryz.func30, Tryz.ntmps30
    go_wp2
    go_ret
    exact ⟨rfl, rfl⟩
  · have hiz : ¬ (i : Int) < b.length := by omega
    have he : chB b i = 0 := by simp [chB, hi]
    rw [he]
    have HB := Lib.hid hb
    clear hz hb he
    go_enter Tryz.func30, Tryz.ntmps30
    go_wp2
    go_ret
    exact ⟨rfl, rfl⟩
theorem infoInt7 : (Tryz.prog.info? 3).map (·.size) = some 1 := by kernel_rfl
theorem infoRow6 : (Tryz.prog.info? 54).map (fun i => (i.zero, i.size, i.bytes)) = some (some (.agg #[.int .i64 0, .int .i64 0, .int .i64 0]), 3, 24) := by kernel_rfl
theorem row3I : RowTy Tryz.prog 54 3 := ⟨⟨_, Tryz.underlying54, rfl⟩, by kernel_rfl⟩

end Go.Proofs.YtddpebnmjfmgdaaGreat
