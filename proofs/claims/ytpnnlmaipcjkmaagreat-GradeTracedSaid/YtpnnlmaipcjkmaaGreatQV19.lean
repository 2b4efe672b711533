/-
  How many poles have an origin: the map, as memory; a region that counts one more.
-/
import Derived.Laws.BytesArg
import Derived.Test.YtpnnlmaipcjkmaaGreatQV1
import Derived.DeepKeys4
import Derived.WideKeyEntry
import Derived.ChangeMaps4
import Derived.Test.YtpnnlmaipcjkmaaGreatQV18
import Derived.Test.YtpnnlmaipcjkmaaGreatQV16
set_option linter.all false
namespace Go.Proofs.YtpnnlmaipcjkmaaGreat
open Go.RowKit

def u8s (zs : List Int) : List Value := zs.map (Value.int .u8)
theorem u8s_len (zs : List Int) : (u8s zs).length = zs.length := by simp [u8s]
theorem infoU8 : (Tryz.prog.info? 5).map (fun i => (i.zero, i.size, i.bytes)) = some (some (.int .u8 0), 1, 1) := by kernel_rfl
theorem sizeU8 : (Tryz.prog.info? 5).map (·.size) = some 1 := by kernel_rfl
theorem run_make_u8 {P : Program} (t e : TypeId) (i : TypeInfo) (ht : P.underlying t = some (.slice e)) (hi : P.info? e = some i) (hz : i.zero = some (.int .u8 0)) (hs : i.size = 1) (hb : i.bytes = 1) (n : Nat) (hn : n ≤ 1000000) (w : World) :
    (Instr.makeSlice t (.int .i64 (n : Int)) (.int .i64 (n : Int))).run P w = .ok (.slice (some ⟨w.heap.size, 0, none⟩) n n) (w.alloc (.cells (u8s (List.replicate n 0)).toArray e)) := by
  have hr := run_make (P := P) w t e i (.int .u8 0) ht hi hz .i64 .i64 n n (by omega) (by omega) (by rw [hb]; omega) (by omega)
  simp only [Int.toNat_natCast] at hr
  rw [hr, hs]
  have e1 : madeCells (Value.int .u8 0).cells (n * 1) = (u8s (List.replicate n 0)).toArray := by
    apply Array.ext'
    rw [show (Value.int .u8 0).cells = #[.int .u8 0] from rfl, toList_madeCells_one]
    simp [u8s]
  rw [e1]
def OwnU (W : World) (base : Nat) (v : Value) (zs : List Int) : Prop := W.ownsRow base 5 1 v zs.length (u8s zs)
def fillL (zs : List Int) (k : Nat) : List Int := zs.take k ++ List.replicate (zs.length - k) 0
theorem fillL_len (zs : List Int) {k : Nat} (hk : k ≤ zs.length) : (fillL zs k).length = zs.length := by simp [fillL]; omega
theorem fillL_zero (zs : List Int) : fillL zs 0 = List.replicate zs.length 0 := by simp [fillL]
theorem fillL_all (zs : List Int) : fillL zs zs.length = zs := by simp [fillL]
theorem fillL_set (zs : List Int) {k : Nat} (hk : k < zs.length) : (fillL zs k).set k zs[k] = fillL zs (k + 1) := by
  unfold fillL
  have e1 : (zs.take k).length = k := by simp; omega
  obtain ⟨m, hm⟩ : ∃ m, zs.length - k = m + 1 := ⟨zs.length - k - 1, by omega⟩
  rw [List.set_append_right _ _ (by omega), e1, Nat.sub_self, hm, List.replicate_succ, List.set_cons_zero, show zs.length - (k + 1) = m by omega, List.take_add_one, List.getElem?_eq_getElem hk]
  simp only [Option.toList_some, List.append_assoc, List.singleton_append]
theorem u8s_set (zs : List Int) (k : Nat) (z : Int) : (u8s zs).set k (.int .u8 z) = u8s (zs.set k z) := by simp [u8s, List.map_set]
theorem conv_u8 {W : World} {B c : Nat} {A : Option Addr} {zs : List Int} (h : OwnU W B (.slice A zs.length c) zs) : (convert 34 9 (.slice A zs.length c)).run Tryz.prog W = .ok (.string (strOfNums zs)) W := by
  cases zs with
  | nil =>
    rcases h.2 with ⟨e, _⟩ | ⟨g, cap, cur, hv, _⟩
    · rw [e]
      exact run_convert_bytes_nil W 34 5 Tryz.underlying34 Tryz.underlying5 0 0 9 Tryz.underlying9
    · rw [hv]
      exact run_convert_bytes_arg W 34 5 Tryz.underlying34 Tryz.underlying5 g 0 0 cap [] rfl (fun i hi => by omega) 9 Tryz.underlying9
  | cons z zs =>
    obtain ⟨b, off, rfl, hb, hc⟩ := Vals.own h (by simp [u8s])
    exact run_convert_bytes_arg W 34 5 Tryz.underlying34 Tryz.underlying5 b off _ c (z :: zs) rfl (fun i hi => hc i _ (by
      rw [u8s, List.getElem?_map, List.getElem?_eq_getElem hi]
      simp [List.getD, List.getElem?_eq_getElem hi])) 9 Tryz.underlying9

end Go.Proofs.YtpnnlmaipcjkmaaGreat

namespace Go.Proofs.YtpnnlmaipcjkmaaGreat
open Go.RowKit Go.Maps Go.ChangeMaps
open R6 (done done_ne done_me upd_ne upd_me)

theorem Tryz.laidOutM : laidOutB Tryz.prog = true := by kernel_rfl
theorem kLawO : WideMaps.KeyLaw Tryz.prog 162 := deep_law_laid (P := Tryz.prog) Tryz.laidOutM (m := 4) (by omega) (k := 162) (of_decide_eq_true (by kernel_rfl)) (by kernel_rfl) (by kernel_rfl)
theorem keyedO : Keyed Tryz.prog 162 := Keyed.of_law kLawO
def ogv (o : Og) : Value := .agg (ogl o).toArray
def ogOk (o : Og) : Prop := idOk o.clone ∧ idOk o.cut ∧ idOk o.shot
theorem lits_int5 (d : Nat) {n : Int} (h : idOk n) : Tryz.prog.keyLits (d + 1) 3 [.int .i64 n] = some [.int .i64 n] := by
  have hw := WalkArith.wf_i64 h
  simp [Program.keyLits, Tryz.underlying3, hw]
theorem cellsIO : Tryz.prog.cellsOf 3 = 1 := by kernel_rfl
theorem cellsOg : Tryz.prog.cellsOf 162 = 3 := by kernel_rfl
theorem ogv_key (o : Og) (h : ogOk o) : ∃ kl, keyOf Tryz.prog 162 (ogv o) = some kl := by
  have hN : Tryz.prog.types.size + 1 = (Tryz.prog.types.size - 1) + 1 + 1 := by kernel_rfl
  have hl : Tryz.prog.keyLits ((Tryz.prog.types.size - 1) + 1 + 1) 162 (ogl o) = some [.int .i64 o.clone, .int .i64 o.cut, .int .i64 o.shot] := by
    unfold Program.keyLits
    simp only [Tryz.underlying162, cellsOg]
    simp [ogl, List.mapM_cons, cellsIO, lits_int5 _ h.1, lits_int5 _ h.2.1, lits_int5 _ h.2.2]
  rw [← hN] at hl
  refine ⟨.string (keyBytes [.int .i64 o.clone, .int .i64 o.cut, .int .i64 o.shot]), ?_⟩
  unfold keyOf
  rw [Tryz.underlying162]
  have hk : Tryz.prog.keyType 162 = true := by kernel_rfl
  have hf : (ogv o).formed Tryz.prog 162 = true := by simp [Value.formed, ogv, ogl, Tryz.underlying162, cellsOg]
  simp only [hk, hf, Bool.and_self, if_true]
  rw [show (ogv o).cells.toList = ogl o from rfl, hl]
  rfl
theorem ogv_inj {o q : Og} (h : ogv o = ogv q) : o = q := by
  simp only [ogv, ogl, Value.agg.injEq] at h
  have h0 := congrArg Array.toList h
  simp only [List.cons.injEq, Value.int.injEq, true_and, and_true] at h0
  cases o; cases q
  simp_all
theorem zeroIO (w : World) : (zeroValue 3).run Tryz.prog w = .ok (.int .i64 0) w := by kernel_rfl

def MapO (D : DataW Value) (F : Og → Int) : Prop := ∀ (o : Og) (kl : Lit), keyOf Tryz.prog 162 (ogv o) = some kl → D.atKey kl (.held (.int .i64 0)) = .held (.int .i64 (F o))
def OwnO (W : World) (mb n : Nat) (F : Og → Int) : Prop := ∃ D : DataW Value, W.ownsMap Tryz.prog 162 rdE mb n D ∧ MapO D F
def ogEq (a b : Og) : Bool := decide (a.clone = b.clone) && (decide (a.cut = b.cut) && decide (a.shot = b.shot))
theorem ogEq_iff {a b : Og} : ogEq a b = true ↔ a = b := by
  cases a; cases b
  simp [ogEq]
def updO (F : Og → Int) (o : Og) (x : Int) : Og → Int := fun q => if ogEq q o = true then x else F q
theorem OwnO.made {W : World} {mb : Nat} (h : W.heap[mb]? = some (.map #[] 0)) : OwnO W mb 0 fun _ => 0 := by
  refine ⟨.map [], ⟨#[], 0, h, ?_⟩, fun _ _ _ => rfl⟩
  have := World.ownsMap_made (H := Value) W Tryz.prog 162 rdE
  obtain ⟨es, cl, hb, r⟩ := this
  rw [World.alloc_heap_new] at hb
  simp only [Option.some.injEq, Obj.map.injEq] at hb
  obtain ⟨rfl, rfl⟩ := hb
  exact r
theorem OwnO.block {W W' : World} {mb n : Nat} {F : Og → Int} (h : OwnO W mb n F) (e : W'.heap[mb]? = W.heap[mb]?) : OwnO W' mb n F := by
  obtain ⟨D, h1, h2⟩ := h
  refine ⟨D, ?_, h2⟩
  unfold World.ownsMap at h1 ⊢
  rw [e]
  exact h1
theorem OwnO.lt {W : World} {mb n : Nat} {F : Og → Int} (h : OwnO W mb n F) : mb < W.heap.size := let ⟨_, h1, _⟩ := h; h1.lt
section
variable {op : Oper} {a : Act} {w : World} {R : Value → World → Prop} {M n : Nat} {F : Og → Int}
theorem gives_lookO (m x : Operand) (hop : op.op = Op.lookup 160 m x false) (hm : a.eval m = .map (some M)) (hO : OwnO w M n F) {o : Og} (ho : ogOk o) (hx : a.eval x = ogv o) (h : R (.int .i64 (F o)) w) : gives Tryz.prog op a w R := by
  obtain ⟨D, h1, h2⟩ := hO
  obtain ⟨kl, hk⟩ := ogv_key o ho
  obtain ⟨v, ps, hrun, hv⟩ := h1.lookup keyedO Tryz.underlying160 (zeroIO w) (zd := .held (.int .i64 0)) (zp := []) rfl hk
  simp only [rdE, Option.some.injEq, Prod.mk.injEq, h2 o kl hk, DataW.held.injEq] at hv
  rw [hv.1] at hrun
  unfold gives
  simp [execOp, hop, hm, hx, hrun, Result.andThen]
  exact h
theorem entry_mid {H : Type} {P : Program} {w : World} {t k e : TypeId} {R : Value → Option (DataW H × List MemPlace)} {b : Nat} {es : Array MapEntry} {clock : Nat} (K : WideMaps.KeyLaw P k) (ht : P.underlying t = some (.map k e)) {z : Value} (hz : ∀ u : World, (zeroValue e).run P u = .ok z u) (hb : w.heap[b]? = some (.map es clock)) (F : WideElems.Fit P k R es clock)
    {key : Value} {kl : Lit} (hkey : keyOf P k key = some kl) :
    ∃ v0 st W1, (Instr.mapEntry t (.map (some b)) key).run P w = .ok (.tuple #[v0, goInt st]) W1 ∧ (W1.heap[b]? = some (.map es clock) ∨ ((Instr.mapUpdate t (.map (some b)) key z).run P w = .ok () W1 ∧ ∀ x ∈ es.toList, x.key ≠ key)) := by
  have hbs : b < w.heap.size := lt_of_heap hb
  rcases K.find w hkey es.toList F.keys with ⟨h1, h2⟩ | ⟨j, e0, h1, h2, h3⟩
  · refine ⟨z, clock, setBlock w b (.map (es.push ⟨key, z, clock⟩) (clock + 1)), ?_, .inr ⟨?_, h2⟩⟩
    · simp [Instr.mapEntry, run_underlying ht, MapKept.run_getObj_map hb, K.check w false hkey, h1, hz, MapKept.run_setObj_map _ hb, Result.andThen, setBlock]
    · simp [Instr.mapUpdate, run_underlying ht, MapKept.run_getObj_map hb, K.check w false hkey, h1, MapKept.run_setObj_map _ hb, Result.andThen, setBlock]
  · have hj : es[j]? = some e0 := by simpa using h2
    have hsame : es.modify j (fun e => { e with key := key }) = es := by
      apply Array.ext'
      rw [Array.toList_modify, ChangeMaps.modify_eq_set _ _ _ _ h2]
      have : ({ e0 with key := key } : MapEntry) = e0 := by rw [← h3]
      rw [this]
      exact WideElems.set_self _ _ _ h2
    refine ⟨e0.val, e0.born, setBlock w b (.map es clock), ?_, .inl (by simp [setBlock, hbs])⟩
    simp [Instr.mapEntry, run_underlying ht, MapKept.run_getObj_map hb, K.check w false hkey, h1, hj, h3, K.stays w hkey, hsame, MapKept.run_setObj_map _ hb, Result.andThen, setBlock]
structure Entry (w : World) (M n : Nat) (F : Og → Int) (o : Og) (x : Int) (st : Nat) (W W' : World) : Prop where
  first : w.grownBy W (some M)
  next : w.grownBy W' (some M)
  store : (Instr.entryStore 160 (.map (some M)) (goInt st) (.int .i64 x)).run Tryz.prog W = .ok () W'
  own : OwnO W' M (n + 1) (updO F o x)
  mid : OwnO W M (n + 1) F
theorem gives_entry (m y : Operand) (hop : op.op = Op.mapEntry 160 m y) (hm : a.eval m = .map (some M)) (hO : OwnO w M n F) (hn : n < maxLen) {o : Og} (ho : ogOk o) (hx : a.eval y = ogv o) (x : Int)
    (h : ∀ v0 st W W', Entry w M n F o x st W W' → R (.tuple #[v0, goInt st]) W) : gives Tryz.prog op a w R := by
  obtain ⟨D, h1, h2⟩ := hO
  obtain ⟨kl, hk⟩ := ogv_key o ho
  obtain ⟨w', hrun, r1, r2⟩ := h1.update keyedO Tryz.underlying160 hn hk (val := .int .i64 x) (d := .held (.int .i64 x)) (ps := []) rfl
  have hD := h1.isMap
  have hO0 : OwnO w M n F := ⟨D, h1, h2⟩
  obtain ⟨wz, hrunz, rz, -⟩ := h1.update keyedO Tryz.underlying160 hn hk (val := .int .i64 0) (d := .held (.int .i64 0)) (ps := []) rfl
  obtain ⟨es, clock, hb, Ft, -, hDe⟩ := h1
  obtain ⟨v9, st9, W9, e9, c9⟩ := entry_mid kLawO Tryz.underlying160 zeroIO hb Ft hk
  obtain ⟨v0, st, es1, clock1, e1, -, e2⟩ := WideElems.entry_then_store kLawO Tryz.underlying160 zeroIO hb Ft hk
  have hM : M < w.heap.size := lt_of_heap hb
  have hsame : ∀ ob : Obj, (setBlock w M ob).heap[M]? = some ob := fun ob => by simp [setBlock, hM]
  obtain ⟨es', clock', e3, e4⟩ := e2 (setBlock w M (.map es1 clock1)) (.int .i64 x) (hsame _)
  rw [hrun] at e4
  simp only [Result.ok.injEq, true_and] at e4
  have hss : setBlock (setBlock w M (.map es1 clock1)) M (.map es' clock') = w' := by
    rw [e4]
    simp [setBlock]
  rw [hss] at e3
  have hg : w.grownBy (setBlock w M (.map es1 clock1)) (some M) := ⟨rfl, rfl, rfl, by simp [setBlock], fun i _ hi => by simp only [setBlock]; rw [Array.getElem?_setIfInBounds_ne (fun e => hi (by rw [e]))]⟩
  rw [e1] at e9
  simp only [Result.ok.injEq] at e9
  have hmid : OwnO (setBlock w M (.map es1 clock1)) M (n + 1) F := by
    rw [e9.2]
    rcases c9 with c9 | ⟨c9, ca⟩
    · exact (let ⟨D', a, b⟩ := hO0.block (W' := W9) (c9.trans hb.symm); ⟨D', a.mono (Nat.le_succ n), b⟩)
    · rw [hrunz] at c9
      simp only [Result.ok.injEq, true_and] at c9
      rw [← c9]
      have hF0 : F o = 0 := by
        have hh := h2 o kl hk
        rcases Maps.fit_look false keyedO Tryz.underlying160 (zeroIO w) hb Ft hk with ⟨_, _, hat⟩ | ⟨e0, y, he0, hek, _⟩
        · rw [hDe, hat] at hh
          simp only [DataW.held.injEq, Value.int.injEq, true_and] at hh
          exact hh.symm
        · exact absurd hek (ca e0 he0)
      refine ⟨_, rz, fun q kq hq => ?_⟩
      by_cases e : q = o
      · subst e
        rw [hk] at hq
        simp only [Option.some.injEq] at hq
        subst hq
        rw [atKey_put_same hD (keyedO.key hk) _ _, hF0]
      · have hne : kq ≠ kl := fun hh => e (ogv_inj (keyedO.inj hq (by rw [hh]; exact hk)))
        rw [atKey_put_other hne]
        exact h2 q kq hq
  unfold gives
  simp [execOp, hop, hm, hx, e1, Result.andThen]
  refine h v0 st _ w' ⟨hg, r2, e3, ⟨_, r1, fun q kq hq => ?_⟩, hmid⟩
  unfold updO
  by_cases e : q = o
  · subst e
    rw [hk] at hq
    simp only [Option.some.injEq] at hq
    subst hq
    rw [if_pos (ogEq_iff.2 rfl)]
    exact atKey_put_same hD (keyedO.key hk) _ _
  · have hne : kq ≠ kl := fun hh => e (ogv_inj (keyedO.inj hq (by rw [hh]; exact hk)))
    rw [if_neg (fun h => e (ogEq_iff.1 h)), atKey_put_other hne]
    exact h2 q kq hq
end

structure EnC (w5 : World) (M n : Nat) (F : Og → Int) (o : Og) (x : Int) (K : List (Nat × Obj)) (D : Nat → Bool) (σ : Nat → Value) (W : World) : Prop where
  pre : D 5 = false → Below w5.heap.size w5 W ∧ keptK K W
  mid : D 5 = true → D 7 = false → ∃ W0 v0 st W', Below w5.heap.size w5 W0 ∧ Entry W0 M n F o x st W W' ∧ σ 25 = .tuple #[v0, goInt st] ∧ (D 6 = true → σ 26 = goInt st)
  post : D 7 = true → ∃ W0, Below w5.heap.size w5 W0 ∧ W0.grownBy W (some M) ∧ OwnO W M (n + 1) (updO F o x)
def enK (k : Nat) (d : Option Nat) : Bool := !(k == 5 || k == 6 || k == 7 || d == some 25 || d == some 26)
section
variable {w5 W W' : World} {M n : Nat} {F : Og → Int} {o : Og} {x : Int} {K : List (Nat × Obj)} {D : Nat → Bool} {σ : Nat → Value}
theorem EnC.move {k : Nat} {d : Option Nat} {v : Value} (h : EnC w5 M n F o x K D σ W) (hk : enK k d = true) : EnC w5 M n F o x K (done D k) (R4.upd σ d v) W := by
  simp only [enK, Bool.not_eq_true', Bool.or_eq_false_iff, beq_eq_false_iff_ne, ne_eq] at hk
  obtain ⟨⟨⟨⟨a5, a6⟩, a7⟩, d25⟩, d26⟩ := hk
  have f := fun j (hj : j ≠ k) => done_ne (D := D) (k := k) (j := j) hj
  exact ⟨by rw [f 5 (by omega)]; exact h.pre, by rw [f 5 (by omega), f 6 (by omega), f 7 (by omega), upd_ne (ρ := σ) (v := v) d25, upd_ne (ρ := σ) (v := v) d26]; exact h.mid, by rw [f 7 (by omega)]; exact h.post⟩
theorem EnC.next {k : Nat} {d : Option Nat} {v : Value} (h : EnC w5 M n F o x K D σ W) (h5 : D 5 = false) (h7 : D 7 = false) (hg : Grows W W') (hk : enK k d = true) : EnC w5 M n F o x K (done D k) (R4.upd σ d v) W' := by
  simp only [enK, Bool.not_eq_true', Bool.or_eq_false_iff, beq_eq_false_iff_ne, ne_eq] at hk
  obtain ⟨⟨⟨⟨a5, a6⟩, a7⟩, d25⟩, d26⟩ := hk
  have f := fun j (hj : j ≠ k) => done_ne (D := D) (k := k) (j := j) hj
  exact ⟨fun _ => ⟨(h.pre h5).1.trans (hg.mono (h.pre h5).1.size), (h.pre h5).2.next hg⟩, (by rw [f 5 (by omega), h5]; intro e; cases e), (by rw [f 7 (by omega), h7]; intro e; cases e)⟩
theorem EnC.entry {v0 : Value} {st : Nat} {Wf : World} (h : EnC w5 M n F o x K D σ W) (h5 : D 5 = false) (h6 : D 6 = false) (h7 : D 7 = false) (he : Entry W M n F o x st W' Wf) : EnC w5 M n F o x K (done D 5) (R4.upd σ (some 25) (.tuple #[v0, goInt st])) W' := by
  have f := fun j (hj : j ≠ 5) => done_ne (D := D) (k := 5) (j := j) hj
  exact ⟨(fun e => by rw [done_me] at e; cases e), fun _ _ => ⟨W, v0, st, Wf, (h.pre h5).1, he, upd_me, (by rw [f 6 (by decide), h6]; intro e; cases e)⟩, (by rw [f 7 (by decide), h7]; intro e; cases e)⟩
end

section
variable {w5 W W' : World} {M n : Nat} {F : Og → Int} {o : Og} {x : Int} {K : List (Nat × Obj)} {D : Nat → Bool} {σ : Nat → Value}
theorem EnC.look (h : EnC w5 M n F o x K D σ W) (h7 : D 7 = false) (hO : OwnO w5 M n F) : ∃ m, OwnO W M m F := by
  cases h5 : D 5
  · exact ⟨n, hO.block ((h.pre h5).1.block _ hO.lt)⟩
  · obtain ⟨W0, v0, st, W', _, hE, _⟩ := h.mid h5 h7
    exact ⟨n + 1, hE.mid⟩
theorem EnC.ext {v0 : Value} {st : Nat} {W0 Wf : World} (h : EnC w5 M n F o x K D σ W) (h7 : D 7 = false) (hb : Below w5.heap.size w5 W0) (he : Entry W0 M n F o x st W Wf) (hv : σ 25 = .tuple #[v0, goInt st]) : EnC w5 M n F o x K (done D 6) (R4.upd σ (some 26) (goInt st)) W := by
  have f := fun j (hj : j ≠ 6) => done_ne (D := D) (k := 6) (j := j) hj
  have u := upd_ne (ρ := σ) (d := some 26) (v := goInt st) (t := 25) (by decide)
  exact ⟨by rw [f 5 (by decide)]; exact h.pre, fun _ _ => ⟨W0, v0, st, Wf, hb, he, by rw [u]; exact hv, fun _ => upd_me⟩, (by rw [f 7 (by decide), h7]; intro e; cases e)⟩
theorem EnC.fin {st : Nat} {W0 Wf : World} (h5 : D 5 = true) (hb : Below w5.heap.size w5 W0) (he : Entry W0 M n F o x st W Wf) : EnC w5 M n F o x K (done D 7) σ Wf := by
  have f := fun j (hj : j ≠ 7) => done_ne (D := D) (k := 7) (j := j) hj
  exact ⟨(fun e => by rw [f 5 (by decide), h5] at e; cases e), (fun _ e => by rw [done_me] at e; cases e), fun _ => ⟨W0, hb, he.next, he.own⟩⟩
end
section
variable {P : Program} {ops : Array Oper} {rest : List Oper} {op : Oper} {a : Act} {w : World} {Q : Exit → Act → World → Prop} {M n : Nat} {F : Og → Int}
theorem wpList_lookO (m x : Operand) (hgd : op.guard = none) (hop : op.op = Op.lookup 160 m x false) (hm : a.eval m = .map (some M)) (hO : OwnO w M n F) {o : Og} (ho : ogOk o) (hx : a.eval x = ogv o) (h : wpList Tryz.prog ops Q rest (a.put op.dst (.int .i64 (F o))) w) : wpList Tryz.prog ops Q (op :: rest) a w := by
  obtain ⟨D, h1, h2⟩ := hO
  obtain ⟨kl, hk⟩ := ogv_key o ho
  obtain ⟨v, ps, hrun, hv⟩ := h1.lookup keyedO Tryz.underlying160 (zeroIO w) (zd := .held (.int .i64 0)) (zp := []) rfl hk
  simp only [rdE, Option.some.injEq, Prod.mk.injEq, h2 o kl hk, DataW.held.injEq] at hv
  rw [hv.1] at hrun
  refine wpList_plain hgd fun K hK => ?_
  unfold Oper.wp execOp
  simp [hop, hm, hx, hrun, Sem.run_bind, Result.andThen_ok]
  exact hK _ _ h
end

def orgP (p : Pol) : Og := ⟨p.clone, p.cut, p.shot⟩
def cntO (ps : List Pol) (o : Og) : Nat := (ps.filter fun p => ogEq (orgP p) o).length
def knT (l : List Gv) (ps : List Pol) (p : Pol) : Int := if culmsL l (orgP p) = 0 then 0 else if culmsL l (orgP p) < (cntO ps (orgP p) : Int) then 1 else 2
def traceL (l : List Gv) (ps : List Pol) : List Int := ps.map (knT l ps)
def cntF (ps : List Pol) : Og → Int := fun o => (cntO ps o : Int)
theorem cntO_le (ps : List Pol) (o : Og) : cntO ps o ≤ ps.length := List.length_filter_le _ _
theorem cntF_zero : cntF [] = fun _ => 0 := by funext o; simp [cntF, cntO]
theorem cntF_step (ps : List Pol) (m : Nat) (hm : m < ps.length) : cntF (ps.take (m + 1)) = updO (cntF (ps.take m)) (orgP ps[m]) (cntF (ps.take m) (orgP ps[m]) + 1) := by
  funext q
  unfold updO cntF cntO
  rw [List.take_add_one, List.getElem?_eq_getElem hm, List.filter_append, List.length_append]
  by_cases h : q = orgP ps[m]
  · subst h
    rw [if_pos (ogEq_iff.2 rfl)]
    simp [ogEq_iff.2 (rfl : orgP ps[m] = orgP ps[m])]
  · rw [if_neg (fun e => h (ogEq_iff.1 e))]
    have : ogEq (orgP ps[m]) q = false := by
      cases hh : ogEq (orgP ps[m]) q
      · rfl
      · exact absurd (ogEq_iff.1 hh).symm h
    simp [this]
theorem okPol_og {p : Pol} (h : okPol p = true) : ogOk (orgP p) := by
  have hy := okPol_yrs h
  simp only [okPol, Bool.and_eq_true, inR_iff] at h
  have := h.1
  unfold yrs at hy
  unfold ogOk orgP idOk
  dsimp only
  omega

set_option maxRecDepth 100000 in
set_option maxHeartbeats 4000000 in
theorem gtOrigin_any (p : Pol) (w : World) : Calls Tryz.prog 79 #[.agg (pcl p).toArray] w fun e w' => e = .returned (ogv (orgP p)) ∧ Below w.heap.size w w' := by
  obtain ⟨w1, hw1⟩ : ∃ w1, (w.alloc (.cells (pcl p).toArray 56)).alloc (.cells #[.int .i64 0, .int .i64 0, .int .i64 0] 162) = w1 := ⟨_, rfl⟩
  have hb1 : Below w.heap.size w w1 := by rw [← hw1]; exact grow2 _ _ _
  have m1 : w1.heap[w.heap.size]? = some (.cells (pcl p).toArray 56 (0, 0)) := by rw [← hw1]; exact alloc2_at0 _ _ _
  have m2 : w1.heap[w.heap.size + 1]? = some (.cells [Value.int .i64 0, .int .i64 0, .int .i64 0].toArray 162 (0, 0)) := by rw [← hw1]; exact alloc2_at1 _ _ _
  have f1 : w1.cell? ⟨w.heap.size, 1, none⟩ = some (.int .i64 p.clone) := cell_of_row w1 _ 1 _ _ _ m1
  have f2 : w1.cell? ⟨w.heap.size, 2, none⟩ = some (.int .i64 p.cut) := cell_of_row w1 _ 2 _ _ _ m1
  have f3 : w1.cell? ⟨w.heap.size, 3, none⟩ = some (.int .i64 p.shot) := cell_of_row w1 _ 3 _ _ _ m1
  have H1 := Lib.hid (And.intro hb1 m2)
  clear hb1 m1 m2
  unfold pcl at hw1 ⊢
  unfold ogv orgP
  go_enter Tryz.func79, Tryz.ntmps79
  go_wp2_with
    (show wpList _ _ _ (Oper.mk none (Op.store _ (Operand.tmp 2) (Operand.tmp 9)) _ _ _ _ :: _) _ _
     refine wpList_store_blk 162 (.tmp 2) (.tmp 9) (cs := [.int .i64 p.clone, .int .i64 p.cut, .int .i64 p.shot]) rfl rfl rfl rfl rfl H1.out.2 (Nat.le_of_ble_eq_true rfl) (by intro v hv; simp only [List.mem_cons, List.not_mem_nil, or_false] at hv; rcases hv with rfl | rfl | rfl <;> rfl) rowOrigin ?_
     intro w3 hP3 hM3
     rw [splice_whole (by rfl)] at hM3
     have H3 := Lib.hid (And.intro (H1.out.1.trans (hP3.below (by omega))) hM3)
     clear hP3 hM3)
  refine bodyPost_ret (v := .agg #[.int .i64 p.clone, .int .i64 p.cut, .int .i64 p.shot]) (results_cell1 (cs := [.int .i64 p.clone, .int .i64 p.cut, .int .i64 p.shot]) Tryz.results79 rfl H3.out.2 rowOrigin) rfl ⟨rfl, H3.out.1⟩

end Go.Proofs.YtpnnlmaipcjkmaaGreat
