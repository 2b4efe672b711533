/-
  A grading in new memory (the reference's TwinGrading).
-/
import Derived.Test.YtboffligjgjgjaaGrVa
import Derived.Test.YtboffligjgjgjaaGrV
import Derived.Deep.DeepMust
import Derived.Outline
namespace Go.Proofs.Ytboffligjgjgjaa
open Go.RowKit
open R6 (done done_ne done_me upd_ne upd_me)

attribute [local go_sem] gives

section
variable {P : Program} {ops : Array Oper} {rest : List Oper} {o : Oper} {a : Act} {w : World} {Q : Exit → Act → World → Prop}
theorem wpList_app2 (s x : Operand) (t : TypeId) (hgd : o.guard = none)
    (ho : o.op = .call { callee := .builtin .append, args := #[s, x], argTypes := #[t, t] })
    (base : Nat) (e : TypeId) (i : TypeInfo) (z : Value) (size bytes : Nat) (ht : P.underlying t = some (.slice e)) (hi : P.info? e = some i) (hz : i.zero = some z)
    (hsize : i.size = size) (hby : i.bytes = bytes) (hzs : z.cells.size = size) (hsz : 0 < size)
    {v : Value} {n : Nat} {xs : List Value} (hs : a.eval s = v) (hown : w.ownsRow base e size v n xs)
    {B : Nat} {A : Option Addr} {m c : Nat} {vs : List Value} (hx : a.eval x = .slice A m c) (hr : Vals w B A vs) (hl : vs.length = m * size) (h1 : ∀ u ∈ vs, u.oneCell' = true)
    (h63 : n + m ≤ maxLen) (hbytes : (n + m) * bytes ≤ 140737488355328) (hbase : base ≤ w.heap.size)
    (h : ∀ v' w', w'.ownsRow base e size v' (n + m) (xs ++ vs) → w.grownBy w' v.ownBlock → wpList P ops Q rest (a.put o.dst v') w') : wpList P ops Q (o :: rest) a w := by
  obtain ⟨v', w', hrun, h2, h3, h4⟩ := run_app (P := P) w base t o.type e i z size bytes ht hi hz hsize hby hzs hsz v n xs hown B A m c vs hr hl h1 h63 hbytes hbase
  refine wpList_plain hgd fun K hK => ?_
  unfold Oper.wp execOp
  simp only [ho, resolve, invoke, builtin, Sem.run_bind, Sem.run_pure, Result.andThen_ok, List.map_toArray, List.map_cons, List.map_nil, hs, hx, hrun]
  exact hK _ _ (h v' w' h2 h3)
theorem wpList_store_v5 (ty : TypeId) (x y : Operand) (hgd : o.guard = none) (ho : o.op = .store ty x y) (hd : o.dst = none) {b f : Nat} (hx : a.eval x = .pointer (some ⟨b, f, none⟩)) {v : Value} (hy : a.eval y = v) (hv : v.cells = #[v]) (h1 : v.oneCell' = true)
    {L : List Value} {t : TypeId} (hb : w.heap[b]? = some (.cells L.toArray t (0, 0))) (hfit : f < L.length) (hty : (P.info? ty).map (·.size) = some 1)
    (h : ∀ w', Put w w' b → w'.heap[b]? = some (.cells (L.set f v).toArray t (0, 0)) → wpList P ops Q rest a w') : wpList P ops Q (o :: rest) a w := by
  refine wpList_plain hgd fun K hK => ?_
  have hrun := run_store_one (P := P) (v := v) hb hfit hv h1 hty
  unfold Oper.wp execOp
  simp only [ho, hx, hy, Sem.run_bind, Sem.run_pure, hrun, Result.andThen_ok]
  refine hK _ _ ?_
  rw [hd]
  refine h _ (put_setCells b [v] f w) ?_
  have := heap_setCell_same w b f _ _ v hb
  rwa [List.setIfInBounds_toArray] at this
end
theorem infoGL : (Try.prog.info? 26).map (·.size) = some 1 := by kernel_rfl

def TwinGPost (w : World) (gs : List Gd) (vary : Int) (e : Ending) (w' : World) : Prop :=
  ∃ v1, e = .returned (.agg #[v1, .int .i64 vary]) ∧ w'.ownsRow w.heap.size 82 8 v1 gs.length (gs.flatMap gcl) ∧ Below w.heap.size w w'

set_option maxRecDepth 100000 in
set_option maxHeartbeats 8000000 in
theorem rfTwinGrading_any (gs : List Gd) (vary : Int) (AG : Option Addr) (cg : Nat) (B : Nat) (w : World) (hB : B ≤ w.heap.size) (hg : GdAt w B gs AG) (hl1 : gs.length ≤ 1000) :
    Calls Try.prog 6 #[.agg #[.slice AG gs.length cg, .int .i64 vary]] w (TwinGPost w gs vary) := by
  obtain ⟨i1, hi1, hz1, hsz1, hby1⟩ := info_parts infoGrade5
  have HI := Lib.hid (And.intro hi1 (And.intro hz1 (And.intro hsz1 hby1)))
  clear hi1 hz1 hsz1 hby1
  obtain ⟨w1, hw1⟩ : ∃ w1, (w.alloc (.cells #[.slice AG gs.length cg, .int .i64 vary] 28)).alloc (.cells #[.slice none 0 0, .int .i64 0] 28) = w1 := ⟨_, rfl⟩
  have hb1 : Below w.heap.size w w1 := by rw [← hw1]; exact grow2 _ _ _
  have hs1 : w1.heap.size = w.heap.size + 2 := by rw [← hw1]; simp
  have m1 : w1.heap[w.heap.size]? = some (.cells [.slice AG gs.length cg, .int .i64 vary].toArray 28 (0, 0)) := by rw [← hw1]; exact alloc2_at0 _ _ _
  have m2 : w1.heap[w.heap.size + 1]? = some (.cells #[.slice none 0 0, .int .i64 0] 28 (0, 0)) := by rw [← hw1]; exact alloc2_at1 _ _ _
  have f1 : (w1.alloc (.cells #[] 82)).cell? ⟨w.heap.size, 0, none⟩ = some (.slice AG gs.length cg) := cell_of_row _ _ 0 _ _ _ ((Below.heap_alloc _ _ _ (by omega)).trans m1)
  have H1 := Lib.hid (And.intro hb1 (And.intro m1 (And.intro m2 hs1)))
  have HZ := Lib.hid (And.intro hg hl1)
  clear hb1 hs1 m1 m2 hg hl1
  unfold TwinGPost
  go_enter Try.func6, Try.ntmps6
  go_wp2_with (first
    | (show wpList _ _ _ (Oper.mk (some 6) _ _ _ _ _ :: _) _ _
       have hzl := HZ.out.2
       have hb2 : Below w.heap.size w (w1.alloc (.cells #[] 82)) := H1.out.1.alloc (by have := H1.out.2.2.2; omega) _
       refine wpList_app2 (.tmp 3) (.tmp 5) 26 rfl rfl (w.heap.size + 2) 82 i1 _ 8 64 Try.underlying26 HI.out.1 HI.out.2.1 HI.out.2.2.1 HI.out.2.2.2 rfl (by decide) rfl (own_empty (alloc_at0 _ _) (by have := H1.out.2.2.2; omega)) rfl ((HZ.out.1.g.mono hB).below hb2) (flat_mul gcl_len gs) (gcl_one gs) (by simp only [maxLen]; omega) (by omega) (by have := H1.out.2.2.2; simp; omega) ?_
       intro v' w2 ho hgr
       rw [Nat.zero_add, List.nil_append] at ho
       obtain ⟨A1, c1, rfl⟩ := own_slice ho
       have hw12 := H1.out.2.2.2
       have hgn : ∀ {k : Nat}, k < w.heap.size + 2 → some k ≠ (Value.slice (some ⟨w1.heap.size, 0, none⟩) 0 0).ownBlock := fun {k} hk e => by have e2 : k = w1.heap.size := (by cases e; rfl); omega
       have H2 := Lib.hid (And.intro ho (And.intro ((hgr.block w.heap.size (by simp; omega) (hgn (by omega))).trans ((Below.heap_alloc _ _ _ (by omega)).trans H1.out.2.1)) (And.intro ((hgr.block (w.heap.size + 1) (by simp; omega) (hgn (by omega))).trans ((Below.heap_alloc _ _ _ (by omega)).trans H1.out.2.2.1)) (hb2.grown hgr hb2.size (fun q e => by have e2 : q = w1.heap.size := (by cases e; rfl); omega)))))
       clear ho hgr hb2 hgn)
    | (show wpList _ _ _ (Oper.mk none (Op.store _ (Operand.tmp 7) (Operand.tmp 6)) _ _ _ _ :: _) _ _
       refine wpList_store_v5 26 (.tmp 7) (.tmp 6) rfl rfl rfl rfl rfl rfl rfl (L := [.slice AG gs.length cg, .int .i64 vary]) H2.out.2.1 (Nat.le_of_ble_eq_true rfl) infoGL ?_
       intro w4 hP4 hM4
       have H4 := Lib.hid (And.intro hP4 (And.intro (show w4.heap[w.heap.size]? = some (.cells [Value.slice A1 gs.length c1, .int .i64 vary].toArray 28 (0, 0)) from hM4) ((hP4.other _ (by omega)).trans H2.out.2.2.1)))
       clear hP4 hM4)
    | (show wpList _ _ _ (Oper.mk (some 8) _ _ _ _ _ :: _) _ _
       refine wpList_load_blk 28 (.tmp 1) rfl rfl rfl H4.out.2.1 [.slice A1 gs.length c1, .int .i64 vary] at0 rowGradingP ?_)
    | (show wpList _ _ _ (Oper.mk none (Op.store _ (Operand.tmp 2) (Operand.tmp 8)) _ _ _ _ :: _) _ _
       refine wpList_store_blk 28 (.tmp 2) (.tmp 8) rfl rfl rfl rfl (cs := [.slice A1 gs.length c1, .int .i64 vary]) (L := [.slice none 0 0, .int .i64 0]) rfl H4.out.2.2 (Nat.le_of_ble_eq_true rfl) (by intro v hv; simp only [List.mem_cons, List.not_mem_nil, or_false] at hv; rcases hv with rfl | rfl <;> rfl) rowGradingP ?_
       intro w3 hP3 hM3
       rw [splice_whole (by rfl)] at hM3
       have H3 := Lib.hid (And.intro hP3 hM3)
       clear hP3 hM3))
  refine bodyPost_ret (v := .agg #[.slice A1 gs.length c1, .int .i64 vary]) (results_cell1 (cs := [.slice A1 gs.length c1, .int .i64 vary]) Try.results6 rfl H3.out.2 rowGradingP) rfl ⟨_, rfl, ?_, (H2.out.2.2.2.trans (H4.out.1.below (by omega))).trans (H3.out.1.below (by omega))⟩
  have hl := (⟨(fun e => by cases e), fun _ => H2.out.1⟩ : LsC w2 (w.heap.size + 2) 82 8 gs.length (gs.flatMap gcl) false true undef (.slice A1 gs.length c1))
  exact own_weak (((hl.put H4.out.1 (by omega)).put H3.out.1 (by omega)).e1 rfl) (by omega)

end Go.Proofs.Ytboffligjgjgjaa
