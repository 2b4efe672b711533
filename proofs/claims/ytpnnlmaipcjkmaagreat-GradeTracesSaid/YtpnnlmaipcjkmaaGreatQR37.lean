/-
  Which poles have their cores reached, and when (the program's map).
-/
import Derived.Test.YtpnnlmaipcjkmaaGreatQR36
import Derived.Test.YtpnnlmaipcjkmaaGreatQR33
set_option linter.all false
namespace Go.Proofs.YtpnnlmaipcjkmaaGreat
open Go.RowKit Go.Shelf
open R6 (done done_ne done_me upd_ne upd_me)

attribute [local go_sem] Oper.semAt_some
attribute [local go_sem] gives

section
variable {F : Fence} {n : Nat} {P : Program} {ops : Array Oper} {rest : List Oper} {op : Oper} {a : Act} {w : World} {Q : Exit → Act → World → Prop}
theorem wpListIn_store_val (ty : TypeId) (x y : Operand) (hgd : op.guard = none) (ho : op.op = .store ty x y) (hd : op.dst = none) {b o : Nat} (hx : a.eval x = .pointer (some ⟨b, o, none⟩)) {v : Value} (hy : a.eval y = v) (hv : v.cells = #[v]) (h1 : v.oneCell' = true)
    {L : List Value} {t : TypeId} (hb : w.heap[b]? = some (.cells L.toArray t (0, 0))) (hfit : o < L.length) (hty : (P.info? ty).map (·.size) = some 1)
    (h : ∀ w', Put w w' b → w'.heap[b]? = some (.cells (L.set o v).toArray t (0, 0)) → wpListIn F n P ops Q rest a w') : wpListIn F n P ops Q (op :: rest) a w := by
  refine wpListIn_plain hgd fun K hK => ?_
  have hrun := run_store_one (P := P) (v := v) hb hfit hv h1 hty
  unfold Oper.wpIn
  refine ⟨by simp [Oper.about, ho], ?_⟩
  rw [Oper.semAt_plain F _ _ (by rw [ho]; intro c hc'; cases hc')]
  unfold execOp
  simp only [ho, hx, hy, Sem.run_bind, Sem.run_pure, hrun, Result.andThen_ok]
  refine hK _ _ ?_
  rw [hd]
  refine h _ (put_setCells b [v] o w) ?_
  have := heap_setCell_same w b o _ _ v hb
  rwa [List.setIfInBounds_toArray] at this
end

structure GroC (w0 : World) (D : Nat → Bool) (σ : Nat → Value) (W : World) : Prop where
  bel : Below w0.heap.size w0 W
theorem GroC.move {w0 W : World} {D D' : Nat → Bool} {σ σ' : Nat → Value} (h : GroC w0 D σ W) : GroC w0 D' σ' W := ⟨h.bel⟩
theorem GroC.next {w0 W W' : World} {D D' : Nat → Bool} {σ σ' : Nat → Value} (h : GroC w0 D σ W) (hg : Grows W W') : GroC w0 D' σ' W' := ⟨h.bel.trans (hg.mono h.bel.size)⟩
theorem whenF_some {g : Nat → Nat → Bool} {k p q last : Nat} (h : (whenF g k p q).isSome = true) (hk : k ≤ last) : whenF g k p q = firstB (g q) (last + 1) := by
  obtain ⟨j, hj⟩ := Option.isSome_iff_exists.1 h
  rw [hj]
  obtain ⟨a, b, c⟩ := firstB_some hj
  refine (firstB_eq ?_ b c).symm
  split at a <;> omega

theorem keyInt : Maps.Keyed Tryz.prog 3 := Maps.int_keyed Tryz.underlying3
theorem zeroInt (w : World) : (zeroValue 3).run Tryz.prog w = .ok (.int .i64 0) w := by kernel_rfl
theorem sizeMap : (Tryz.prog.info? 79).map (·.size) = some 1 := by kernel_rfl

theorem own_map_block {W W' : World} {b n : Nat} {D : DataW Value} (h : W.ownsMap Tryz.prog 3 (plainElem Tryz.prog 3) b n D) (e : W'.heap[b]? = W.heap[b]?) : W'.ownsMap Tryz.prog 3 (plainElem Tryz.prog 3) b n D := by
  unfold World.ownsMap at h ⊢
  rw [e]
  exact h
theorem own_map_lt {W : World} {b n : Nat} {D : DataW Value} (h : W.ownsMap Tryz.prog 3 (plainElem Tryz.prog 3) b n D) : b < W.heap.size := h.lt
def OwnM (W : World) (mb n : Nat) (f : Nat → Option Nat) : Prop := ∃ D : DataW Value, W.ownsMap Tryz.prog 3 (plainElem Tryz.prog 3) mb (Maps.size D) D ∧ MapIs D n f
theorem OwnM.block {W W' : World} {mb n : Nat} {f : Nat → Option Nat} (h : OwnM W mb n f) (e : W'.heap[mb]? = W.heap[mb]?) : OwnM W' mb n f := let ⟨D, a, b⟩ := h; ⟨D, own_map_block a e, b⟩
theorem OwnM.congr {W : World} {mb n : Nat} {f f' : Nat → Option Nat} (h : OwnM W mb n f) (e : ∀ q, q < n → f q = f' q) : OwnM W mb n f' := let ⟨D, a, b⟩ := h; ⟨D, a, b.congr e⟩
theorem OwnM.lt {W : World} {mb n : Nat} {f : Nat → Option Nat} (h : OwnM W mb n f) : mb < W.heap.size := let ⟨_, a, _⟩ := h; own_map_lt a
def ReachPost (w : World) (n : Nat) (f : Nat → Option Nat) (e : Ending) (w' : World) : Prop := ∃ mb, e = .returned (.map (some mb)) ∧ w.heap.size ≤ mb ∧ OwnM w' mb n f ∧ Below w.heap.size w w'

structure ReaC (w : World) (V : List Value) (n : Nat) (f : Nat → Option Nat) (W : World) : Prop where
  bel : Below w.heap.size w W
  b3 : W.heap[w.heap.size]? = some (.cells V.toArray 152 (0, 0))
  b7 : W.heap[w.heap.size + 1 + 1]? = some (.cells #[.map (some (w.heap.size + 1))] 79 (0, 0))
  map : OwnM W (w.heap.size + 1) n f
theorem ReaC.next {w W W' : World} {V : List Value} {n : Nat} {f : Nat → Option Nat} (h : ReaC w V n f W) {b : Nat} (hb : Below b W W') (hle : w.heap.size + 3 ≤ b) : ReaC w V n f W' :=
  ⟨h.bel.trans (below_low hb (by omega)), (hb.block _ (by omega)).trans h.b3, (hb.block _ (by omega)).trans h.b7, h.map.block (hb.block _ (by omega))⟩

set_option maxRecDepth 100000 in
set_option maxHeartbeats 8000000 in
theorem reached_any (t : Bt) (A : Option Addr) (cap : Nat) (l : List Sl) (sp : Int) (st : St) (last : Nat) (B : Nat) (w : World) (hB : B ≤ w.heap.size) (hz : Rows w B A l)
    (h1 : 1 ≤ sp) (h2 : sp ≤ 250) (hg : GoodS t.water st) (hl : lens st.2 = lens (rws l)) (h300 : last ≤ 300) :
    Calls Tryz.prog 116 #[.agg (bs t (.slice A l.length cap) st).toArray, .int .i64 sp, .int .i64 (last : Int)] w (ReachPost w l.length (fun q => firstB (hitB t.water sp t.need st q) (last + 1))) := by
  obtain ⟨S, hS⟩ : ∃ S : Nat → List Value, S = fun k => bs t (.slice A l.length cap) (runS t.water sp st k) := ⟨_, rfl⟩
  obtain ⟨m, hm⟩ : ∃ m, m = stopK t.water sp st last := ⟨_, rfl⟩
  have hSlen : ∀ k, (S k).length = 30 := fun k => by rw [hS]; exact bv_len _ _ _ _
  have hSone : ∀ k, (S k).toArray.all (·.oneCell') = true := fun k => by
    rw [List.all_toArray, List.all_eq_true, hS]
    exact bv_one _ _ _ _ _ _
  have hml : stopK t.water sp st last ≤ last := by unfold stopK; have := lastK_le (fixB t.water sp st) last 0; omega
  have hstp : ∀ q, whenF (hitB t.water sp t.need st) (stopK t.water sp st last + 1) 0 q = firstB (hitB t.water sp t.need st q) (last + 1) := fun q => by
    unfold whenF
    rw [if_neg (by omega)]
    refine (firstB_stop (by omega) fun j h1' h2' => ?_).symm
    unfold hitB
    rw [runS_stop h1 h2 hg last j h1' (by omega)]
  have HSS := Lib.hid (And.intro hS (And.intro hm (And.intro hSlen hSone)))
  have HST := Lib.hid hstp
  have HML := Lib.hid hml
  clear hS hm hSlen hSone hstp hml
  have hlen : (bs t (.slice A l.length cap) st).length = 30 := bv_len _ _ _ _
  have hV2 : (bs t (.slice A l.length cap) st).toArray[2]? = some (.slice A l.length cap) := rfl
  have hV5 : (bs t (.slice A l.length cap) st).toArray[5]? = some (.int .i64 t.need) := rfl
  obtain ⟨V, hV⟩ : ∃ V, V = bs t (.slice A l.length cap) st := ⟨_, rfl⟩
  rw [← hV] at hlen hV2 hV5 ⊢
  have HV := Lib.hid (And.intro hV (And.intro hlen (And.intro hV2 hV5)))
  have HZ := Lib.hid hz
  have HG := Lib.hid (And.intro hg hl)
  clear hV hlen hV2 hV5 hz hg hl
  refine (callsIn_wide (n := 4)).1 ?_
  refine callsIn_of_wp_marks Tryz.func116 rfl trivial ?_ rfl
  simp only [Tryz.ntmps116, List.size_toArray, List.length_cons, List.length_nil, Nat.reduceAdd, Nat.reduceSub, Array.replicate_succ, Array.replicate_zero, List.push_toArray, List.append_toArray, List.nil_append, List.cons_append]
  have hmm := @run_makeMap Tryz.prog
  gi_wp2_with fail
  refine wpIn_wide.2 ?_
  apply wp_scope_straight
  refine (wpIn_wide (n := 4)).1 ?_
  refine wpIn_seq ?_
  gi_wp2_with (first
    | (show wpListIn _ _ _ _ _ (Oper.mk none (Op.store _ (Operand.tmp 7) (Operand.tmp 13)) _ _ _ _ :: _) _ _
       refine wpListIn_store_val 79 (.tmp 7) (.tmp 13) rfl rfl rfl rfl rfl rfl rfl (L := [.map none]) (alloc3_at2 w _ _ _) (by simp) sizeMap ?_
       intro w4 hP4 hM4
       have hs4 := hP4.size
       simp only [World.size_alloc] at hs4
       have hb4 : Below w.heap.size w w4 := ((((Below.refl _ w).alloc (Nat.le_refl _) _).alloc (by simp) _).alloc (by simp; omega) _).trans (hP4.below (by omega))
       have h3 := (hP4.other w.heap.size (by omega)).trans (alloc3_at0 w _ _ _)
       have h6 := (hP4.other (w.heap.size + 1) (by omega)).trans (alloc3_at1 w _ _ _)
       have H4 := Lib.hid (And.intro hb4 (And.intro h3 (And.intro h6 hM4)))
       have HS4 := Lib.hid hs4
       clear hP4 hM4 hb4 h3 h6 hs4))
  refine wpIn_label ?_
  gi_wp2_with (first
    | (show wpListIn _ _ _ _ _ (Oper.mk (some 14) _ _ _ _ _ :: _) _ _
       refine wpListIn_load_blk 152 (.tmp 3) rfl rfl rfl H4.out.2.1 V (fun j v hj => by rw [Nat.zero_add, List.getElem?_toArray]; exact hj) (by rw [HV.out.2.1]; exact rowBatch) ?_)
    | (refine ⟨trivial, ?_⟩
       gi_at_call 120
       refine (callsIn_wide.2 (hours_any V sp last w4)).mono ?_
       rintro e w5 ⟨rfl, hw5⟩
       have H5 := Lib.hid hw5
       clear hw5))
  obtain ⟨hS, hm, hSlen, hSone⟩ := HSS.out
  have hrow : ∀ (k : Nat) (r : Array Value), (seqH t (.slice A l.length cap) sp st last)[k]? = some r → k ≤ m ∧ r = #[.int .i64 (k : Int), .agg (S k).toArray] := fun k r h => by
    have hk : k < (seqH t (.slice A l.length cap) sp st last).length := (List.getElem?_eq_some_iff.1 h).1
    rw [seqH_len, ← hm] at hk
    rw [seqH_at (by omega)] at h
    refine ⟨by omega, ?_⟩
    rw [← Option.some.inj h, hS]
    rfl
  have hlen := seqH_len t (.slice A l.length cap) sp st last
  rw [← hm] at hlen
  have hs4 := HS4.out
  have hs5 : w5.heap.size = w4.heap.size + 3 := by rw [H5.out]; simp
  have hb5 : Below w4.heap.size w4 w5 := by
    rw [H5.out]
    exact (((Below.refl _ _).alloc (Nat.le_refl _) _).alloc (by simp) _).alloc (by simp; omega) _
  have hbw5 : Below w.heap.size w w5 := H4.out.1.trans (hb5.mono (by omega))
  have HS := Lib.hid (And.intro hSlen (And.intro hSone (And.intro hrow hlen)))
  have h3 : w5.heap[w.heap.size]? = some (.cells V.toArray 152 (0, 0)) := (hb5.block _ (by omega)).trans H4.out.2.1
  have h7 : w5.heap[w.heap.size + 1 + 1]? = some (.cells #[.map (some (w.heap.size + 1))] 79 (0, 0)) := (hb5.block _ (by omega)).trans H4.out.2.2.2
  have h6 : OwnM w5 (w.heap.size + 1) l.length (whenF (hitB t.water sp t.need st) 0 0) := by
    refine ⟨.map [], ?_, mapIs_nil _ _ (fun q _ => rfl)⟩
    have h0 : w5.heap[w.heap.size + 1]? = some (.map #[] 0) := (hb5.block _ (by omega)).trans H4.out.2.2.1
    exact own_map_block (W := (w.alloc (.cells V.toArray 152)).alloc (.map #[] 0)) (by change World.ownsMap _ _ _ _ _ 0 _; have := World.ownsMap_made (H := Value) (w.alloc (.cells V.toArray 152)) Tryz.prog 3 (plainElem Tryz.prog 3); simpa using this) (by rw [h0]; exact (alloc2_at1 w _ _).symm)
  refine wpIn_rangeP rfl (by omega) (gf := 161) (lb := #[.pointer (some ⟨w4.heap.size, 0, none⟩), .pointer (some ⟨w4.heap.size + 1 + 1, 0, none⟩), .pointer (some ⟨w4.heap.size + 1, 0, none⟩)]) rfl trivial (enters_of Tryz.func161 (by kernel_rfl) rfl)
    (hours1 t A cap l sp st last (4 - 1) w.heap.size w4.heap.size (by omega) w5 (by omega) (by omega) ((HZ.out.mono hB).below hbw5) h1 h2 HG.out.1 HG.out.2 h300
      (by rw [H5.out, ← HV.out.1]; exact alloc3_at0 _ _ _ _) (by rw [H5.out]; exact alloc3_at1 _ _ _ _) (by rw [H5.out]; exact alloc3_at2 _ _ _ _)) (Below.refl _ _) (by omega) (fun k hk => by unfold capH at hk; omega)
    (fun r' hr' => by
      obtain ⟨k, hk, rfl⟩ := List.mem_map.1 hr'
      rfl)
    (fun k => k = w.heap.size + 1) (fun k hk => ⟨by omega, fun h => by unfold capH at h; omega, by omega⟩)
    (fun k A' => ReaC w V l.length (whenF (hitB t.water sp t.need st) k 0) A')
    (fun c k A' => c = .exit 0 ∧ ReaC w V l.length (fun q => firstB (hitB t.water sp t.need st q) (last + 1)) A')
    (fun k A' B' hi hb => hi.next hb (by omega))
    (fun c k A' B' hi hb => ⟨hi.1, hi.2.next hb (by omega)⟩)
    ⟨hbw5, h3, h7, h6⟩
    (fun k b a' A' => ∃ b', b ≤ b' ∧ A'.heap[b']? = some (.cells (S k).toArray 152 (0, 0)) ∧
      a' = { tmps := #[.agg V.toArray, .int .i64 sp, .int .i64 (last : Int), .pointer (some ⟨w.heap.size, 0, none⟩), undef, undef, .map none, .pointer (some ⟨w.heap.size + 1 + 1, 0, none⟩), .int .i64 (k : Int), .pointer (some ⟨b', 0, none⟩), undef, undef, undef,
        .map (some (w.heap.size + 1)), .agg V.toArray, .int .i64 sp, .int .i64 (last : Int), .func (.func 161) #[] #[.pointer (some ⟨w4.heap.size, 0, none⟩), .pointer (some ⟨w4.heap.size + 1 + 1, 0, none⟩), .pointer (some ⟨w4.heap.size + 1, 0, none⟩)],
        .int .i64 (k : Int), .agg (S k).toArray, undef, undef, undef, undef, undef, undef, undef, undef, undef, undef, undef, undef, undef, undef, undef, undef, undef, undef, undef, undef, undef, undef, undef, undef, undef, undef, undef, undef, undef, undef, undef, undef, undef, undef, undef, undef], defers := [] })
    (fun k b a' A B hx hj => by
      obtain ⟨b', hb, hc, ha⟩ := hx
      exact ⟨b', hb, (hj b' hb).trans hc, ha⟩) ?assign ?body ?done ?stop
  case assign =>
    rintro L k r' W1 K hr' _ hK
    obtain ⟨_, rfl⟩ := HS.out.2.2.1 k r' hr'
    have hKK := Lib.hid hK
    clear hK hr' hS hSlen hSone hrow hlen hs5 h6 h7 h3 hm hb5 hbw5 hs4
    gi_wp2_with
      (show wpListIn _ _ _ _ _ (Oper.mk none (Op.store _ (Operand.tmp 9) (Operand.tmp 19)) _ _ _ _ :: _) _ _
       refine wpListIn_store_blk 152 (.tmp 9) (.tmp 19) rfl rfl rfl rfl (alloc_at0 W1 _) (by simp [HS.out.1]) (HS.out.2.1 k) (by rw [List.size_toArray, HS.out.1]; exact rowBatch) ?_
       intro w2 hP2 hM2
       have H2 := Lib.hid (And.intro hP2 hM2)
       clear hP2 hM2)
    exact hKK.out _ _ (((Below.refl _ W1).alloc (Nat.le_refl _) _).trans (H2.out.1.below (Nat.le_refl _))) ⟨_, Nat.le_refl _, H2.out.2, rfl⟩
  case body =>
    --BODY
    rintro L k b r' a' W1 hr' hwb hbW' hi ⟨b', hbb, hc, rfl⟩
    obtain ⟨hkm, rfl⟩ := HS.out.2.2.1 k r' hr'
    have hcore := fun p (hp : p < l.length) (W : World) (hW : Below w.heap.size w W) => core_any t A cap l (runS t.water sp st k) p B W (Nat.le_trans hB hW.size) (HZ.out.below (hW.mono hB)) (runS_good h1 h2 HG.out.1 k) ((lens_run t.water sp st k).trans HG.out.2) hp
    rw [show bs t (.slice A l.length cap) (runS t.water sp st k) = S k by rw [hS]] at hcore
    have hhit : ∀ q, hitB t.water sp t.need st q k = decide (t.need ≤ coreOf (runS t.water sp st k) q) := fun q => rfl
    have hkl : k ≤ last := by have := HML.out; omega
    have hc2 := fun i => cell_of_row W1 w.heap.size i _ _ _ hi.b3
    have hc20 := (hc2 2).trans HV.out.2.2.1
    have h0 := And.intro hi (And.intro hc (KeepsX.refl (fun j => j = w.heap.size + 1 ∨ b ≤ j) W1))
    have hl4 : l.length ≤ 4 := by have e1 := lens_len HG.out.2; have e2 := HG.out.1.n4; simp only [rws, List.length_map] at e1; omega
    have hb3 : w.heap.size + 3 ≤ b' ∧ b ≤ b' ∧ w.heap.size + 3 ≤ b ∧ b ≤ W1.heap.size := by omega
    generalize hgg : hitB t.water sp t.need st = g at *
    have HCO := Lib.hid (And.intro hcore (And.intro hhit hkl))
    have H0 := Lib.hid h0
    have HBB := Lib.hid hb3
    clear hi hc h0 hr' hS hSlen hSone hrow hlen hs5 h6 h7 h3 hb5 hbw5 hs4 hm hcore hhit hc2 hwb hbb hkm hgg hkl hb3 hbW'
    gi_wp2_with fail
    clear hc20
    gi_loopw [24] (fun i wr => ∃ p : Nat, p ≤ l.length ∧ i = .int .i64 p ∧ Hid (ReaC w V l.length (whenF g k p) wr) ∧ Hid (wr.heap[b']? = some (.cells (S k).toArray 152 (0, 0))) ∧ Hid (KeepsX (fun j => j = w.heap.size + 1 ∨ b ≤ j) W1 wr))
      (fun i _ => l.length - (intOf i).toNat)
    case atStart => exact ⟨0, Nat.zero_le _, rfl, H0.out.1, H0.out.2.1, H0.out.2.2⟩
    case round =>
      obtain ⟨p, hp, rfl, hR, hN, hK⟩ := hrel
      by_cases hlt : p < l.length
      · have hpz : (p : Int) < l.length := by omega
        have hcm := cell_of_row wr (w.heap.size + 1 + 1) 0 _ _ _ hR.out.b7
        obtain ⟨D, hOw, hMI⟩ := hR.out.map
        have hkey : keyOf Tryz.prog 3 (.int .i64 (p : Int)) = some (.int .i64 (p : Int)) := Maps.keyOf_int_mk Tryz.underlying3 (WalkArith.wf_i64 (by omega))
        have hhas := hMI.has (p : Int)
        have HOW := Lib.hid hOw
        have HMI := Lib.hid hMI
        have HKEY := Lib.hid hkey
        have hs6 : GroC wr (fun _ => false) (fun _ => undef) wr.drew := ⟨(Below.refl _ _).drew⟩
        have HS6 := Lib.hid hs6
        have HSZ3 : Hid (w.heap.size + 3 ≤ wr.heap.size) := Lib.hid (by have := hK.out.size; have := HBB.out; omega)
        clear hOw hMI hkey hs6
        cases hh : Maps.has D (.int .i64 (p : Int)) with
        | true =>
          have hsome : (whenF g k p p).isSome = true := by
            obtain ⟨q, e1, e2, e3⟩ := hhas.1 hh
            obtain rfl : q = p := by omega
            exact e3
          have HSTP := Lib.hid (whenF_step_has hsome)
          have HH := Lib.hid hh
          clear hh hhas hsome
          by_cases hfull : cntFC (whenF g k (p + 1)) l.length = l.length
          · have HFU := Lib.hid hfull
            clear hfull
            gi_wp2_with (first
              | (show wpListIn _ _ _ _ _ (Oper.mk (some 30) _ _ _ _ _ :: _) _ _
                 refine wpListIn_lookup_own_ok_int (H := Value) wr ?g1_1 (.tmp 28) (.tmp 29) 79 ?g2_1 3 3 .i64 keyInt ?g3_1 ?g4_1 ?g5_1 (w.heap.size + 1) (Maps.size D) D ?g6_1 HOW.out (.int .i64 (p : Int)) (.int .i64 (p : Int)) ?g7_1 HKEY.out ?g8_1
                 case g1_1 => rfl
                 case g2_1 => rfl
                 case g3_1 => exact Tryz.underlying79
                 case g4_1 => exact Tryz.underlying3
                 case g5_1 => exact zeroInt _
                 case g6_1 => rfl
                 case g7_1 => rfl
                 intro c hat hwc
                 rw [HH.out]
                 clear hat hwc))
            refine wpIn_walk (C := GroC wr) 56 ?_ ?_ ?_ ?_ ?_ ?_
            · kernel_rfl
            · kernel_rfl
            · kernel_rfl
            · rfl
            · exact ⟨HS6.out.bel⟩
            simp only []
            repeat (first
              | (refine R6.WalkR.un (fun _ => rfl) (fun D ρ W hK hC => hC.move) ?_
                 simp only [Act.put, List.setIfInBounds_toArray, List.set_cons_succ, List.set_cons_zero])
              | (refine' R6.WalkR.det (fun _ => rfl) (fun D ρ W hK hC => ?_) ?_
                 rotate_left
                 · skip
                   have HC := Lib.hid hC
                   clear hC hK
                   go_simp
                   first
                     | with_reducible exact ⟨rfl, HC.out.move⟩
                     | fail
                 simp only [Act.put, List.setIfInBounds_toArray, List.set_cons_succ, List.set_cons_zero]))
            refine R6.WalkR.nil (fun D' ρ w8 hD' hC => ?_)
            have hR8 := hR.out.next (b := wr.heap.size) hC.bel HSZ3.out
            have hcm8 := cell_of_row w8 (w.heap.size + 1 + 1) 0 _ _ _ hR8.b7
            have hcb8 := (cell_of_row w8 w.heap.size 2 _ _ _ hR8.b3).trans HV.out.2.2.1
            have hOw8 := own_map_block HOW.out (hC.bel.block _ (own_map_lt HOW.out))
            have hN8 := (hC.bel.block _ (lt_of_heap hN.out)).trans hN.out
            have hK8 := hK.out.trans (⟨hC.bel.size, fun j hj _ => hC.bel.block j hj⟩ : KeepsX (fun j => j = w.heap.size + 1 ∨ b ≤ j) wr w8)
            rw [← HSTP.out] at hR8
            have hMI8 := HMI.out
            rw [← HSTP.out] at hMI8
            obtain ⟨D2, hD2⟩ : ∃ D2, D2 = D := ⟨_, rfl⟩
            rw [← hD2] at hOw8 hMI8
            have HSZ : Hid (Maps.size D2 = l.length) := Lib.hid (by rw [hMI8.size]; exact HFU.out)
            have HU := Lib.hid (And.intro hOw8 (And.intro hR8 (And.intro hN8 hK8)))
            clear hC hD' hR8 hOw8 hN8 hK8 hMI8 hD2
            gi_wp2_with (first
              | (show wpListIn _ _ _ _ _ (Oper.mk (some 48) _ _ _ _ _ :: _) _ _
                 refine wpListIn_len_own (H := Value) w8 ?l1_1 (.tmp 47) 79 ?l2_1 3 3 ?l3_1 (plainElem Tryz.prog 3) (w.heap.size + 1) (Maps.size D2) D2 ?l4_1 HU.out.1 ?l5_1
                 case l1_1 => rfl
                 case l2_1 => rfl
                 case l3_1 => exact Tryz.underlying79
                 case l4_1 => rfl
                 rw [HSZ.out]))
            exact ⟨HU.out.2.2.2, rfl, HU.out.2.1.bel, HU.out.2.1.b3, HU.out.2.1.b7, HU.out.2.1.map.congr (fun q hq => whenF_some ((cntFC_all _).1 HFU.out q hq) HCO.out.2.2)⟩

          · have HFU := Lib.hid hfull
            clear hfull
            gi_wp2_with (first
              | (show wpListIn _ _ _ _ _ (Oper.mk (some 30) _ _ _ _ _ :: _) _ _
                 refine wpListIn_lookup_own_ok_int (H := Value) wr ?g1_2 (.tmp 28) (.tmp 29) 79 ?g2_2 3 3 .i64 keyInt ?g3_2 ?g4_2 ?g5_2 (w.heap.size + 1) (Maps.size D) D ?g6_2 HOW.out (.int .i64 (p : Int)) (.int .i64 (p : Int)) ?g7_2 HKEY.out ?g8_2
                 case g1_2 => rfl
                 case g2_2 => rfl
                 case g3_2 => exact Tryz.underlying79
                 case g4_2 => exact Tryz.underlying3
                 case g5_2 => exact zeroInt _
                 case g6_2 => rfl
                 case g7_2 => rfl
                 intro c hat hwc
                 rw [HH.out]
                 clear hat hwc))
            refine wpIn_walk (C := GroC wr) 56 ?_ ?_ ?_ ?_ ?_ ?_
            · kernel_rfl
            · kernel_rfl
            · kernel_rfl
            · rfl
            · exact ⟨HS6.out.bel⟩
            simp only []
            repeat (first
              | (refine R6.WalkR.un (fun _ => rfl) (fun D ρ W hK hC => hC.move) ?_
                 simp only [Act.put, List.setIfInBounds_toArray, List.set_cons_succ, List.set_cons_zero])
              | (refine' R6.WalkR.det (fun _ => rfl) (fun D ρ W hK hC => ?_) ?_
                 rotate_left
                 · skip
                   have HC := Lib.hid hC
                   clear hC hK
                   go_simp
                   first
                     | with_reducible exact ⟨rfl, HC.out.move⟩
                     | fail
                 simp only [Act.put, List.setIfInBounds_toArray, List.set_cons_succ, List.set_cons_zero]))
            refine R6.WalkR.nil (fun D' ρ w8 hD' hC => ?_)
            have hR8 := hR.out.next (b := wr.heap.size) hC.bel HSZ3.out
            have hcm8 := cell_of_row w8 (w.heap.size + 1 + 1) 0 _ _ _ hR8.b7
            have hcb8 := (cell_of_row w8 w.heap.size 2 _ _ _ hR8.b3).trans HV.out.2.2.1
            have hOw8 := own_map_block HOW.out (hC.bel.block _ (own_map_lt HOW.out))
            have hN8 := (hC.bel.block _ (lt_of_heap hN.out)).trans hN.out
            have hK8 := hK.out.trans (⟨hC.bel.size, fun j hj _ => hC.bel.block j hj⟩ : KeepsX (fun j => j = w.heap.size + 1 ∨ b ≤ j) wr w8)
            rw [← HSTP.out] at hR8
            have hMI8 := HMI.out
            rw [← HSTP.out] at hMI8
            obtain ⟨D2, hD2⟩ : ∃ D2, D2 = D := ⟨_, rfl⟩
            rw [← hD2] at hOw8 hMI8
            have hne : ¬ (((Maps.size D2 : Nat) : Int) = (l.length : Int)) := by
              rw [hMI8.size]
              have := HFU.out
              omega
            have HU := Lib.hid (And.intro hOw8 (And.intro hR8 (And.intro hN8 hK8)))
            clear hC hD' hR8 hOw8 hN8 hK8 hMI8 hD2
            gi_wp2_with (first
              | (show wpListIn _ _ _ _ _ (Oper.mk (some 48) _ _ _ _ _ :: _) _ _
                 refine wpListIn_len_own (H := Value) w8 ?l1_2 (.tmp 47) 79 ?l2_2 3 3 ?l3_2 (plainElem Tryz.prog 3) (w.heap.size + 1) (Maps.size D2) D2 ?l4_2 HU.out.1 ?l5_2
                 case l1_2 => rfl
                 case l2_2 => rfl
                 case l3_2 => exact Tryz.underlying79
                 case l4_2 => rfl))
            case roundEnd =>
              go_roundw
              case rel => exact ⟨p + 1, by omega, by go_num, HU.out.2.1, HU.out.2.2.1, HU.out.2.2.2⟩
              case measure => simp [intOf] <;> omega

        | false =>
          have hnone : whenF g k p p = none := by
            cases e : whenF g k p p with
            | none => rfl
            | some j =>
              have := hhas.2 ⟨p, rfl, hlt, by rw [e]; rfl⟩
              rw [hh] at this
              cases this
          have HNO := Lib.hid hnone
          have HH := Lib.hid hh
          clear hh hhas hnone
          cases hgp : g p k with
          | false =>
            have HSTP := Lib.hid (whenF_step_no hgp)
            have hle : ¬ t.need ≤ coreOf (runS t.water sp st k) p := by have := HCO.out.2.1 p; rw [hgp] at this; simpa using this.symm
            clear hgp
            by_cases hfull : cntFC (whenF g k (p + 1)) l.length = l.length
            · have HFU := Lib.hid hfull
              clear hfull
              gi_wp2_with (first
                | (show wpListIn _ _ _ _ _ (Oper.mk (some 30) _ _ _ _ _ :: _) _ _
                   refine wpListIn_lookup_own_ok_int (H := Value) wr ?g1_3 (.tmp 28) (.tmp 29) 79 ?g2_3 3 3 .i64 keyInt ?g3_3 ?g4_3 ?g5_3 (w.heap.size + 1) (Maps.size D) D ?g6_3 HOW.out (.int .i64 (p : Int)) (.int .i64 (p : Int)) ?g7_3 HKEY.out ?g8_3
                   case g1_3 => rfl
                   case g2_3 => rfl
                   case g3_3 => exact Tryz.underlying79
                   case g4_3 => exact Tryz.underlying3
                   case g5_3 => exact zeroInt _
                   case g6_3 => rfl
                   case g7_3 => rfl
                   intro c hat hwc
                   rw [HH.out]
                   clear hat hwc))
              refine wpIn_walk (C := GroC wr) 56 ?_ ?_ ?_ ?_ ?_ ?_
              · kernel_rfl
              · kernel_rfl
              · kernel_rfl
              · rfl
              · exact ⟨HS6.out.bel⟩
              simp only []
              repeat (first
                | (refine' R6.WalkR.det (fun _ => rfl) (fun D ρ W hK hC => ?_) ?_
                   rotate_left
                   · skip
                     have HC := Lib.hid hC
                     clear hC hK
                     go_simp
                     first
                       | with_reducible exact ⟨rfl, HC.out.move⟩
                       | fail
                   simp only [Act.put, List.setIfInBounds_toArray, List.set_cons_succ, List.set_cons_zero]))
              refine' R6.WalkR.det (c := .agg (S k).toArray) (fun _ => rfl) (fun D ρ W hK hC => ?_) ?_
              · have hbn := (hC.bel.block _ (lt_of_heap hN.out)).trans hN.out
                have HC := Lib.hid hC
                clear hC hK
                exact gives_load_blk 152 (.tmp 9) rfl rfl hbn (S k) (fun j v hj => by rw [Nat.zero_add, List.getElem?_toArray]; exact hj) (by rw [HS.out.1]; exact rowBatch) ⟨rfl, HC.out.move⟩
              simp only [Act.put, List.setIfInBounds_toArray, List.set_cons_succ, List.set_cons_zero]
              repeat (first
                | (refine' R6.WalkR.det (fun _ => rfl) (fun D ρ W hK hC => ?_) ?_
                   rotate_left
                   · have hcb5 := (cell_of_row W w.heap.size 5 _ _ _ ((hC.bel.block _ (lt_of_heap hR.out.b3)).trans hR.out.b3)).trans HV.out.2.2.2
                     have HC := Lib.hid hC
                     clear hC hK
                     go_simp
                     first
                       | with_reducible exact ⟨rfl, HC.out.move⟩
                       | (go_at_call 159; refine (HCO.out.1 p hlt W (hR.out.bel.trans (HC.out.bel.mono hR.out.bel.size))).mono ?_; rintro e W1 ⟨rfl, hB1⟩; exact ⟨_, rfl, rfl, HC.out.next hB1⟩)
                   simp only [Act.put, List.setIfInBounds_toArray, List.set_cons_succ, List.set_cons_zero]))
              refine R6.WalkR.nil (fun D' ρ w8 hD' hC => ?_)
              have hR8 := hR.out.next (b := wr.heap.size) hC.bel HSZ3.out
              have hcm8 := cell_of_row w8 (w.heap.size + 1 + 1) 0 _ _ _ hR8.b7
              have hcb8 := (cell_of_row w8 w.heap.size 2 _ _ _ hR8.b3).trans HV.out.2.2.1
              have hOw8 := own_map_block HOW.out (hC.bel.block _ (own_map_lt HOW.out))
              have hN8 := (hC.bel.block _ (lt_of_heap hN.out)).trans hN.out
              have hK8 := hK.out.trans (⟨hC.bel.size, fun j hj _ => hC.bel.block j hj⟩ : KeepsX (fun j => j = w.heap.size + 1 ∨ b ≤ j) wr w8)
              rw [← HSTP.out] at hR8
              have hMI8 := HMI.out
              rw [← HSTP.out] at hMI8
              obtain ⟨D2, hD2⟩ : ∃ D2, D2 = D := ⟨_, rfl⟩
              rw [← hD2] at hOw8 hMI8
              have HSZ : Hid (Maps.size D2 = l.length) := Lib.hid (by rw [hMI8.size]; exact HFU.out)
              have HU := Lib.hid (And.intro hOw8 (And.intro hR8 (And.intro hN8 hK8)))
              clear hC hD' hR8 hOw8 hN8 hK8 hMI8 hD2
              gi_wp2_with (first
                | (show wpListIn _ _ _ _ _ (Oper.mk (some 48) _ _ _ _ _ :: _) _ _
                   refine wpListIn_len_own (H := Value) w8 ?l1_3 (.tmp 47) 79 ?l2_3 3 3 ?l3_3 (plainElem Tryz.prog 3) (w.heap.size + 1) (Maps.size D2) D2 ?l4_3 HU.out.1 ?l5_3
                   case l1_3 => rfl
                   case l2_3 => rfl
                   case l3_3 => exact Tryz.underlying79
                   case l4_3 => rfl
                   rw [HSZ.out]))
              exact ⟨HU.out.2.2.2, rfl, HU.out.2.1.bel, HU.out.2.1.b3, HU.out.2.1.b7, HU.out.2.1.map.congr (fun q hq => whenF_some ((cntFC_all _).1 HFU.out q hq) HCO.out.2.2)⟩

            · have HFU := Lib.hid hfull
              clear hfull
              gi_wp2_with (first
                | (show wpListIn _ _ _ _ _ (Oper.mk (some 30) _ _ _ _ _ :: _) _ _
                   refine wpListIn_lookup_own_ok_int (H := Value) wr ?g1_4 (.tmp 28) (.tmp 29) 79 ?g2_4 3 3 .i64 keyInt ?g3_4 ?g4_4 ?g5_4 (w.heap.size + 1) (Maps.size D) D ?g6_4 HOW.out (.int .i64 (p : Int)) (.int .i64 (p : Int)) ?g7_4 HKEY.out ?g8_4
                   case g1_4 => rfl
                   case g2_4 => rfl
                   case g3_4 => exact Tryz.underlying79
                   case g4_4 => exact Tryz.underlying3
                   case g5_4 => exact zeroInt _
                   case g6_4 => rfl
                   case g7_4 => rfl
                   intro c hat hwc
                   rw [HH.out]
                   clear hat hwc))
              refine wpIn_walk (C := GroC wr) 56 ?_ ?_ ?_ ?_ ?_ ?_
              · kernel_rfl
              · kernel_rfl
              · kernel_rfl
              · rfl
              · exact ⟨HS6.out.bel⟩
              simp only []
              repeat (first
                | (refine' R6.WalkR.det (fun _ => rfl) (fun D ρ W hK hC => ?_) ?_
                   rotate_left
                   · skip
                     have HC := Lib.hid hC
                     clear hC hK
                     go_simp
                     first
                       | with_reducible exact ⟨rfl, HC.out.move⟩
                       | fail
                   simp only [Act.put, List.setIfInBounds_toArray, List.set_cons_succ, List.set_cons_zero]))
              refine' R6.WalkR.det (c := .agg (S k).toArray) (fun _ => rfl) (fun D ρ W hK hC => ?_) ?_
              · have hbn := (hC.bel.block _ (lt_of_heap hN.out)).trans hN.out
                have HC := Lib.hid hC
                clear hC hK
                exact gives_load_blk 152 (.tmp 9) rfl rfl hbn (S k) (fun j v hj => by rw [Nat.zero_add, List.getElem?_toArray]; exact hj) (by rw [HS.out.1]; exact rowBatch) ⟨rfl, HC.out.move⟩
              simp only [Act.put, List.setIfInBounds_toArray, List.set_cons_succ, List.set_cons_zero]
              repeat (first
                | (refine' R6.WalkR.det (fun _ => rfl) (fun D ρ W hK hC => ?_) ?_
                   rotate_left
                   · have hcb5 := (cell_of_row W w.heap.size 5 _ _ _ ((hC.bel.block _ (lt_of_heap hR.out.b3)).trans hR.out.b3)).trans HV.out.2.2.2
                     have HC := Lib.hid hC
                     clear hC hK
                     go_simp
                     first
                       | with_reducible exact ⟨rfl, HC.out.move⟩
                       | (go_at_call 159; refine (HCO.out.1 p hlt W (hR.out.bel.trans (HC.out.bel.mono hR.out.bel.size))).mono ?_; rintro e W1 ⟨rfl, hB1⟩; exact ⟨_, rfl, rfl, HC.out.next hB1⟩)
                   simp only [Act.put, List.setIfInBounds_toArray, List.set_cons_succ, List.set_cons_zero]))
              refine R6.WalkR.nil (fun D' ρ w8 hD' hC => ?_)
              have hR8 := hR.out.next (b := wr.heap.size) hC.bel HSZ3.out
              have hcm8 := cell_of_row w8 (w.heap.size + 1 + 1) 0 _ _ _ hR8.b7
              have hcb8 := (cell_of_row w8 w.heap.size 2 _ _ _ hR8.b3).trans HV.out.2.2.1
              have hOw8 := own_map_block HOW.out (hC.bel.block _ (own_map_lt HOW.out))
              have hN8 := (hC.bel.block _ (lt_of_heap hN.out)).trans hN.out
              have hK8 := hK.out.trans (⟨hC.bel.size, fun j hj _ => hC.bel.block j hj⟩ : KeepsX (fun j => j = w.heap.size + 1 ∨ b ≤ j) wr w8)
              rw [← HSTP.out] at hR8
              have hMI8 := HMI.out
              rw [← HSTP.out] at hMI8
              obtain ⟨D2, hD2⟩ : ∃ D2, D2 = D := ⟨_, rfl⟩
              rw [← hD2] at hOw8 hMI8
              have hne : ¬ (((Maps.size D2 : Nat) : Int) = (l.length : Int)) := by
                rw [hMI8.size]
                have := HFU.out
                omega
              have HU := Lib.hid (And.intro hOw8 (And.intro hR8 (And.intro hN8 hK8)))
              clear hC hD' hR8 hOw8 hN8 hK8 hMI8 hD2
              gi_wp2_with (first
                | (show wpListIn _ _ _ _ _ (Oper.mk (some 48) _ _ _ _ _ :: _) _ _
                   refine wpListIn_len_own (H := Value) w8 ?l1_4 (.tmp 47) 79 ?l2_4 3 3 ?l3_4 (plainElem Tryz.prog 3) (w.heap.size + 1) (Maps.size D2) D2 ?l4_4 HU.out.1 ?l5_4
                   case l1_4 => rfl
                   case l2_4 => rfl
                   case l3_4 => exact Tryz.underlying79
                   case l4_4 => rfl))
              case roundEnd =>
                go_roundw
                case rel => exact ⟨p + 1, by omega, by go_num, HU.out.2.1, HU.out.2.2.1, HU.out.2.2.2⟩
                case measure => simp [intOf] <;> omega

          | true =>
            have HSTP := Lib.hid (whenF_step_new HNO.out hgp)
            have hle : t.need ≤ coreOf (runS t.water sp st k) p := by have := HCO.out.2.1 p; rw [hgp] at this; simpa using this.symm
            clear hgp
            by_cases hfull : cntFC (whenF g k (p + 1)) l.length = l.length
            · have HFU := Lib.hid hfull
              clear hfull
              gi_wp2_with (first
                | (show wpListIn _ _ _ _ _ (Oper.mk (some 30) _ _ _ _ _ :: _) _ _
                   refine wpListIn_lookup_own_ok_int (H := Value) wr ?g1_5 (.tmp 28) (.tmp 29) 79 ?g2_5 3 3 .i64 keyInt ?g3_5 ?g4_5 ?g5_5 (w.heap.size + 1) (Maps.size D) D ?g6_5 HOW.out (.int .i64 (p : Int)) (.int .i64 (p : Int)) ?g7_5 HKEY.out ?g8_5
                   case g1_5 => rfl
                   case g2_5 => rfl
                   case g3_5 => exact Tryz.underlying79
                   case g4_5 => exact Tryz.underlying3
                   case g5_5 => exact zeroInt _
                   case g6_5 => rfl
                   case g7_5 => rfl
                   intro c hat hwc
                   rw [HH.out]
                   clear hat hwc))
              refine wpIn_walk (C := GroC wr) 56 ?_ ?_ ?_ ?_ ?_ ?_
              · kernel_rfl
              · kernel_rfl
              · kernel_rfl
              · rfl
              · exact ⟨HS6.out.bel⟩
              simp only []
              repeat (first
                | (refine' R6.WalkR.det (fun _ => rfl) (fun D ρ W hK hC => ?_) ?_
                   rotate_left
                   · skip
                     have HC := Lib.hid hC
                     clear hC hK
                     go_simp
                     first
                       | with_reducible exact ⟨rfl, HC.out.move⟩
                       | fail
                   simp only [Act.put, List.setIfInBounds_toArray, List.set_cons_succ, List.set_cons_zero]))
              refine' R6.WalkR.det (c := .agg (S k).toArray) (fun _ => rfl) (fun D ρ W hK hC => ?_) ?_
              · have hbn := (hC.bel.block _ (lt_of_heap hN.out)).trans hN.out
                have HC := Lib.hid hC
                clear hC hK
                exact gives_load_blk 152 (.tmp 9) rfl rfl hbn (S k) (fun j v hj => by rw [Nat.zero_add, List.getElem?_toArray]; exact hj) (by rw [HS.out.1]; exact rowBatch) ⟨rfl, HC.out.move⟩
              simp only [Act.put, List.setIfInBounds_toArray, List.set_cons_succ, List.set_cons_zero]
              repeat (first
                | (refine' R6.WalkR.det (fun _ => rfl) (fun D ρ W hK hC => ?_) ?_
                   rotate_left
                   · have hcb5 := (cell_of_row W w.heap.size 5 _ _ _ ((hC.bel.block _ (lt_of_heap hR.out.b3)).trans hR.out.b3)).trans HV.out.2.2.2
                     have HC := Lib.hid hC
                     clear hC hK
                     go_simp
                     first
                       | with_reducible exact ⟨rfl, HC.out.move⟩
                       | (go_at_call 159; refine (HCO.out.1 p hlt W (hR.out.bel.trans (HC.out.bel.mono hR.out.bel.size))).mono ?_; rintro e W1 ⟨rfl, hB1⟩; exact ⟨_, rfl, rfl, HC.out.next hB1⟩)
                   simp only [Act.put, List.setIfInBounds_toArray, List.set_cons_succ, List.set_cons_zero]))
              refine R6.WalkR.nil (fun D' ρ w8 hD' hC => ?_)
              have hR8 := hR.out.next (b := wr.heap.size) hC.bel HSZ3.out
              have hcm8 := cell_of_row w8 (w.heap.size + 1 + 1) 0 _ _ _ hR8.b7
              have hcb8 := (cell_of_row w8 w.heap.size 2 _ _ _ hR8.b3).trans HV.out.2.2.1
              have hOw8 := own_map_block HOW.out (hC.bel.block _ (own_map_lt HOW.out))
              have hN8 := (hC.bel.block _ (lt_of_heap hN.out)).trans hN.out
              have hK8 := hK.out.trans (⟨hC.bel.size, fun j hj _ => hC.bel.block j hj⟩ : KeepsX (fun j => j = w.heap.size + 1 ∨ b ≤ j) wr w8)
              have HE := Lib.hid (And.intro hR8 (And.intro hN8 (And.intro hK8 hOw8)))
              clear hC hD' hR8 hOw8 hN8 hK8
              gi_wp2_with (first
                | (show wpListIn _ _ _ _ _ (Oper.mk none (Op.mapUpdate _ (Operand.tmp 44) (Operand.tmp 45) (Operand.tmp 46)) _ _ _ _ :: _) _ _
                   refine wpListIn_mapUpdate_own (H := Value) w8 ?u1_5 (.tmp 44) (.tmp 45) (.tmp 46) 79 ?u2_5 3 3 keyInt ?u3_5 (plainElem Tryz.prog 3) (w.heap.size + 1) (Maps.size D) D ?u4_5 HE.out.2.2.2 ?u5_5 (.int .i64 (p : Int)) (.int .i64 (k : Int)) (.int .i64 (p : Int)) ?u6_5 ?u7_5 HKEY.out (.lit (.int .i64 (k : Int))) [] ?u8_5 ?u9_5
                   case u1_5 => rfl
                   case u2_5 => rfl
                   case u3_5 => exact Tryz.underlying79
                   case u4_5 => rfl
                   case u5_5 => rw [HMI.out.size]; have := cntFC_le (whenF g k p) l.length; simp only [maxLen]; omega
                   case u6_5 => rfl
                   case u7_5 => rfl
                   case u8_5 => exact plainElem_int Tryz.underlying3 (WalkArith.wf_i64 (by have := HCO.out.2.2; omega))
                   intro w9 hOw9 hg9
                   have hMI9 : MapIs (D.put (.int .i64 (p : Int)) (.lit (.int .i64 (k : Int)))) l.length (whenF g k (p + 1)) := by
                     rw [HSTP.out]
                     exact mapIs_put HMI.out (HOW.out.tidy keyInt) trivial hlt HNO.out
                   have hsz9 : Maps.size (D.put (.int .i64 (p : Int)) (.lit (.int .i64 (k : Int)))) = Maps.size D + 1 := by
                     rw [hMI9.size, HMI.out.size, HSTP.out, cntFC_set HNO.out, if_pos hlt]
                   rw [← hsz9] at hOw9
                   obtain ⟨D2, hD2⟩ : ∃ D2, D2 = D.put (.int .i64 (p : Int)) (.lit (.int .i64 (k : Int))) := ⟨_, rfl⟩
                   rw [← hD2] at hOw9 hMI9
                   have hlb8 := HE.out.1.bel.size
                   have hR9 : ReaC w V l.length (whenF g k (p + 1)) w9 := ⟨HE.out.1.bel.grown hg9 hlb8 (fun k e => by cases e; omega), (hg9.block _ (lt_of_heap HE.out.1.b3) (by simp)).trans HE.out.1.b3, (hg9.block _ (lt_of_heap HE.out.1.b7) (by simp)).trans HE.out.1.b7, ⟨D2, hOw9, hMI9⟩⟩
                   have hN9 := (hg9.block _ (lt_of_heap HE.out.2.1) (fun e => by injection e with e; have := HBB.out; omega)).trans HE.out.2.1
                   have hK9 := HE.out.2.2.1.trans (⟨hg9.size, fun j hj hx => hg9.block j hj (fun e => hx (.inl (Option.some.inj e)))⟩ : KeepsX (fun j => j = w.heap.size + 1 ∨ b ≤ j) w8 w9)
                   have hcm9 := cell_of_row w9 (w.heap.size + 1 + 1) 0 _ _ _ hR9.b7
                   have hcb9 := (cell_of_row w9 w.heap.size 2 _ _ _ hR9.b3).trans HV.out.2.2.1
                   have HU := Lib.hid (And.intro hOw9 (And.intro hR9 (And.intro hN9 hK9)))
                   have HSZ : Hid (Maps.size D2 = l.length) := Lib.hid (by rw [hMI9.size]; exact HFU.out)
                   clear hOw9 hg9 hMI9 hsz9 hD2 hlb8 hR9 hN9 hK9 hcm8 hcb8)
                | (show wpListIn _ _ _ _ _ (Oper.mk (some 48) _ _ _ _ _ :: _) _ _
                   refine wpListIn_len_own (H := Value) w9 ?l1_5 (.tmp 47) 79 ?l2_5 3 3 ?l3_5 (plainElem Tryz.prog 3) (w.heap.size + 1) (Maps.size D2) D2 ?l4_5 HU.out.1 ?l5_5
                   case l1_5 => rfl
                   case l2_5 => rfl
                   case l3_5 => exact Tryz.underlying79
                   case l4_5 => rfl
                   rw [HSZ.out]))
              exact ⟨HU.out.2.2.2, rfl, HU.out.2.1.bel, HU.out.2.1.b3, HU.out.2.1.b7, HU.out.2.1.map.congr (fun q hq => whenF_some ((cntFC_all _).1 HFU.out q hq) HCO.out.2.2)⟩

            · have HFU := Lib.hid hfull
              clear hfull
              gi_wp2_with (first
                | (show wpListIn _ _ _ _ _ (Oper.mk (some 30) _ _ _ _ _ :: _) _ _
                   refine wpListIn_lookup_own_ok_int (H := Value) wr ?g1_6 (.tmp 28) (.tmp 29) 79 ?g2_6 3 3 .i64 keyInt ?g3_6 ?g4_6 ?g5_6 (w.heap.size + 1) (Maps.size D) D ?g6_6 HOW.out (.int .i64 (p : Int)) (.int .i64 (p : Int)) ?g7_6 HKEY.out ?g8_6
                   case g1_6 => rfl
                   case g2_6 => rfl
                   case g3_6 => exact Tryz.underlying79
                   case g4_6 => exact Tryz.underlying3
                   case g5_6 => exact zeroInt _
                   case g6_6 => rfl
                   case g7_6 => rfl
                   intro c hat hwc
                   rw [HH.out]
                   clear hat hwc))
              refine wpIn_walk (C := GroC wr) 56 ?_ ?_ ?_ ?_ ?_ ?_
              · kernel_rfl
              · kernel_rfl
              · kernel_rfl
              · rfl
              · exact ⟨HS6.out.bel⟩
              simp only []
              repeat (first
                | (refine' R6.WalkR.det (fun _ => rfl) (fun D ρ W hK hC => ?_) ?_
                   rotate_left
                   · skip
                     have HC := Lib.hid hC
                     clear hC hK
                     go_simp
                     first
                       | with_reducible exact ⟨rfl, HC.out.move⟩
                       | fail
                   simp only [Act.put, List.setIfInBounds_toArray, List.set_cons_succ, List.set_cons_zero]))
              refine' R6.WalkR.det (c := .agg (S k).toArray) (fun _ => rfl) (fun D ρ W hK hC => ?_) ?_
              · have hbn := (hC.bel.block _ (lt_of_heap hN.out)).trans hN.out
                have HC := Lib.hid hC
                clear hC hK
                exact gives_load_blk 152 (.tmp 9) rfl rfl hbn (S k) (fun j v hj => by rw [Nat.zero_add, List.getElem?_toArray]; exact hj) (by rw [HS.out.1]; exact rowBatch) ⟨rfl, HC.out.move⟩
              simp only [Act.put, List.setIfInBounds_toArray, List.set_cons_succ, List.set_cons_zero]
              repeat (first
                | (refine' R6.WalkR.det (fun _ => rfl) (fun D ρ W hK hC => ?_) ?_
                   rotate_left
                   · have hcb5 := (cell_of_row W w.heap.size 5 _ _ _ ((hC.bel.block _ (lt_of_heap hR.out.b3)).trans hR.out.b3)).trans HV.out.2.2.2
                     have HC := Lib.hid hC
                     clear hC hK
                     go_simp
                     first
                       | with_reducible exact ⟨rfl, HC.out.move⟩
                       | (go_at_call 159; refine (HCO.out.1 p hlt W (hR.out.bel.trans (HC.out.bel.mono hR.out.bel.size))).mono ?_; rintro e W1 ⟨rfl, hB1⟩; exact ⟨_, rfl, rfl, HC.out.next hB1⟩)
                   simp only [Act.put, List.setIfInBounds_toArray, List.set_cons_succ, List.set_cons_zero]))
              refine R6.WalkR.nil (fun D' ρ w8 hD' hC => ?_)
              have hR8 := hR.out.next (b := wr.heap.size) hC.bel HSZ3.out
              have hcm8 := cell_of_row w8 (w.heap.size + 1 + 1) 0 _ _ _ hR8.b7
              have hcb8 := (cell_of_row w8 w.heap.size 2 _ _ _ hR8.b3).trans HV.out.2.2.1
              have hOw8 := own_map_block HOW.out (hC.bel.block _ (own_map_lt HOW.out))
              have hN8 := (hC.bel.block _ (lt_of_heap hN.out)).trans hN.out
              have hK8 := hK.out.trans (⟨hC.bel.size, fun j hj _ => hC.bel.block j hj⟩ : KeepsX (fun j => j = w.heap.size + 1 ∨ b ≤ j) wr w8)
              have HE := Lib.hid (And.intro hR8 (And.intro hN8 (And.intro hK8 hOw8)))
              clear hC hD' hR8 hOw8 hN8 hK8
              gi_wp2_with (first
                | (show wpListIn _ _ _ _ _ (Oper.mk none (Op.mapUpdate _ (Operand.tmp 44) (Operand.tmp 45) (Operand.tmp 46)) _ _ _ _ :: _) _ _
                   refine wpListIn_mapUpdate_own (H := Value) w8 ?u1_6 (.tmp 44) (.tmp 45) (.tmp 46) 79 ?u2_6 3 3 keyInt ?u3_6 (plainElem Tryz.prog 3) (w.heap.size + 1) (Maps.size D) D ?u4_6 HE.out.2.2.2 ?u5_6 (.int .i64 (p : Int)) (.int .i64 (k : Int)) (.int .i64 (p : Int)) ?u6_6 ?u7_6 HKEY.out (.lit (.int .i64 (k : Int))) [] ?u8_6 ?u9_6
                   case u1_6 => rfl
                   case u2_6 => rfl
                   case u3_6 => exact Tryz.underlying79
                   case u4_6 => rfl
                   case u5_6 => rw [HMI.out.size]; have := cntFC_le (whenF g k p) l.length; simp only [maxLen]; omega
                   case u6_6 => rfl
                   case u7_6 => rfl
                   case u8_6 => exact plainElem_int Tryz.underlying3 (WalkArith.wf_i64 (by have := HCO.out.2.2; omega))
                   intro w9 hOw9 hg9
                   have hMI9 : MapIs (D.put (.int .i64 (p : Int)) (.lit (.int .i64 (k : Int)))) l.length (whenF g k (p + 1)) := by
                     rw [HSTP.out]
                     exact mapIs_put HMI.out (HOW.out.tidy keyInt) trivial hlt HNO.out
                   have hsz9 : Maps.size (D.put (.int .i64 (p : Int)) (.lit (.int .i64 (k : Int)))) = Maps.size D + 1 := by
                     rw [hMI9.size, HMI.out.size, HSTP.out, cntFC_set HNO.out, if_pos hlt]
                   rw [← hsz9] at hOw9
                   obtain ⟨D2, hD2⟩ : ∃ D2, D2 = D.put (.int .i64 (p : Int)) (.lit (.int .i64 (k : Int))) := ⟨_, rfl⟩
                   rw [← hD2] at hOw9 hMI9
                   have hlb8 := HE.out.1.bel.size
                   have hR9 : ReaC w V l.length (whenF g k (p + 1)) w9 := ⟨HE.out.1.bel.grown hg9 hlb8 (fun k e => by cases e; omega), (hg9.block _ (lt_of_heap HE.out.1.b3) (by simp)).trans HE.out.1.b3, (hg9.block _ (lt_of_heap HE.out.1.b7) (by simp)).trans HE.out.1.b7, ⟨D2, hOw9, hMI9⟩⟩
                   have hN9 := (hg9.block _ (lt_of_heap HE.out.2.1) (fun e => by injection e with e; have := HBB.out; omega)).trans HE.out.2.1
                   have hK9 := HE.out.2.2.1.trans (⟨hg9.size, fun j hj hx => hg9.block j hj (fun e => hx (.inl (Option.some.inj e)))⟩ : KeepsX (fun j => j = w.heap.size + 1 ∨ b ≤ j) w8 w9)
                   have hcm9 := cell_of_row w9 (w.heap.size + 1 + 1) 0 _ _ _ hR9.b7
                   have hcb9 := (cell_of_row w9 w.heap.size 2 _ _ _ hR9.b3).trans HV.out.2.2.1
                   have HU := Lib.hid (And.intro hOw9 (And.intro hR9 (And.intro hN9 hK9)))
                   have hne : ¬ (((Maps.size D2 : Nat) : Int) = (l.length : Int)) := by
                     rw [hMI9.size]
                     have := HFU.out
                     omega
                   clear hOw9 hg9 hMI9 hsz9 hD2 hlb8 hR9 hN9 hK9 hcm8 hcb8)
                | (show wpListIn _ _ _ _ _ (Oper.mk (some 48) _ _ _ _ _ :: _) _ _
                   refine wpListIn_len_own (H := Value) w9 ?l1_6 (.tmp 47) 79 ?l2_6 3 3 ?l3_6 (plainElem Tryz.prog 3) (w.heap.size + 1) (Maps.size D2) D2 ?l4_6 HU.out.1 ?l5_6
                   case l1_6 => rfl
                   case l2_6 => rfl
                   case l3_6 => exact Tryz.underlying79
                   case l4_6 => rfl))
              case roundEnd =>
                go_roundw
                case rel => exact ⟨p + 1, by omega, by go_num, HU.out.2.1, HU.out.2.2.1, HU.out.2.2.2⟩
                case measure => simp [intOf] <;> omega

      · have hpz : ¬ (p : Int) < l.length := by omega
        gi_wp2_with fail
        refine ⟨hK.out, hR.out.bel, hR.out.b3, hR.out.b7, hR.out.map.congr (fun q hq => ?_)⟩
        rw [show p = l.length by omega]
        exact whenF_next hq
    --END
  case done =>
    rintro D W3 hD3 hi hD
    have hDs : w.heap.size + 1 ≠ D ∧ w.heap.size + 1 + 1 ≠ D ∧ w.heap.size ≤ D := by omega
    rw [hlen] at hi
    have HH := Lib.hid (And.intro hi (And.intro hD hDs))
    have hc7 := cell_of_row W3 (w.heap.size + 1 + 1) 0 _ _ _ hi.b7
    clear hi hD hDs hD3 hS hSlen hSone hrow hlen hs5 h6 h7 h3 hb5 hbw5 hs4
    gi_wp2_with fail
    refine ⟨by simp, .inl ⟨_, _, rfl, run_takeDeferred HH.out.2.1, ?_⟩⟩
    refine ⟨.map (some (w.heap.size + 1)), by simp [results, Tryz.results116, go_sem], w.heap.size + 1, rfl, by omega, ?_, below_putObj HH.out.1.bel HH.out.2.2.2.2 _⟩
    refine (HH.out.1.map.congr fun q hq => ?_).block (World.putObj_heap_other HH.out.2.2.1)
    rw [hm]
    exact HST.out q
  case stop =>
    rintro D c k W3 hD3 hk ⟨rfl, hi⟩ hD
    have hDs : w.heap.size + 1 ≠ D ∧ w.heap.size + 1 + 1 ≠ D ∧ w.heap.size ≤ D := by omega
    have HH := Lib.hid (And.intro hi (And.intro hD hDs))
    have hc7 := cell_of_row W3 (w.heap.size + 1 + 1) 0 _ _ _ hi.b7
    clear hi hD hDs hD3 hS hSlen hSone hrow hlen hs5 h6 h7 h3 hb5 hbw5 hs4 hm
    gi_wp2_with fail
    refine ⟨by simp, .inl ⟨_, _, rfl, run_takeDeferred HH.out.2.1, ?_⟩⟩
    refine ⟨.map (some (w.heap.size + 1)), by simp [results, Tryz.results116, go_sem], w.heap.size + 1, rfl, by omega, ?_, below_putObj HH.out.1.bel HH.out.2.2.2.2 _⟩
    exact HH.out.1.map.block (World.putObj_heap_other HH.out.2.2.1)

end Go.Proofs.YtpnnlmaipcjkmaaGreat
