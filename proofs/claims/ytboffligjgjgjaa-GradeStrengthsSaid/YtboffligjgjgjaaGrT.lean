/-
  Maps of stresses; loops over iterators whose marks are kept; what is left by grades (plain).
-/
import Derived.Test.YtboffligjgjgjaaGrS
import Derived.Maps.OwnSet
import Derived.RangeFuncBound
import Derived.RangeFuncCalls
namespace Go.Proofs.Ytboffligjgjgjaa
open Go.RowKit Go.Maps
open R6 (done done_ne done_me upd_ne upd_me)

/-! ### A map from Ids to stresses -/
theorem keyI5 : Maps.Keyed Try.prog 3 := Maps.int_keyed Try.underlying3
def rdE (v : Value) : Option (DataW Value × List MemPlace) := some (.held v, [])
def zst : Value := .agg (st6 fun _ => (0, 0)).toArray
theorem zeroSt (w : World) : (zeroValue 70).run Try.prog w = .ok zst w := by kernel_rfl
theorem sizeMapS : (Try.prog.info? 65).map (·.size) = some 1 := by kernel_rfl
def stv6 (f : Nat → Int × Int) : Value := .agg (st6 f).toArray
def MapF (D : DataW Value) (F : Int → Nat → Int × Int) : Prop := ∀ id : Int, D.atKey (.int .i64 id) (.held zst) = .held (stv6 (F id))
def OwnF (W : World) (mb n : Nat) (F : Int → Nat → Int × Int) : Prop := ∃ D : DataW Value, W.ownsMap Try.prog 3 rdE mb n D ∧ MapF D F
def updI (F : Int → Nat → Int × Int) (id : Int) (f : Nat → Int × Int) : Int → Nat → Int × Int := fun i => if i = id then f else F i
theorem OwnF.made {W : World} {mb : Nat} (h : W.heap[mb]? = some (.map #[] 0)) : OwnF W mb 0 fun _ _ => (0, 0) := by
  refine ⟨.map [], ⟨#[], 0, h, ?_⟩, fun id => rfl⟩
  have := World.ownsMap_made (H := Value) W Try.prog 3 rdE
  obtain ⟨es, cl, hb, r⟩ := this
  rw [World.alloc_heap_new] at hb
  simp only [Option.some.injEq, Obj.map.injEq] at hb
  obtain ⟨rfl, rfl⟩ := hb
  exact r
theorem OwnF.block {W W' : World} {mb n : Nat} {F : Int → Nat → Int × Int} (h : OwnF W mb n F) (e : W'.heap[mb]? = W.heap[mb]?) : OwnF W' mb n F := by
  obtain ⟨D, h1, h2⟩ := h
  refine ⟨D, ?_, h2⟩
  unfold World.ownsMap at h1 ⊢
  rw [e]
  exact h1
theorem OwnF.lt {W : World} {mb n : Nat} {F : Int → Nat → Int × Int} (h : OwnF W mb n F) : mb < W.heap.size := let ⟨_, h1, _⟩ := h; h1.lt
theorem OwnF.mono {W : World} {mb n m : Nat} {F : Int → Nat → Int × Int} (h : OwnF W mb n F) (hn : n ≤ m) : OwnF W mb m F := let ⟨D, h1, h2⟩ := h; ⟨D, h1.mono hn, h2⟩
theorem OwnF.obj {W : World} {mb n : Nat} {F : Int → Nat → Int × Int} (h : OwnF W mb n F) : ∃ es cl, W.heap[mb]? = some (.map es cl) := by
  obtain ⟨D, ⟨es, cl, hb, _⟩, _⟩ := h
  exact ⟨es, cl, hb⟩
/-- A number that an int may be. -/
def idOk (i : Int) : Prop := -9223372036854775808 ≤ i ∧ i ≤ 9223372036854775807
section
variable {op : Oper} {a : Act} {w : World} {R : Value → World → Prop} {M n : Nat} {F : Int → Nat → Int × Int}
theorem gives_look (m x : Operand) (hop : op.op = Op.lookup 65 m x false) (hm : a.eval m = .map (some M)) (hO : OwnF w M n F) {id : Int} (hid : idOk id) (hx : a.eval x = .int .i64 id) (h : R (stv6 (F id)) w) : gives Try.prog op a w R := by
  obtain ⟨D, h1, h2⟩ := hO
  obtain ⟨v, ps, hrun, hv⟩ := h1.lookup keyI5 Try.underlying65 (zeroSt w) (zd := .held zst) (zp := []) rfl (Maps.keyOf_int_mk Try.underlying3 (WalkArith.wf_i64 hid))
  simp only [rdE, Option.some.injEq, Prod.mk.injEq, h2 id, DataW.held.injEq] at hv
  rw [hv.1] at hrun
  unfold gives
  simp [execOp, hop, hm, hx, hrun, Result.andThen]
  exact h
theorem gives_keep (m x v : Operand) (hop : op.op = Op.mapUpdate 65 m x v) (hm : a.eval m = .map (some M)) (hO : OwnF w M n F) (hn : n < maxLen) {id : Int} (hid : idOk id) (hx : a.eval x = .int .i64 id) {f : Nat → Int × Int} (hv : a.eval v = stv6 f)
    (h : ∀ w', OwnF w' M (n + 1) (updI F id f) → w.grownBy w' (some M) → R undef w') : gives Try.prog op a w R := by
  obtain ⟨D, h1, h2⟩ := hO
  have hkey := Maps.keyOf_int_mk Try.underlying3 (WalkArith.wf_i64 hid)
  obtain ⟨w', hrun, r1, r2⟩ := h1.update keyI5 Try.underlying65 hn hkey (val := stv6 f) (d := .held (stv6 f)) (ps := []) rfl
  unfold gives
  simp [execOp, hop, hm, hx, hv, hrun, Result.andThen]
  refine h w' ⟨_, r1, fun i => ?_⟩ r2
  unfold updI
  by_cases e : i = id
  · subst e
    rw [if_pos rfl]
    exact atKey_put_same h1.isMap (keyI5.key hkey) _ _
  · rw [if_neg e, atKey_put_other (fun h => e (by injection h))]
    exact h2 i
end

/-! ### The marks that loops over iterators leave -/
def Coll (lo hi : Nat) : List Deferred → World → Prop
  | [], _ => True
  | d :: ds, w => (∃ D, d = { target := .collected D, args := #[] } ∧ lo ≤ D ∧ D < hi ∧ w.heap[D]? = some (.deferred (some [])) ∧ ∀ d' ∈ ds, d'.target ≠ .collected D) ∧ Coll lo hi ds w
theorem Coll.hi {lo hi hi' : Nat} (hh : hi ≤ hi') : ∀ {ds : List Deferred} {w : World}, Coll lo hi ds w → Coll lo hi' ds w
  | [], _, _ => trivial
  | _ :: _, _, ⟨⟨D, h1, h2, h3, h4⟩, h5⟩ => ⟨⟨D, h1, h2, by omega, h4⟩, Coll.hi hh h5⟩
theorem Coll.same {lo hi : Nat} {w w' : World} (hk : ∀ k, lo ≤ k → k < hi → (∃ ds, w.heap[k]? = some (.deferred ds)) → w'.heap[k]? = w.heap[k]?) : ∀ {ds : List Deferred}, Coll lo hi ds w → Coll lo hi ds w'
  | [], _ => trivial
  | _ :: _, ⟨⟨D, h1, h2, h3, h4, h5⟩, h6⟩ => ⟨⟨D, h1, h2, h3, (hk D h2 h3 ⟨_, h4⟩).trans h4, h5⟩, Coll.same hk h6⟩
theorem Coll.tgt {lo hi : Nat} {w : World} : ∀ {ds : List Deferred}, Coll lo hi ds w → ∀ d ∈ ds, ∃ D, d.target = .collected D ∧ D < hi
  | [], _, _, h => by cases h
  | _ :: _, ⟨⟨D, h1, _, h3, _⟩, h6⟩, d, hd => by
    rcases List.mem_cons.1 hd with rfl | hd
    · exact ⟨D, by rw [h1], h3⟩
    · exact Coll.tgt h6 d hd
theorem Coll.push {lo hi D : Nat} {w : World} {ds : List Deferred} (h : Coll lo hi ds w) (hlo : lo ≤ D) (hD : hi ≤ D) (hw : w.heap[D]? = some (.deferred (some []))) : Coll lo (D + 1) ({ target := .collected D, args := #[] } :: ds) w :=
  ⟨⟨D, rfl, hlo, by omega, hw, fun d' hd' e => by
    obtain ⟨D', h1, h2⟩ := h.tgt d' hd'
    rw [h1] at e
    simp only [Target.collected.injEq] at e
    omega⟩, h.hi (by omega)⟩
theorem Coll.gone {lo hi D : Nat} {w : World} : ∀ {ds : List Deferred}, (∀ d' ∈ ds, d'.target ≠ .collected D) → Coll lo hi ds w → Coll lo hi ds (w.putObj D (.deferred none))
  | [], _, _ => trivial
  | e :: _, h5, ⟨⟨E, g1, g2, g3, g4, g5⟩, g6⟩ =>
    ⟨⟨E, g1, g2, g3, (World.putObj_heap_other (fun q => h5 e (List.mem_cons_self ..) (by rw [g1, q]))).trans g4, g5⟩, Coll.gone (fun d' hd' => h5 d' (List.mem_cons_of_mem _ hd')) g6⟩
theorem leaves_coll {F : Fence} {n : Nat} {P : Program} {fn : Func} {tmps : Array Value} {R : Ending → World → Prop} {lo hi : Nat} : ∀ (ds : List Deferred) (w : World), Coll lo hi ds w → (∀ w', Below lo w w' → LeavesIn F n P fn tmps R [] .returning w') → LeavesInM F n P fn tmps R ds .returning w
  | [], w, _, h => h w (Below.refl _ _)
  | d :: ds, w, ⟨⟨D, h1, h2, h3, h4, h5⟩, h6⟩, h => by
    refine ⟨by simp, .inl ⟨D, _, by rw [h1], run_takeDeferred h4, ?_⟩⟩
    have hb : Below lo w (w.putObj D (.deferred none)) := below_putObj (Below.refl _ _) h2 _
    exact leaves_coll (hi := hi) ds _ (Coll.gone h5 h6) (fun w' hw' => h w' (hb.trans hw'))

/-! ### 'for x := range seq', the loop's variable in a box of its own -/
section
variable {F : Fence} {n : Nat} {P : Program}
theorem wpIn_rangeB {g : Operand} {p q : Nat} {assign body : Code} {Q : Exit → Act → World → Prop} {a : Act} {w : World}
    (hro : F.round = none) (h1 : 1 ≤ n) {gf : Nat} {lb : Array Value} (hg : a.eval g = .func (.func gf) #[] lb) (hFg : F.fn gf) (eg : ∀ args w, (callFunc gf args).run P w = .ok (.enter gf args) w)
    {all : List (Array Value)} {n₀ : Nat} {Cap : Nat → Prop} {w0 : World} (hseq : SeqP F (n - 1) P gf lb all n₀ Cap w0) (hb0 : Below w0.heap.size w0 w) (hn₀ : n₀ ≤ w.heap.size) (hCap : ∀ k, Cap k → k < w.heap.size)
    (vl : Nat → Value) (Bx : Nat → Obj) (hrow : ∀ k r, all[k]? = some r → r = #[vl k])
    (X : Nat → Prop) (hX : ∀ k, X k → n₀ ≤ k ∧ ¬ Cap k ∧ k < w.heap.size)
    (I : Nat → World → Prop) (hI : ∀ k A B, I k A → Below w.heap.size A B → I k B) (h0 : I 0 w)
    (hassign : ∀ (l k : Nat) (W : World) (K : Act → World → Prop), k < all.length → I k W → (∀ b' W', Below W.heap.size W W' → W.heap.size ≤ b' → W'.heap[b']? = some (Bx k) → K { tmps := (a.tmps.setIfInBounds p (vl k)).setIfInBounds q (.pointer (some ⟨b', 0, none⟩)), defers := [] } W') →
      assign.wpIn (F.inRound l) (n - 1 - 1) P (Exit.then K (fun _ _ _ => False)) { tmps := a.tmps.setIfInBounds p (vl k), defers := [] } W)
    (hbody : ∀ (l k b b' : Nat) (W : World), k < all.length → w.heap.size ≤ b → b ≤ b' → b ≤ W.heap.size → I k W → W.heap[b']? = some (Bx k) →
      body.wpIn (F.inRound l) (n - 1 - 1) P (postX (fun j => X j ∨ b ≤ j) (I (k + 1)) (fun _ _ => False) W) { tmps := (a.tmps.setIfInBounds p (vl k)).setIfInBounds q (.pointer (some ⟨b', 0, none⟩)), defers := [] } W)
    (hdone : ∀ (D : Nat) (W : World), D = w.heap.size → I all.length W → W.heap[D]? = some (.deferred (some [])) → Q .normal { a with defers := { target := .collected D, args := #[] } :: a.defers } W) :
    (Code.rangeFunc g #[p] assign body).wpIn F n P Q a w := by
  refine wpIn_rangeP hro h1 hg hFg eg hseq hb0 hn₀ hCap (fun r hr => ?_) X hX I (fun _ _ _ => False) hI (fun _ _ _ _ h _ => h) h0
    (fun k b a' A' => ∃ b', b ≤ b' ∧ A'.heap[b']? = some (Bx k) ∧ a' = { tmps := (a.tmps.setIfInBounds p (vl k)).setIfInBounds q (.pointer (some ⟨b', 0, none⟩)), defers := [] })
    (fun k b a' A B hx hj => let ⟨b', hb, hc, ha⟩ := hx; ⟨b', hb, (hj b' hb).trans hc, ha⟩) ?_ ?_ hdone (fun D c k W _ _ h => h.elim)
  · obtain ⟨k, hk⟩ := List.getElem?_of_mem hr
    rw [hrow k r hk]
    rfl
  · intro l k r W K hr hi hK
    rw [hrow k r hr]
    have e : (#[p].zip #[vl k]).foldl (fun t (x : Nat × Value) => t.setIfInBounds x.1 x.2) a.tmps = a.tmps.setIfInBounds p (vl k) := by simp
    have e2 := hassign l k W K (List.getElem?_eq_some_iff.1 hr).1 hi (fun b' W' h1 h2 h3 => hK _ _ h1 ⟨b', h2, h3, rfl⟩)
    rw [← e] at e2
    exact e2
  · rintro l k b r a' W hr hwb hbW hi ⟨b', hbb, hc, rfl⟩
    exact hbody l k b b' W (List.getElem?_eq_some_iff.1 hr).1 hwb hbb hbW hi hc
end

/-! ### Plain: bounds, and what is left grade by grade -/
theorem own_small {p : Pol} {g : Gd} {ts : List Ts} {k : Nat} (hs : okSecs p = true) (ht : ∀ t ∈ ts, okT t) (h1 : 1 ≤ (st0 g k).1 ∧ (st0 g k).1 ≤ 200000) (h2 : 1 ≤ (st0 g k).2 ∧ (st0 g k).2 ≤ 200000) :
    (1 ≤ (own p g ts k).1 ∧ (own p g ts k).1 ≤ 1000000000) ∧ (0 ≤ (own p g ts k).2 ∧ (own p g ts k).2 ≤ 200000) := by
  have key : ∀ (us : List Ts) (s : Int × Int), (∀ t ∈ us, okT t) → (1 ≤ s.1 ∧ s.1 ≤ 1000000000) → (0 ≤ s.2 ∧ s.2 ≤ 200000) → (1 ≤ (us.foldl (own1 p k) s).1 ∧ (us.foldl (own1 p k) s).1 ≤ 1000000000) ∧ (0 ≤ (us.foldl (own1 p k) s).2 ∧ (us.foldl (own1 p k) s).2 ≤ 200000) := by
    intro us
    induction us with
    | nil => intro s _ a b; exact ⟨a, b⟩
    | cons t us ih =>
      intro s hu a b
      have hn := needN_bnd (ar_pos hs k).1 (hu t (List.mem_cons_self ..)).2.1 (hu t (List.mem_cons_self ..)).2.2
      rw [List.foldl_cons]
      refine ih _ (fun t' ht' => hu t' (List.mem_cons_of_mem _ ht')) ?_ ?_
      · unfold own1; split
        · split <;> simp only <;> omega
        · exact a
      · unfold own1; split
        · split <;> simp only <;> omega
        · exact b
  exact key ts _ ht ⟨h1.1, by omega⟩ ⟨by omega, h2.2⟩
/-- A grade's spans are valid. -/
def okG2 (g : Gd) : Prop := ∀ k, k < 3 → (1 ≤ (st0 g k).1 ∧ (st0 g k).1 ≤ 200000) ∧ (1 ≤ (st0 g k).2 ∧ (st0 g k).2 ≤ 200000)
theorem okG2.g {g : Gd} (h : okG2 g) : okG g := fun k hk => ⟨(h k hk).1.1, (h k hk).2.2⟩
theorem nearG_step (g : Gd) (vary : Int) (ts : List Ts) (l : List Pol) (k : Nat) (hk : k < l.length) : (fun s => nearG g vary ts (l.take (k + 1)) s) = fun s => cut1 (nearG g vary ts (l.take k) s) (wid1 vary (own l[k] g ts s)) := by
  funext s
  unfold nearG
  rw [List.take_add_one, List.getElem?_eq_getElem hk, List.foldl_append]
  rfl
/-- Whether something is left of a pole. -/
def okL (gs : List Gd) (vary : Int) (ps : List Pol) (ts : List Ts) (q : Pol) : Bool := (List.range 3).all fun k => decide ((spanT gs vary ps ts q k).1 ≤ (spanT gs vary ps ts q k).2)
def okI (gs : List Gd) (vary : Int) (ps : List Pol) (ts : List Ts) : Nat → Bool
  | 0 => true
  | i + 1 => okI gs vary ps ts i && (peers gs ps (i + 1)).all (okL gs vary ps ts)
theorem okI_iff {gs : List Gd} {vary : Int} {ps : List Pol} {ts : List Ts} : ∀ i, okI gs vary ps ts i = true ↔ ∀ p ∈ ps, gOf gs p ≠ 0 → gOf gs p ≤ i → okL gs vary ps ts p = true
  | 0 => by simp only [okI, true_iff]; intro p _ h1 h2; omega
  | i + 1 => by
    simp only [okI, Bool.and_eq_true, okI_iff i, List.all_eq_true]
    constructor
    · rintro ⟨h1, h2⟩ p hp h3 h4
      by_cases e : gOf gs p = i + 1
      · exact h2 p (mem_peers.2 ⟨hp, e⟩)
      · exact h1 p hp h3 (by omega)
    · intro h
      exact ⟨fun p hp h3 h4 => h p hp h3 (by omega), fun p hp => h p (mem_peers.1 hp).1 (by rw [(mem_peers.1 hp).2]; omega) (by rw [(mem_peers.1 hp).2]; omega)⟩
theorem okI_truth {gs : List Gd} {vary : Int} {ps : List Pol} {ts : List Ts} (hv : 0 ≤ vary) : okI gs vary ps ts gs.length = truth gs vary ps ts := by
  rw [truth_left hv, Bool.eq_iff_iff, okI_iff]
  unfold leftAll
  simp only [List.all_eq_true, Bool.or_eq_true, beq_iff_eq]
  constructor
  · intro h p hp
    by_cases e : gOf gs p = 0
    · exact .inl e
    · exact .inr (by have := h p hp e (gOf_le gs p); unfold okL at this; simpa using this)
  · intro h p hp e _
    rcases h p hp with h1 | h1
    · exact absurd h1 e
    · unfold okL; simpa using h1
theorem peers_gAt {gs : List Gd} {ps : List Pol} {i : Nat} (hi : i < gs.length) {q : Pol} (hq : q ∈ peers gs ps (i + 1)) : gAt gs q = gs[i] := by
  rw [gAt_peer hq]
  simp [hi]
theorem left_span {gs : List Gd} {vary : Int} {ps : List Pol} {ts : List Ts} {i : Nat} (hi : i < gs.length) {q : Pol} (hq : q ∈ peers gs ps (i + 1)) : (fun k => leftG gs[i] vary ts (peers gs ps (i + 1)) k q) = fun k => spanT gs vary ps ts q k := by
  funext k
  have e := (mem_peers.1 hq).2
  have := leftG_span (gs := gs) (vary := vary) (ps := ps) (ts := ts) (p := q) (k := k) (g := gs[i]) (by rw [e]; exact fun r hr => peers_gAt hi hr) (peers_gAt hi hq)
  rwa [e] at this
/-- The Ids go up. -/
def Up (ps : List Pol) : Prop := ps.Pairwise fun p q => p.id < q.id
theorem byIdL_up (ok : Pol → Bool) : ∀ (ps : List Pol) (n : Int), byIdL Pol.id ok ps n = true → Up ps ∧ ∀ p ∈ ps, n ≤ p.id ∧ p.id ≤ 9999 ∧ ok p = true
  | [], _, _ => ⟨.nil, fun _ h => by cases h⟩
  | p :: ps, n, h => by
    simp only [byIdL, Bool.and_eq_true, inR_iff] at h
    obtain ⟨⟨h1, h2⟩, h3, h4⟩ := h
    obtain ⟨i1, i2⟩ := byIdL_up ok ps _ h4
    refine ⟨.cons (fun q hq => ?_) i1, fun q hq => ?_⟩
    · have := (i2 q hq).1; omega
    · rcases List.mem_cons.1 hq with rfl | hq
      · exact ⟨h1, h2, h3⟩
      · have := i2 q hq; exact ⟨by omega, this.2.1, this.2.2⟩
theorem Up.peers {gs : List Gd} {ps : List Pol} {n : Nat} (h : Up ps) : Up (peers gs ps n) := h.filter _
theorem Up.ne {l : List Pol} (h : Up l) {i j : Nat} (hi : i < l.length) (hj : j < l.length) (hij : i ≠ j) : l[i].id ≠ l[j].id := by
  rcases Nat.lt_or_gt_of_ne hij with h1 | h1
  · have := List.pairwise_iff_getElem.1 h i j hi hj h1; omega
  · have := List.pairwise_iff_getElem.1 h j i hj hi h1; omega
theorem Up.inj {l : List Pol} (h : Up l) {p q : Pol} (hp : p ∈ l) (hq : q ∈ l) (e : p.id = q.id) : p = q := by
  obtain ⟨i, hi, rfl⟩ := List.mem_iff_getElem.1 hp
  obtain ⟨j, hj, rfl⟩ := List.mem_iff_getElem.1 hq
  by_cases hij : i = j
  · subst hij; rfl
  · exact absurd e (h.ne hi hj hij)

end Go.Proofs.Ytboffligjgjgjaa
