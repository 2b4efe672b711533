/-
  GuD
-/
import Derived.Test.YtddpebnmjfmgdaaGreatQT1
import Derived.Test.YtddpebnmjfmgdaaGreatQT3
set_option linter.all false
namespace Go.Proofs.YtddpebnmjfmgdaaGreat
open Go.RowKit
open R6 (done done_ne done_me upd_ne upd_me)

/-- Since wq only the block b was written (among those that were there); it holds X. -/
structure At1 (w0 wq : World) (b : Nat) (ty : TypeId) (X : List Value) (W : World) : Prop where
  bel : Below w0.heap.size w0 W
  sz : wq.heap.size ≤ W.heap.size
  oth : ∀ k, k < wq.heap.size → k ≠ b → W.heap[k]? = wq.heap[k]?
  own : W.heap[b]? = some (.cells X.toArray ty (0, 0))
section
variable {w0 wq wp W W' : World} {b : Nat} {ty : TypeId} {X Y : List Value}
theorem At1.grows (h : At1 w0 wq b ty X W) (hg : Grows W W') : At1 w0 wq b ty X W' :=
  ⟨h.bel.trans (hg.mono h.bel.size), Nat.le_trans h.sz hg.size, fun k hk hne => (hg.block k (Nat.lt_of_lt_of_le hk h.sz)).trans (h.oth k hk hne), (hg.block _ (lt_of_heap h.own)).trans h.own⟩
theorem At1.put (h : At1 w0 wq b ty X W) (hP : Put W W' b) (hM : W'.heap[b]? = some (.cells Y.toArray ty (0, 0))) (h0 : w0.heap.size ≤ b) : At1 w0 wq b ty Y W' :=
  ⟨h.bel.trans (hP.below h0), by rw [hP.size]; exact h.sz, fun k hk hne => (hP.other k hne).trans (h.oth k hk hne), hM⟩
theorem At1.trans (h : At1 w0 wp b ty X wq) (h' : At1 w0 wq b ty Y W) : At1 w0 wp b ty Y W :=
  ⟨h'.bel, Nat.le_trans h.sz h'.sz, fun k hk hne => (h'.oth k (Nat.lt_of_lt_of_le hk h.sz) hne).trans (h.oth k hk hne), h'.own⟩
theorem At1.start (hb : Below w0.heap.size w0 W) (h : W.heap[b]? = some (.cells X.toArray ty (0, 0))) : At1 w0 W b ty X W := ⟨hb, Nat.le_refl _, fun _ _ _ => rfl, h⟩
theorem At1.block (h : At1 w0 wq b ty X W) {k : Nat} {o : Obj} (hk : wq.heap[k]? = some o) (hne : k ≠ b) : W.heap[k]? = some o := (h.oth k (lt_of_heap hk) hne).trans hk
end
def At1D (w0 wq : World) (b : Nat) (ty : TypeId) (X Y : List Value) (ks : Nat) (D : Nat → Bool) (W : World) : Prop := At1 w0 wq b ty (if D ks = true then Y else X) W
section
variable {w0 wq W W' : World} {b : Nat} {ty : TypeId} {X Y : List Value} {ks : Nat} {D : Nat → Bool}
theorem At1D.move {k : Nat} (h : At1D w0 wq b ty X Y ks D W) (hk : (k == ks) = false) : At1D w0 wq b ty X Y ks (done D k) W := by
  have e := done_ne (D := D) (k := k) (j := ks) (by simp at hk; omega)
  unfold At1D
  rw [e]
  exact h
theorem At1D.next (h : At1D w0 wq b ty X Y ks D W) (hg : Grows W W') : At1D w0 wq b ty X Y ks D W' := At1.grows h hg
theorem At1D.put (h : At1D w0 wq b ty X Y ks D W) (hP : Put W W' b) (hM : W'.heap[b]? = some (.cells Y.toArray ty (0, 0))) (h0 : w0.heap.size ≤ b) : At1D w0 wq b ty X Y ks (done D ks) W' := by
  unfold At1D
  rw [done_me, if_pos rfl]
  exact At1.put h hP hM h0
theorem At1D.start (hb : Below w0.heap.size w0 wq) (h : wq.heap[b]? = some (.cells X.toArray ty (0, 0))) : At1D w0 wq b ty X Y ks (fun _ => false) wq.drew := At1.grows (At1.start hb h) (Below.refl _ _).drew
theorem At1D.before (h : At1D w0 wq b ty X Y ks D W) (hk : D ks = false) : At1 w0 wq b ty X W := by
  unfold At1D at h
  rw [hk] at h
  exact h
theorem At1D.after (h : At1D w0 wq b ty X Y ks D W) (hk : D ks = true) : At1 w0 wq b ty Y W := by
  unfold At1D at h
  rw [hk] at h
  exact h
end
theorem own_at {W W' : World} {base : Nat} {e : TypeId} {size n : Nat} {v : Value} {xs : List Value} (h : W.ownsRow base e size v n xs) (hk : ∀ g, v.ownBlock = some g → W'.heap[g]? = W.heap[g]?) : W'.ownsRow base e size v n xs := by
  refine ⟨h.1, ?_⟩
  rcases h.2 with h2 | ⟨g, cap, cur, hv, hb, hh, h3⟩
  · exact .inl h2
  · exact .inr ⟨g, cap, cur, hv, hb, (hk g (by rw [hv]; rfl)).trans hh, h3⟩
theorem TruC.set {w0 W W' : World} {mb n m c b : Nat} {F : Int → Int} {A : Option Addr} {R : List Int} {ty : TypeId} {X : List Value} {cs : Array Value} {t : TypeId} {fr : Nat × Nat} (h : TruC w0 mb n F A m c R W) (h1 : At1 w0 W b ty X W') (hb : W.heap[b]? = some (.cells cs t fr)) (hne : (Value.slice A m c).ownBlock ≠ some b) : TruC w0 mb n F A m c R W' := by
  refine ⟨h1.bel, h.mbl, h.map.block (h1.oth _ h.map.lt (fun e => ?_)), own_at h.row (fun g hg => h1.oth g ?_ (fun e => hne (by rw [hg, e])))⟩
  · obtain ⟨es, cl, hm⟩ := h.map.obj
    rw [e, hb] at hm
    cases hm
  · obtain ⟨cur, hc, _⟩ := own_bt h.row hg
    exact lt_of_heap hc

def pAt (ps : List Pol) (j : Nat) : Pol := ps[j]?.getD ⟨0, 0, 0, 0, 0, 0, 0, 0, 0, 0, 0, 0⟩
theorem pAt_at {ps : List Pol} {j : Nat} (hj : j < ps.length) : pAt ps j = ps[j] := by simp [pAt, hj]
def row3 (gs : List Gd) (vary : Int) (b : List Int) (j : Nat) (p : Pol) : List Int := [stI gs vary b j p 0, stI gs vary b j p 1, stI gs vary b j p 2]
def rowsL (gs : List Gd) (vary : Int) (b : List Int) (ps : List Pol) (i : Nat) : List Int := (List.range i).flatMap fun j => row3 gs vary b j (pAt ps j)
theorem rowsL_step (gs : List Gd) (vary : Int) (b : List Int) (ps : List Pol) (i : Nat) : rowsL gs vary b ps (i + 1) = rowsL gs vary b ps i ++ row3 gs vary b i (pAt ps i) := by
  unfold rowsL
  rw [List.range_succ, List.flatMap_append]
  simp
theorem rowsL_len (gs : List Gd) (vary : Int) (b : List Int) (ps : List Pol) (i : Nat) : (rowsL gs vary b ps i).length = i * 3 := by
  induction i with
  | zero => rfl
  | succ i ih => rw [rowsL_step, List.length_append, ih]; simp [row3]; omega
theorem rowsL_at (gs : List Gd) (vary : Int) (b : List Int) (ps : List Pol) : ∀ (n i k : Nat), i < n → k < 3 → (rowsL gs vary b ps n)[i * 3 + k]? = some (stI gs vary b i (pAt ps i) k)
  | 0, i, k, h, _ => by omega
  | n + 1, i, k, h, hk => by
    rw [rowsL_step]
    by_cases e : i < n
    · rw [List.getElem?_append_left (by rw [rowsL_len]; omega)]
      exact rowsL_at gs vary b ps n i k e hk
    · have : i = n := by omega
      subst this
      rw [List.getElem?_append_right (by rw [rowsL_len]; omega), rowsL_len]
      rcases (by omega : k = 0 ∨ k = 1 ∨ k = 2) with rfl | rfl | rfl
      · simp [row3]
      · simp [row3]
      · simp [row3]
/-- The first k numbers of a row. -/
def pre3 (f : Nat → Int) (k : Nat) : List Int := [if 0 < k then f 0 else 0, if 1 < k then f 1 else 0, if 2 < k then f 2 else 0]
theorem pre3_set (f : Nat → Int) {k : Nat} (hk : k < 3) : (pre3 f k).set k (f k) = pre3 f (k + 1) := by
  rcases (by omega : k = 0 ∨ k = 1 ∨ k = 2) with rfl | rfl | rfl <;> simp [pre3]
theorem pre3_zero (f : Nat → Int) (hf : ∀ k, f k = 0) (k : Nat) : pre3 f k = [0, 0, 0] := by simp [pre3, hf]
theorem ints_pre3 (f : Nat → Int) {k : Nat} (hk : k < 3) : (ints (pre3 f k)).set k (.int .i64 (f k)) = ints (pre3 f (k + 1)) := by
  rw [← pre3_set f hk]
  simp [ints, List.map_set]
def mapL (gs : List Gd) (ps : List Pol) : Int → Int := ps.foldl (fun F p => updZ F p.id (gOf gs p : Nat)) fun _ => 0
theorem mapL_step (gs : List Gd) (ps : List Pol) {i : Nat} (hi : i < ps.length) : mapL gs (ps.take (i + 1)) = updZ (mapL gs (ps.take i)) ps[i].id (gOf gs ps[i] : Nat) := by
  unfold mapL
  rw [List.take_add_one, List.getElem?_eq_getElem hi, List.foldl_append]
  rfl
theorem mapL_other (gs : List Gd) : ∀ (ps : List Pol) (F : Int → Int) (x : Int), (∀ p ∈ ps, p.id ≠ x) → ps.foldl (fun F p => updZ F p.id (gOf gs p : Nat)) F x = F x
  | [], F, x, _ => rfl
  | p :: ps, F, x, h => by
    rw [List.foldl_cons, mapL_other gs ps _ x (fun q hq => h q (List.mem_cons_of_mem _ hq))]
    unfold updZ
    exact if_neg fun e => h p List.mem_cons_self e.symm
theorem mapL_at {gs : List Gd} : ∀ {ps : List Pol} (F : Int → Int), Up ps → ∀ p ∈ ps, ps.foldl (fun F p => updZ F p.id (gOf gs p : Nat)) F p.id = ((gOf gs p : Nat) : Int)
  | [], _, _, p, h => by cases h
  | q :: ps, F, hu, p, h => by
    have hq := (List.pairwise_cons.1 hu)
    rw [List.foldl_cons]
    rcases List.mem_cons.1 h with rfl | h
    · rw [mapL_other gs ps _ _ (fun r hr => by have := hq.1 r hr; omega)]
      unfold updZ
      exact if_pos rfl
    · exact mapL_at _ hq.2 p h

end Go.Proofs.YtddpebnmjfmgdaaGreat
