/-
  The law CureOrder.
-/
import Derived.Test.YtfampdiompjmeaaCgW
import Derived.Test.YtfampdiompjmeaaCgT
import Derived.Laws.BytesArg
namespace Go.Proofs.Ytfampdiompjmeaa
open Go.RowKit Go.Shelf
open R6 (done done_ne done_me upd_ne upd_me)

attribute [local go_sem] gives

theorem mem_rot {α : Type} {k : Nat} {l : List α} {x : α} (h : x ∈ rot k l) : x ∈ l := by
  rcases List.mem_append.1 h with h | h
  · exact List.mem_of_mem_drop h
  · exact List.mem_of_mem_take h
/-- A turned list lies where its head does; its rows lie where they lay. -/
theorem Rows.rot {w : World} {B B' : Nat} {A A' : Option Addr} {l : List Sl} {k : Nat} (h : Rows w B A l) (hv : Vals w B' A' (slvs (rot k l))) (hB : B ≤ B') : Rows w B' A' (rot k l) :=
  ⟨hv, fun s hs => (h.each s (mem_rot hs)).mono hB⟩
theorem str_app (xs ys : List Int) : strOfNums xs ++ strOfNums ys = strOfNums (xs ++ ys) := by
  apply ByteArray.ext
  rw [ByteArray.data_append]
  simp [strOfNums]
theorem conv_some {W : World} {b off c : Nat} {zs : List Int} (hc : ∀ i, i < zs.length → W.cell? ⟨b, off + i, none⟩ = some (.int .u8 (zs[i]?.getD 0))) : (convert 33 9 (.slice (some ⟨b, off, none⟩) zs.length c)).run Try.prog W = .ok (.string (strOfNums zs)) W :=
  run_convert_bytes_arg W 33 5 Try.underlying33 Try.underlying5 b off _ c zs rfl (fun i hi => by
    rw [hc i hi]
    simp [List.getD, List.getElem?_eq_getElem hi]) 9 Try.underlying9

def RunO (n : Nat) (W : World) (b : Int) (ws : List (List Int)) (e : Ending) (w' : World) : Prop :=
  ∃ A c l8, e = .returned (.tuple #[.int .i64 b, .slice A n c, .int .i64 0]) ∧ l8.length = n ∧ rws l8 = ws ∧ OwnR w' W.heap.size (.slice A l8.length c) l8 ∧ Below W.heap.size W w'
def TreO (n : Nat) (W : World) (L : List Int) (e : Ending) (w' : World) : Prop :=
  ∃ A c, e = .returned (.tuple #[.slice A n c, .int .i64 0]) ∧ OwnU w' W.heap.size (.slice A L.length c) L ∧ Below W.heap.size W w'
theorem runO_any {t : Bt} {l : List Sl} {s : Int} {n : Nat} {A : Option Addr} {c N : Nat} {W : World} {ws : List (List Int)} (hw : rws l = ws) (hN : l.length = N) (hok : okBatch t ws = true) (hR : Rows W W.heap.size A l) (h1 : t.lo ≤ s) (h2 : s ≤ t.hi) (hn : n ≤ 300) :
    Calls Try.prog 17 #[.agg (btcells t (.slice A N c)), .int .i64 s, .int .i64 (n : Int)] W (RunO N W (runS t.water s (t.borax, ws) n).1 (runS t.water s (t.borax, ws) n).2) := by
  have h := run_any t A c l s (n : Int) W.heap.size W (Nat.le_refl _) hR (okBatch_shortL (by rw [hw]; exact hok))
  have hi := runIs_of (sp := s) (n := n) hok h1 h2 hn
  unfold RunPost at h
  rw [hw, hi.e, hi.b, hi.r] at h
  rw [← hN]
  refine h.mono fun e w' ⟨A8, c8, l8, he, hr8, hO, hB⟩ => ?_
  have hn8 : l8.length = l.length := by rw [rws_len hr8, lens_len hi.len, ← hw]; simp [rws]
  exact ⟨A8, c8, l8, by rw [he, hn8], hn8, hr8, hO, hB⟩
theorem treO_any {t : Bt} {l : List Sl} {n : Nat} {A : Option Addr} {c N : Nat} {W : World} {ws : List (List Int)} (hw : rws l = ws) (hN : l.length = N) (hok : okBatch t ws = true) (hR : Rows W W.heap.size A l) (hn : n ≤ 300) :
    Calls Try.prog 18 #[.agg (btcells t (.slice A N c)), .int .i64 (n : Int)] W (TreO N W (knownL t ws n)) := by
  have h := cureTreated_any t A c l (n : Int) W.heap.size W (Nat.le_refl _) hR (okBatch_shortL (by rw [hw]; exact hok))
  have hE : treatE t ws n = 0 := by
    have e2 : allB 0 300 [(n : Int)] = true := allB_iff.2 ⟨by omega, by omega⟩
    simp [treatE, hok, e2]
  have hL : treatL t ws n = knownL t ws n := by simp [treatL, hE]
  unfold TrePost at h
  rw [hw, hE, hL] at h
  rw [← hN]
  refine h.mono fun e w' ⟨A8, c8, he, hO, hB⟩ => ⟨A8, c8, ?_, hO, hB⟩
  rw [he, knownL_len, ← hw]
  simp [rws]

/-- An own list, opened. -/
theorem own_open {W : World} {base n c : Nat} {e : TypeId} {A : Option Addr} {xs : List Value} (h : W.ownsRow base e 1 (.slice A n c) n xs) (h0 : 0 < n) :
    ∃ g, A = some ⟨g, 0, none⟩ ∧ base ≤ g ∧ g < W.heap.size ∧ n ≤ c ∧ ∀ (j : Nat) v, xs[j]? = some v → W.cell? ⟨g, j, none⟩ = some v := by
  obtain ⟨g, cap, hv, hb, hl⟩ := own_form h (by intro e; injection e; omega)
  have hcap := own_cap2 h
  simp only [Value.slice.injEq, true_and] at hv
  obtain ⟨rfl, rfl⟩ := hv
  have hlen : xs.length = n * 1 := h.1
  obtain ⟨b, off, e, _, hc⟩ := Vals.own h (by omega)
  injection e with e
  injection e with e1 e2
  subst e1 e2
  exact ⟨g, rfl, hb, hl, hcap, fun j v hv => by have := hc j v hv; rwa [Nat.zero_add] at this⟩

/-- What lies while the two batches are asked. -/
structure OrdC (w : World) (cs : Array Value) (nb : Nat) (X : List Value) (A' : Option Addr) (ls : List Sl) (W : World) : Prop where
  bel : Below w.heap.size w W
  b0 : W.heap[w.heap.size]? = some (.cells cs 28 (0, 0))
  x : W.heap[nb]? = some (.cells X.toArray 28 (0, 0))
  rows : Rows W W.heap.size A' ls
theorem OrdC.next {w W W' : World} {cs : Array Value} {nb : Nat} {X : List Value} {A' : Option Addr} {ls : List Sl} (h : OrdC w cs nb X A' ls W) (hg : Grows W W') : OrdC w cs nb X A' ls W' :=
  ⟨h.bel.trans (hg.mono h.bel.size), (hg.block _ (lt_of_heap h.b0)).trans h.b0, (hg.block _ (lt_of_heap h.x)).trans h.x, (h.rows.below hg).mono hg.size⟩

end Go.Proofs.Ytfampdiompjmeaa
