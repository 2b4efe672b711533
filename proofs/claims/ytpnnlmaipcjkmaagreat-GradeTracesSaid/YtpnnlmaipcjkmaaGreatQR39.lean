/-
  The reference's Ready.
-/
import Derived.Test.YtpnnlmaipcjkmaaGreatQR38
set_option linter.all false
namespace Go.Proofs.YtpnnlmaipcjkmaaGreat
open Go.RowKit Go.Shelf
open R6 (done done_ne done_me upd_ne upd_me)

attribute [local go_sem] gives

structure RowsN (w : World) (g : Nat) (A : Option Addr) (l : List Sl) : Prop where
  va : 0 < (slvs l).length → ∃ b off, A = some ⟨b, off, none⟩ ∧ b < w.heap.size ∧ b ≠ g ∧ ∀ k v, (slvs l)[k]? = some v → w.cell? ⟨b, off + k, none⟩ = some v
  each : ∀ s ∈ l, 0 < s.zs.length → ∃ b off, s.A = some ⟨b, off, none⟩ ∧ b < w.heap.size ∧ b ≠ g ∧ ∀ k, k < s.zs.length → w.cell? ⟨b, off + k, none⟩ = some (.int .i64 (s.zs[k]?.getD 0))
theorem RowsN.rows {w : World} {g : Nat} {A : Option Addr} {l : List Sl} (h : RowsN w g A l) : Rows w w.heap.size A l :=
  ⟨fun hl => let ⟨b, off, e, hb, _, hc⟩ := h.va hl; ⟨b, off, e, hb, hc⟩, fun s hs hl => let ⟨b, off, e, hb, _, hc⟩ := h.each s hs hl; ⟨b, off, e, hb, hc⟩⟩
theorem RowsN.of {w : World} {g B : Nat} {A : Option Addr} {l : List Sl} (h : Rows w B A l) (hB : B ≤ g) (hw : B ≤ w.heap.size) : RowsN w g A l :=
  ⟨fun hl => let ⟨b, off, e, hb, hc⟩ := h.va hl; ⟨b, off, e, by omega, by omega, hc⟩, fun s hs hl => let ⟨b, off, e, hb, hc⟩ := h.each s hs hl; ⟨b, off, e, by omega, by omega, hc⟩⟩
theorem RowsN.put {w w' : World} {g : Nat} {A : Option Addr} {l : List Sl} (h : RowsN w g A l) (hp : Put w w' g) : RowsN w' g A l :=
  ⟨fun hl => let ⟨b, off, e, hb, hn, hc⟩ := h.va hl; ⟨b, off, e, by rw [hp.size]; exact hb, hn, fun k v hv => (World.cell?_of_block (w := w) (hp.other b hn)).trans (hc k v hv)⟩,
   fun s hs hl => let ⟨b, off, e, hb, hn, hc⟩ := h.each s hs hl; ⟨b, off, e, by rw [hp.size]; exact hb, hn, fun k hk => (World.cell?_of_block (w := w) (hp.other b hn)).trans (hc k hk)⟩⟩
theorem RowsN.below {w w' : World} {g : Nat} {A : Option Addr} {l : List Sl} (h : RowsN w g A l) (hb : Below w.heap.size w w') : RowsN w' g A l :=
  ⟨fun hl => let ⟨b, off, e, hlt, hn, hc⟩ := h.va hl; ⟨b, off, e, Nat.lt_of_lt_of_le hlt hb.size, hn, fun k v hv => (hb.cell (p := ⟨b, off + k, none⟩) hlt).trans (hc k v hv)⟩,
   fun s hs hl => let ⟨b, off, e, hlt, hn, hc⟩ := h.each s hs hl; ⟨b, off, e, Nat.lt_of_lt_of_le hlt hb.size, hn, fun k hk => (hb.cell (p := ⟨b, off + k, none⟩) hlt).trans (hc k hk)⟩⟩
theorem OwnR.rowsN {W : World} {base g : Nat} {A : Option Addr} {c : Nat} {ls : List Sl} (h : OwnR W base (.slice A ls.length c) ls) (hg : g < base) : RowsN W g A ls := by
  have key : ∀ {e : TypeId} {n m cp : Nat} {X : Option Addr} {xs : List Value}, W.ownsRow base e n (.slice X m cp) m xs → 0 < m → ∀ b off, X = some ⟨b, off, none⟩ → b ≠ g := by
    intro e n m cp X xs ho hm b off hX
    rcases ho.2 with ⟨hv, _⟩ | ⟨g', cap', cur, hv, hb, _⟩
    · simp only [Value.slice.injEq] at hv
      omega
    · simp only [Value.slice.injEq] at hv
      have := hv.1
      rw [hX] at this
      simp only [Option.some.injEq, Addr.mk.injEq] at this
      omega
  refine ⟨fun hl => ?_, fun s hs hl => ?_⟩
  · obtain ⟨b, off, e, hb, hc⟩ := Vals.own h.row hl
    exact ⟨b, off, e, hb, key h.row (by rwa [slvs_len] at hl) b off e, hc⟩
  · obtain ⟨b, off, e, hb, hc⟩ := (h.each s hs).ints hl
    exact ⟨b, off, e, hb, key (h.each s hs) hl b off e, hc⟩

def toI : Option Nat → Int
  | some k => (k : Int)
  | none => -1
def outL (g : Nat → Nat → Bool) (n k p : Nat) : List Int := (List.range n).map fun q => toI (whenF g k p q)
theorem outL_len (g : Nat → Nat → Bool) (n k p : Nat) : (outL g n k p).length = n := by simp [outL]
theorem outL_at (g : Nat → Nat → Bool) (k p : Nat) {n q : Nat} (hq : q < n) : (outL g n k p)[q]?.getD 0 = toI (whenF g k p q) := by simp [outL, List.getElem?_range hq]
theorem outL_same {g : Nat → Nat → Bool} {n k p : Nat} (h : whenF g k (p + 1) = whenF g k p) : outL g n k (p + 1) = outL g n k p := by unfold outL; rw [h]
theorem outL_new {g : Nat → Nat → Bool} {n k p : Nat} (h : whenF g k (p + 1) = fun q => if q = p then some k else whenF g k p q) : (outL g n k p).set p (k : Int) = outL g n k (p + 1) := by
  unfold outL
  rw [h]
  apply List.ext_getElem (by simp)
  intro i h1 h2
  simp only [List.getElem_set, List.getElem_map, List.getElem_range]
  by_cases e : p = i
  · subst e; simp [toI]
  · rw [if_neg e, if_neg (Ne.symm e)]
theorem outL_next (g : Nat → Nat → Bool) (n k : Nat) : outL g n k n = outL g n (k + 1) 0 := by
  unfold outL
  refine List.map_congr_left fun q hq => ?_
  rw [whenF_next (List.mem_range.1 hq)]
theorem outL_start (g : Nat → Nat → Bool) (n : Nat) : outL g n 0 0 = List.replicate n (-1) := by
  apply List.ext_getElem (by simp [outL])
  intro i h1 h2
  simp [outL, whenF, firstB, toI]
def whL (t : Bt) (ws : List (List Int)) (s : Int) : List Int := (List.range ws.length).map fun p => toI (whenS t ws s p)
theorem whL_len (t : Bt) (ws : List (List Int)) (s : Int) : (whL t ws s).length = ws.length := by simp [whL]
theorem outL_end (t : Bt) (ws : List (List Int)) (s : Int) : outL (hitB t.water s t.need (t.borax, ws)) ws.length 301 0 = whL t ws s := by
  unfold outL whL whenS
  refine List.map_congr_left fun q hq => ?_
  unfold whenF
  rw [if_neg (by omega)]

def RchPost (w : World) (zs : List Int) (e : Ending) (w' : World) : Prop :=
  ∃ g c, e = .returned (.slice (some ⟨g, 0, none⟩) zs.length c) ∧ OwnI w' w.heap.size (.slice (some ⟨g, 0, none⟩) zs.length c) zs ∧ Below w.heap.size w w'

structure RefC (w : World) (cs : Array Value) (n : Nat) (zs : List Int) (W : World) : Prop where
  bel : Below w.heap.size w W
  sz : w.heap.size + 1 + 1 ≤ W.heap.size
  b0 : W.heap[w.heap.size]? = some (.cells cs 63 (0, 0))
  len : zs.length = n
  out : OwnI W (w.heap.size + 1) (.slice (some ⟨w.heap.size + 1, 0, none⟩) n n) zs
section
variable {w W W' : World} {cs : Array Value} {n : Nat} {zs zs' : List Int}
theorem RefC.next (h : RefC w cs n zs W) {b : Nat} (hb : Below b W W') (hle : w.heap.size + 1 + 1 ≤ b) (hbW : W.heap.size ≤ b) : RefC w cs n zs W' :=
  ⟨h.bel.trans (below_low hb (by omega)), Nat.le_trans h.sz hb.size, (hb.block _ (by omega)).trans h.b0, h.len, h.out.grows (below_low hb hbW)⟩
theorem RefC.put (h : RefC w cs n zs W) (hp : Put W W' (w.heap.size + 1)) (hl : zs'.length = n) (ho : OwnI W' (w.heap.size + 1) (.slice (some ⟨w.heap.size + 1, 0, none⟩) n n) zs') : RefC w cs n zs' W' :=
  ⟨h.bel.trans (hp.below (by omega)), by rw [hp.size]; exact h.sz, (hp.other _ (by omega)).trans h.b0, hl, ho⟩
end

set_option maxRecDepth 100000 in
set_option maxHeartbeats 8000000 in
theorem refReached_any (t : Bt) (A : Option Addr) (cap : Nat) (l : List Sl) (sp : Int) (B : Nat) (w : World) (hB : B ≤ w.heap.size) (hz : Rows w B A l) (hb : okBatch t (rws l) = true) (h1 : 1 ≤ sp) (h2 : sp ≤ 250) :
    Calls Tryz.prog 90 #[.agg (btcells t (.slice A l.length cap)), .int .i64 sp] w (RchPost w (whL t (rws l) sp)) := by
  obtain ⟨hg, g1, g2, g3, g4, g5, g6⟩ := okBatch_good hb
  have hrl : (rws l).length = l.length := by simp [rws]
  have hn4 : l.length ≤ 4 := by have := hg.n4; rw [hrl] at this; exact this
  have hn1 : 1 ≤ l.length := by rw [← hrl]; exact g4
  have hwl : (whL t (rws l) sp).length = l.length := by rw [whL_len, hrl]
  have hend := outL_end t (rws l) sp
  rw [hrl] at hend
  obtain ⟨S, hS⟩ : ∃ S, S = runS t.water sp (t.borax, rws l) := ⟨_, rfl⟩
  obtain ⟨gh, hgh⟩ : ∃ g, g = hitB t.water sp t.need (t.borax, rws l) := ⟨_, rfl⟩
  have hS0 : S 0 = (t.borax, rws l) := by rw [hS]; rfl
  have hgood : ∀ k, GoodS t.water (S k) := fun k => by rw [hS]; exact runS_good h1 h2 hg k
  have hlens : ∀ k, (S k).2.length = l.length := fun k => by rw [hS, lens_len (lens_run t.water sp (t.borax, rws l) k), hrl]
  have hhit : ∀ p k, gh p k = decide (t.need ≤ coreOf (S k) p) := fun p k => by rw [hgh, hS]; rfl
  have hhour := fun (k : Nat) (A' : Option Addr) (c' : Nat) (ls : List Sl) (W : World) (hr : rws ls = (S k).2) (hR : Rows W W.heap.size A' ls) =>
    refHour_any t.water (S k).1 sp A' c' ls W.heap.size W (Nat.le_refl _) hR h1 h2 (by rw [hr]; exact hgood k)
  have hst : ∀ k, hourS t.water sp ((S k).1, (S k).2) = S (k + 1) := fun k => by rw [hS]; rfl
  rw [← hgh] at hend
  obtain ⟨cs, hcs⟩ : ∃ cs, cs = btcells t (.slice A l.length cap) := ⟨_, rfl⟩
  have hcs0 : cs[0]? = some (.int .i64 t.water) := by rw [hcs]; rfl
  have hcs1 : cs[1]? = some (.int .i64 t.borax) := by rw [hcs]; rfl
  have hcs2 : cs[2]? = some (.slice A l.length cap) := by rw [hcs]; rfl
  have hcs5 : cs[5]? = some (.int .i64 t.need) := by rw [hcs]; rfl
  rw [← hcs]
  obtain ⟨w1, hw1⟩ : ∃ w1, w.alloc (.cells cs 63) = w1 := ⟨_, rfl⟩
  obtain ⟨i0, hi, hz0, hz1, hz2⟩ := info_parts info3
  obtain ⟨w2, hw2⟩ : ∃ w2, w1.alloc (.cells (ints (List.replicate l.length 0)).toArray 3) = w2 := ⟨_, rfl⟩
  have hmk := run_make_ints (P := Tryz.prog) 59 3 i0 Tryz.underlying59 hi hz0 hz1 hz2 l.length (by omega) w1
  rw [hw2] at hmk
  have hs1 : w1.heap.size = w.heap.size + 1 := by rw [← hw1]; simp
  have h0 : RefC w cs l.length (fillL (List.replicate l.length (-1)) 0) w2 := by
    have hb1 : w2.heap[w.heap.size + 1]? = some (.cells (ints (List.replicate l.length 0)).toArray 3 (0, 0)) := by subst hw1 hw2; exact alloc2_at1 _ _ _
    refine ⟨?_, ?_, ?_, by rw [fillL_len _ (Nat.zero_le _), List.length_replicate], ?_⟩
    · subst hw1 hw2; exact ((Below.refl _ w).alloc (Nat.le_refl _) _).alloc (by simp) _
    · subst hw1 hw2; simp
    · subst hw1 hw2; exact alloc2_at0 _ _ _
    · rw [fillL_zero, List.length_replicate]
      have e1 : (List.replicate l.length (0 : Int)).length = l.length := by simp
      refine ⟨by simp [ints], .inr ⟨w.heap.size + 1, l.length, (ints (List.replicate l.length 0)).toArray, by rw [e1], Nat.le_refl _, hb1, by rw [e1]; exact Nat.le_refl _, by simp only [maxLen]; omega, by simp [ints], ?_⟩⟩
      rw [List.toList_toArray, List.take_of_length_le (by simp [ints])]
  have hc2 := (cell_of_row w1 w.heap.size 2 _ _ _ (by rw [← hw1]; exact alloc_at0 _ _)).trans hcs2
  have hzn : RowsN w2 (w.heap.size + 1) A l := RowsN.of (B := B) (hz.below (h0.bel.mono hB)) (by omega) (Nat.le_trans hB h0.bel.size)
  have HF := Lib.hid (And.intro hS0 (And.intro hgood (And.intro hlens (And.intro hhit (And.intro hhour hst)))))
  have HCS := Lib.hid (And.intro hcs0 (And.intro hcs1 (And.intro hcs2 hcs5)))
  have HK := Lib.hid (And.intro hwl (And.intro hend (And.intro hn4 hn1)))
  have H0 := Lib.hid (And.intro h0 hzn)
  have HS1 := Lib.hid hs1
  clear hrl hwl hend hS hgh hS0 hgood hlens hhit hhour hst hcs hcs0 hcs1 hcs2 hcs5 hi hz0 hz1 hz2 hs1 h0 hzn hg g1 g2 g3 g4 g5 hb hz hn1
  go_enter Tryz.func90, Tryz.ntmps90
  go_wp2
  clear hc2 hmk
  go_loopg [6] l.length (fun gg s6 wx => ∃ j : Nat, j + gg = l.length ∧ s6 = .int .i64 j ∧ Hid (RefC w cs l.length (fillL (List.replicate l.length (-1)) j) wx) ∧ Hid (RowsN wx (w.heap.size + 1) A l))
  case atStart => exact ⟨0, by omega, rfl, H0.out.1, H0.out.2⟩
  case round =>
    obtain ⟨j, hjg, rfl, hCj, hNj⟩ := hrel
    cases gk with
    | succ gg =>
      have hj : j < l.length := by omega
      have hjz : (j : Int) < l.length := by omega
      go_wp2_with
        (show wpList _ _ _ (Oper.mk none (Op.store _ (Operand.tmp 23) _) _ _ _ _ :: _) _ _
         refine wpList_store_own (.tmp 23) (.const (.int .i64 (-1))) rfl rfl rfl rfl rfl (base := w.heap.size + 1) (by rw [HS1.out]; exact hCj.out.out) (by rw [hCj.out.len]; exact hj) ?_
         intro w5 hP5 hO5
         rw [HS1.out] at hP5 hO5
         have hset := fillL_set (List.replicate l.length (-1)) (k := j) (by rw [List.length_replicate]; exact hj)
         rw [List.getElem_replicate] at hset
         rw [hset] at hO5
         have hC5 := hCj.out.put hP5 (by rw [fillL_len _ (by rw [List.length_replicate]; omega), List.length_replicate]) hO5
         have hN5 := hNj.out.put hP5
         have H5 := Lib.hid (And.intro hC5 hN5)
         clear hP5 hO5 hset hC5 hN5)
      go_roundg gg
      case measure => omega
      case rel => exact ⟨j + 1, by omega, by go_num, H5.out.1, H5.out.2⟩
    | zero =>
      obtain rfl : j = l.length := by omega
      have hCe := hCj.out
      have e1 : fillL (List.replicate l.length (-1)) l.length = outL gh l.length 0 0 := by
        rw [outL_start]
        have := fillL_all (List.replicate l.length (-1 : Int))
        rwa [List.length_replicate] at this
      rw [e1] at hCe
      have HCE := Lib.hid hCe
      have hst : RdC wr (fun _ => false) (fun _ => undef) wr.drew := ⟨(Below.refl _ _).drew, rfl⟩
      have HST := Lib.hid hst
      clear hCe e1 hjg hst
      go_wp2
      refine R6.wp_walk (C := RdC wr) 74 (by kernel_rfl) (by kernel_rfl) rfl ⟨HST.out.bel, HST.out.sz⟩ ?_
      simp only []
      repeat (first
        | (refine' R6.WalkR.det (fun _ => rfl) (fun D ρ W hK hC => ?_) ?_
           rotate_left
           · have hb0 := (hC.bel.block w.heap.size (lt_of_heap HCE.out.b0)).trans HCE.out.b0
             have hcb1 := (cell_of_row W w.heap.size 1 _ _ _ hb0).trans HCS.out.2.1
             have hcb2 := (cell_of_row W w.heap.size 2 _ _ _ hb0).trans HCS.out.2.2.1
             clear hb0
             have HC := Lib.hid hC
             clear hC hK
             go_simp
             first
               | with_reducible exact ⟨rfl, HC.out.move⟩
               | fail
           simp only [Act.put, List.setIfInBounds_toArray, List.set_cons_succ, List.set_cons_zero]))
      refine R6.WalkR.nil (fun D ρ W hD' hC => ?_)
      have hC0 := HCE.out.next hC.bel HCE.out.sz (Nat.le_refl _)
      have hN0 : RowsN W (w.heap.size + 1) A l := hNj.out.below hC.bel
      have H1 := Lib.hid (And.intro hC0 hN0)
      clear hC hD' hC0 hN0
      go_wp2
      go_loopg [7, 8, 9] 301 (fun gh' s7 s8 s9 wx => ∃ (k : Nat) (A' : Option Addr) (c' : Nat) (ls : List Sl), k + gh' = 301 ∧ s7 = .int .i64 (S k).1 ∧ s8 = .slice A' ls.length c' ∧ s9 = .int .i64 k ∧ Hid (rws ls = (S k).2) ∧ Hid (RefC w cs l.length (outL gh l.length k 0) wx) ∧ Hid (RowsN wx (w.heap.size + 1) A' ls))
      case atStart => exact ⟨0, A, cap, l, by omega, by rw [HF.out.1], rfl, rfl, by show rws l = _; rw [HF.out.1], H1.out.1, H1.out.2⟩
      case round =>
        obtain ⟨k, A', c', ls, hkg, rfl, rfl, rfl, hr, hCk, hNk⟩ := hrel
        cases gk with
        | zero =>
          have hke : k = 301 := by omega
          subst hke
          go_wp2
          go_ret
          have ho := hCk.out.out
          rw [HK.out.2.1] at ho
          refine ⟨w.heap.size + 1, l.length, by rw [HK.out.1, ← HS1.out]; rfl, ?_, hCk.out.bel⟩
          rw [HK.out.1]
          refine ⟨ho.1, ho.2.imp id ?_⟩
          rintro ⟨g, cap', cur, e1, e2, e3⟩
          exact ⟨g, cap', cur, e1, by omega, e3⟩
        | succ gh' =>
          have hk3 : (k : Int) ≤ 300 := by omega
          go_wp2
          obtain ⟨wo, rfl⟩ : ∃ wo : World, wo = wr := ⟨_, rfl⟩
          go_loopg [10] l.length (fun gi s10 wx => ∃ p : Nat, p + gi = l.length ∧ s10 = .int .i64 p ∧ Hid (RefC w cs l.length (outL gh l.length k p) wx) ∧ Hid (RowsN wx (w.heap.size + 1) A' ls))
          case atStart => exact ⟨0, by omega, rfl, hCk.out, hNk.out⟩
          case round =>
            obtain ⟨p, hpg, rfl, hCj, hNj⟩ := hrel
            cases gk with
            | zero =>
              obtain rfl : p = l.length := by omega
              have hh := HF.out.2.2.2.2.1 k A' c' ls wr hr.out hNj.out.rows
              rw [hr.out, HF.out.2.2.2.2.2 k] at hh
              unfold HourPost at hh
              have HH := Lib.hid hh
              have hcb := (cell_of_row wr w.heap.size 0 _ _ _ hCj.out.b0).trans HCS.out.1
              have hCe := hCj.out
              rw [outL_next] at hCe
              have HCE2 := Lib.hid hCe
              clear hh hCe
              go_wp2_with
                (go_at_call 133
                 refine HH.out.mono ?_
                 rintro e w6 ⟨A6, c6, l6, rfl, hr6, hO6, hB6⟩
                 have h6 := HCE2.out.next hB6 HCE2.out.sz (Nat.le_refl _)
                 have hN6 := hO6.rowsN (g := w.heap.size + 1) (by have := HCE2.out.sz; omega)
                 have H6 := Lib.hid (And.intro hr6 (And.intro h6 hN6))
                 clear hr6 hO6 hB6 h6 hN6 hcb)
              go_roundg gh'
              case measure => omega
              case rel => exact ⟨k + 1, A6, c6, l6, by omega, rfl, rfl, by go_num, H6.out.1, H6.out.2.1, H6.out.2.2⟩
            | succ gi =>
              have hp : p < l.length := by omega
              have hpz : (p : Int) < l.length := by omega
              have hp0 : (0 : Int) ≤ p := by omega
              have hll : ls.length = l.length := by have := HF.out.2.2.1 k; rw [← hr.out] at this; simpa [rws] using this
              have hpl : p < ls.length := by omega
              have hplz : (p : Int) < ls.length := by omega
              have hel : rowAt (S k).2 p = ls[p].zs := by rw [← hr.out]; simp [rowAt, rws, hpl]
              have hrow : okRow (rowAt (S k).2 p) := (HF.out.2.1 k).rows _ (by
                have h2' : p < (S k).2.length := by rw [HF.out.2.2.1 k]; exact hp
                simp only [rowAt, List.getElem?_eq_getElem h2', Option.getD_some]
                exact List.getElem_mem h2')
              have hhit := HF.out.2.2.2.1 p k
              have hco : coreOf (S k) p = atR (rowAt (S k).2 p) ((rowAt (S k).2 p).length - 1) := rfl
              rw [hco] at hhit
              rw [hel] at hrow hhit
              obtain ⟨ab, off, hA', hcB, hcN, hc⟩ := hNj.out.va (by rw [slvs_len]; omega)
              subst hA'
              have hy := hc p _ (slvs_at ls p hpl)
              have hin := hNj.out.each _ (List.getElem_mem hpl)
              generalize ls[p] = y at hy hrow hhit hin
              obtain ⟨yA, yc, ys⟩ := y
              unfold slv at hy
              simp only at hy hrow hhit hin
              obtain ⟨m, hm⟩ : ∃ m, ys.length = m + 1 := ⟨ys.length - 1, by have := hrow.l1; omega⟩
              have hm6 : m < 6 := by have := hrow.l6; omega
              obtain ⟨sb, so, hsA, hsB, _, hcs'⟩ := hin (by omega)
              subst hsA
              have hx := hcs' m (by omega)
              rw [hm, Nat.add_sub_cancel] at hhit
              rw [show ys[m]?.getD 0 = atR ys m from rfl] at hx
              rw [hm] at hy
              generalize atR ys m = x at hhit hx
              have hm0 : (0 : Int) ≤ m := by omega
              have hm6z : (m : Int) < 6 := by omega
              have hmz : (m : Int) < (m : Int) + 1 := by omega
              have v0 : IntKind.i64.wrap (m : Int) = m := IntWalk.i64_in _ (by omega)
              have v1 : IntKind.i64.wrap ((m : Int) + 1 - 1) = m := by rw [Int.add_sub_cancel]; exact IntWalk.i64_in _ (by omega)
              have HY := Lib.hid (And.intro hy (And.intro hcB (And.intro hx hsB)))
              have hst : RdC wr (fun _ => false) (fun _ => undef) wr.drew := ⟨(Below.refl _ _).drew, rfl⟩
              have HST := Lib.hid hst
              clear hy hcB hcN hc hx hsB hcs' hin hrow hco hel hm hst hll
              cases hwh : whenF gh k p p with
              | some j =>
                have hstp := outL_same (n := l.length) (whenF_step_has (g := gh) (k := k) (p := p) (by rw [hwh]; rfl))
                have HSTP := Lib.hid hstp
                have HWH := Lib.hid hwh
                have hjn : ¬ (j : Int) < 0 := by omega
                clear hstp hwh hhit
                go_wp2
                refine R6.wp_walk (C := RdC wr) 74 (by kernel_rfl) (by kernel_rfl) rfl ⟨HST.out.bel, HST.out.sz⟩ ?_
                simp only []
                repeat (first
                  | (refine R6.WalkR.un (fun _ => rfl) (fun D ρ W hK hC => hC.move) ?_
                     simp only [Act.put, List.setIfInBounds_toArray, List.set_cons_succ, List.set_cons_zero])
                  | (refine' R6.WalkR.det (fun _ => rfl) (fun D ρ W hK hC => ?_) ?_
                     rotate_left
                     · have hb0 := (hC.bel.block w.heap.size (lt_of_heap hCj.out.b0)).trans hCj.out.b0
                       have hcb := (cell_of_row W w.heap.size 5 _ _ _ hb0).trans HCS.out.2.2.2
                       have hco := own_cellI (W := W) (hCj.out.out.grows hC.bel) (k := p) (by rw [hCj.out.len]; exact hp)
                       rw [outL_at gh k p hp, HWH.out, ← HS1.out] at hco
                       have hca := (hC.bel.cell (p := ⟨ab, off + p, none⟩) HY.out.2.1).trans HY.out.1
                       have hcx := (hC.bel.cell (p := ⟨sb, so + m, none⟩) HY.out.2.2.2).trans HY.out.2.2.1
                       simp only [toI] at hco
                       clear hb0
                       have HC := Lib.hid hC
                       clear hC hK
                       go_simp
                       first
                         | with_reducible exact ⟨rfl, HC.out.move⟩
                         | fail
                     simp only [Act.put, List.setIfInBounds_toArray, List.set_cons_succ, List.set_cons_zero]))
                refine R6.WalkR.nil (fun D ρ W hD' hC => ?_)
                have hCn := hCj.out.next hC.bel hCj.out.sz (Nat.le_refl _)
                have hRn : RowsN W (w.heap.size + 1) (some ⟨ab, off, none⟩) ls := hNj.out.below hC.bel
                have HE := Lib.hid (And.intro hCn hRn)
                clear hC hD' hCn hRn
                go_wp2
                go_roundg gi
                case measure => omega
                case rel => exact ⟨p + 1, by omega, by go_num, by show RefC _ _ _ _ _; rw [HSTP.out]; exact HE.out.1, HE.out.2⟩
              | none =>
                have HWH := Lib.hid hwh
                clear hwh
                cases hgp : gh p k with
                | false =>
                  have hstp := outL_same (n := l.length) (whenF_step_no hgp)
                  rw [hgp] at hhit
                  have hle : ¬ t.need ≤ x := by simpa using hhit.symm
                  have HSTP := Lib.hid hstp
                  clear hstp hgp hhit
                  go_wp2
                  refine R6.wp_walk (C := RdC wr) 74 (by kernel_rfl) (by kernel_rfl) rfl ⟨HST.out.bel, HST.out.sz⟩ ?_
                  simp only []
                  repeat (first
                    | (refine' R6.WalkR.det (fun _ => rfl) (fun D ρ W hK hC => ?_) ?_
                       rotate_left
                       · have hb0 := (hC.bel.block w.heap.size (lt_of_heap hCj.out.b0)).trans hCj.out.b0
                         have hcb := (cell_of_row W w.heap.size 5 _ _ _ hb0).trans HCS.out.2.2.2
                         have hco := own_cellI (W := W) (hCj.out.out.grows hC.bel) (k := p) (by rw [hCj.out.len]; exact hp)
                         rw [outL_at gh k p hp, HWH.out, ← HS1.out] at hco
                         have hca := (hC.bel.cell (p := ⟨ab, off + p, none⟩) HY.out.2.1).trans HY.out.1
                         have hcx := (hC.bel.cell (p := ⟨sb, so + m, none⟩) HY.out.2.2.2).trans HY.out.2.2.1
                         simp only [toI] at hco
                         clear hb0
                         have HC := Lib.hid hC
                         clear hC hK
                         go_simp
                         first
                           | with_reducible exact ⟨rfl, HC.out.move⟩
                           | fail
                       simp only [Act.put, List.setIfInBounds_toArray, List.set_cons_succ, List.set_cons_zero]))
                  refine R6.WalkR.nil (fun D ρ W hD' hC => ?_)
                  have hCn := hCj.out.next hC.bel hCj.out.sz (Nat.le_refl _)
                  have hRn : RowsN W (w.heap.size + 1) (some ⟨ab, off, none⟩) ls := hNj.out.below hC.bel
                  have HE := Lib.hid (And.intro hCn hRn)
                  clear hC hD' hCn hRn
                  go_wp2
                  go_roundg gi
                  case measure => omega
                  case rel => exact ⟨p + 1, by omega, by go_num, by show RefC _ _ _ _ _; rw [HSTP.out]; exact HE.out.1, HE.out.2⟩
                | true =>
                  have hstp := outL_new (n := l.length) (whenF_step_new HWH.out hgp)
                  rw [hgp] at hhit
                  have hle : t.need ≤ x := by simpa using hhit.symm
                  have HSTP := Lib.hid hstp
                  clear hstp hgp hhit
                  go_wp2
                  refine R6.wp_walk (C := RdC wr) 74 (by kernel_rfl) (by kernel_rfl) rfl ⟨HST.out.bel, HST.out.sz⟩ ?_
                  simp only []
                  repeat (first
                    | (refine' R6.WalkR.det (fun _ => rfl) (fun D ρ W hK hC => ?_) ?_
                       rotate_left
                       · have hb0 := (hC.bel.block w.heap.size (lt_of_heap hCj.out.b0)).trans hCj.out.b0
                         have hcb := (cell_of_row W w.heap.size 5 _ _ _ hb0).trans HCS.out.2.2.2
                         have hco := own_cellI (W := W) (hCj.out.out.grows hC.bel) (k := p) (by rw [hCj.out.len]; exact hp)
                         rw [outL_at gh k p hp, HWH.out, ← HS1.out] at hco
                         have hca := (hC.bel.cell (p := ⟨ab, off + p, none⟩) HY.out.2.1).trans HY.out.1
                         have hcx := (hC.bel.cell (p := ⟨sb, so + m, none⟩) HY.out.2.2.2).trans HY.out.2.2.1
                         simp only [toI] at hco
                         clear hb0
                         have HC := Lib.hid hC
                         clear hC hK
                         go_simp
                         first
                           | with_reducible exact ⟨rfl, HC.out.move⟩
                           | fail
                       simp only [Act.put, List.setIfInBounds_toArray, List.set_cons_succ, List.set_cons_zero]))
                  refine R6.WalkR.nil (fun D ρ W hD' hC => ?_)
                  have hCn := hCj.out.next hC.bel hCj.out.sz (Nat.le_refl _)
                  have hRn : RowsN W (w.heap.size + 1) (some ⟨ab, off, none⟩) ls := hNj.out.below hC.bel
                  have HE := Lib.hid (And.intro hCn hRn)
                  clear hC hD' hCn hRn
                  go_wp2_with
                    (show wpList _ _ _ (Oper.mk none (Op.store _ (Operand.tmp 63) (Operand.tmp 62)) _ _ _ _ :: _) _ _
                     refine wpList_store_own (.tmp 63) (.tmp 62) rfl rfl rfl rfl rfl (base := w.heap.size + 1) (by rw [HS1.out]; exact HE.out.1.out) (by rw [outL_len]; exact hp) ?_
                     intro w5 hP5 hO5
                     rw [HS1.out] at hP5 hO5
                     rw [HSTP.out] at hO5
                     have hC5 := HE.out.1.put hP5 (outL_len _ _ _ _) hO5
                     have hR5 := HE.out.2.put hP5
                     have H5 := Lib.hid (And.intro hC5 hR5)
                     clear hP5 hO5 hC5 hR5)
                  go_roundg gi
                  case measure => omega
                  case rel => exact ⟨p + 1, by omega, by go_num, H5.out.1, H5.out.2⟩

end Go.Proofs.YtpnnlmaipcjkmaaGreat

namespace Go.Proofs.YtpnnlmaipcjkmaaGreat
open Go.RowKit Go.Shelf

theorem rowAt_whL {t : Bt} {ws : List (List Int)} {s : Int} {p : Nat} (hp : p < ws.length) : (whL t ws s)[p]?.getD 0 = toI (whenS t ws s p) := by simp [whL, List.getElem?_range hp]

structure BxC (w : World) (cs : Array Value) (W : World) : Prop where
  bel : Below w.heap.size w W
  b0 : W.heap[w.heap.size]? = some (.cells cs 63 (0, 0))
theorem BxC.next {w W W' : World} {cs : Array Value} (h : BxC w cs W) (hg : Grows W W') : BxC w cs W' := ⟨h.bel.trans (hg.mono h.bel.size), (hg.block _ (lt_of_heap h.b0)).trans h.b0⟩

end Go.Proofs.YtpnnlmaipcjkmaaGreat
