/-
  The reference's Ready.
-/
import Derived.Test.YtfampdiompjmeaaCeW
namespace Go.Proofs.Ytfampdiompjmeaa
open Go.RowKit Go.Shelf

theorem rowAt_whL {t : Bt} {ws : List (List Int)} {s : Int} {p : Nat} (hp : p < ws.length) : (whL t ws s)[p]?.getD 0 = toI (whenS t ws s p) := by simp [whL, List.getElem?_range hp]

set_option maxRecDepth 100000 in
set_option maxHeartbeats 8000000 in
theorem refReady_bad (t : Bt) (A : Option Addr) (cap : Nat) (l : List Sl) (B : Nat) (w : World) (hB : B ≤ w.heap.size) (hz : Rows w B A l) (hl : ∀ s ∈ l, s.zs.length ≤ 9223372036854775807) (hb : okBatch t (rws l) = false) :
    Calls Try.prog 31 #[.agg (btcells t (.slice A l.length cap))] w (RedPost w t (rws l)) := by
  have hck := fun W (hW : Below w.heap.size w W) => refBatch_any t A cap l B W (Nat.le_trans hB hW.size) (hz.below (hW.mono hB)) hl
  have hE : readyE t (rws l) = 40 := by simp [readyE, hb]
  have hV : readyV t (rws l) = 0 := by simp [readyV, hE]
  rw [hb] at hck
  have HCK := Lib.hid hck
  have HR := Lib.hid (And.intro hE hV)
  clear hck hE hV hz hl hb
  unfold btcells at HCK ⊢
  go_enter Try.func31, Try.ntmps31
  go_wp2_with (go_at_call 40; refine (HCK.out _ (grow1 w _)).mono ?_; rintro e w1 ⟨rfl, hB1⟩; have H1 := Lib.hid ((grow1 w _).trans (hB1.mono (by simp))); clear hB1)
  go_ret2
  exact ⟨by rw [HR.out.1, HR.out.2]; rfl, H1.out⟩

/-- The batch lies in its box. -/
structure BxC (w : World) (cs : Array Value) (W : World) : Prop where
  bel : Below w.heap.size w W
  b0 : W.heap[w.heap.size]? = some (.cells cs 28 (0, 0))
theorem BxC.next {w W W' : World} {cs : Array Value} (h : BxC w cs W) (hg : Grows W W') : BxC w cs W' := ⟨h.bel.trans (hg.mono h.bel.size), (hg.block _ (lt_of_heap h.b0)).trans h.b0⟩

set_option maxRecDepth 100000 in
set_option maxHeartbeats 8000000 in
theorem refReady_ok (t : Bt) (A : Option Addr) (cap : Nat) (l : List Sl) (B : Nat) (w : World) (hB : B ≤ w.heap.size) (hz : Rows w B A l) (hl : ∀ s ∈ l, s.zs.length ≤ 9223372036854775807) (hb : okBatch t (rws l) = true) :
    Calls Try.prog 31 #[.agg (btcells t (.slice A l.length cap))] w (RedPost w t (rws l)) := by
  obtain ⟨hg, g1, g2, g3, g4, -⟩ := okBatch_good hb
  have hn4 : l.length ≤ 4 := by have := hg.n4; simpa [rws] using this
  have hrl : (rws l).length = l.length := by simp [rws]
  have hck := fun W (hW : Below w.heap.size w W) => refBatch_any t A cap l B W (Nat.le_trans hB hW.size) (hz.below (hW.mono hB)) hl
  have hre := fun (k : Nat) (hk : k < spN t) W (hW : Below w.heap.size w W) => refReached_any t A cap l (t.lo + k) B W (Nat.le_trans hB hW.size) (hz.below (hW.mono hB)) hb (by omega) (by unfold spN at hk; omega)
  unfold RchPost at hre
  have hwl : ∀ s, (whL t (rws l) s).length = l.length := fun s => by rw [whL_len, hrl]
  simp only [hwl] at hre
  have hRE : readyE t (rws l) = if allN t (rws l) (spN t) = true then 0 else 6 := by simp [readyE, hb]
  have hRV0 : allN t (rws l) (spN t) = false → readyV t (rws l) = 0 := fun e => by simp [readyV, hRE, e]
  have hRV1 : allN t (rws l) (spN t) = true → readyV t (rws l) = maxS t (rws l) (spN t) := fun e => by simp [readyV, hRE, e]
  have hspn : (spN t : Int) = t.hi - t.lo + 1 := by unfold spN; omega
  have hsp : spN t ≤ 250 := by unfold spN; omega
  rw [hb] at hck
  have h0 : BxC w (btcells t (.slice A l.length cap)) (w.alloc (.cells (btcells t (.slice A l.length cap)) 28)) := ⟨grow1 _ _, alloc_at0 _ _⟩
  have HF := Lib.hid (And.intro hck hre)
  have HR := Lib.hid (And.intro hRE (And.intro hRV0 (And.intro hRV1 (And.intro hrl hwl))))
  have H0 := Lib.hid h0
  clear hck hre hwl hRE hRV0 hRV1 hrl h0 hg hz hb hl
  unfold btcells at H0 HF ⊢
  go_enter Try.func31, Try.ntmps31
  go_wp2_with (go_at_call 40; refine (HF.out.1 _ H0.out.bel).mono ?_; rintro e w1 ⟨rfl, hB1⟩
               have h1 := H0.out.next hB1
               have hc1 := fun i => cell_of_row w1 w.heap.size i _ _ _ h1.b0
               have H1 := Lib.hid h1; clear hB1 h1)
  clear hc1
  go_loopg [4, 5] (spN t) (fun gg s4 s5 wx => ∃ k : Nat, k + gg = spN t ∧ s4 = .int .i64 ((maxS t (rws l) k : Nat) : Int) ∧ s5 = .int .i64 (t.lo + k) ∧ Hid (allN t (rws l) k = true) ∧ Hid (BxC w #[.int .i64 t.water, .int .i64 t.borax, .slice A l.length cap, .int .i64 t.lo, .int .i64 t.hi, .int .i64 t.need] wx))
  case atStart => exact ⟨0, by omega, rfl, by simp, rfl, H1.out⟩
  case round =>
    obtain ⟨k, hkg, rfl, rfl, hA, hT⟩ := hrel
    have hcr := fun i => cell_of_row wr w.heap.size i _ _ _ hT.out.b0
    cases gk with
    | zero =>
      have hkn : ¬ t.lo + (k : Int) ≤ t.hi := by omega
      have hke : k = spN t := by omega
      have HKE := Lib.hid hke
      clear hke
      go_wp2
      go_ret2
      have hA := hA.out
      rw [HKE.out] at hA ⊢
      exact ⟨by rw [HR.out.1, HR.out.2.2.1 hA, hA]; rfl, hT.out.bel⟩
    | succ gg =>
      have hkz : t.lo + (k : Int) ≤ t.hi := by omega
      have hkn : k < spN t := by omega
      have hk250 : (k : Int) < 250 := by omega
      have hfs := allN_succ t (rws l) k
      rw [hA.out, Bool.true_and] at hfs
      have HFS := Lib.hid hfs
      clear hfs
      go_wp2_with
        (go_at_call 63
         refine (HF.out.2 k hkn wr hT.out.bel).mono ?_
         rintro e w3 ⟨g, c, rfl, hO3, hB3⟩
         have hT3 := hT.out.next hB3
         have H3 := Lib.hid (And.intro hT3 hO3)
         clear hT3 hO3 hB3 hcr)
      obtain ⟨wo, rfl⟩ : ∃ wo : World, wo = wr := ⟨_, rfl⟩
      go_loopg [4, 7] l.length (fun gh s4 s7 wx => ∃ (p m : Nat), p + gh = l.length ∧ s4 = .int .i64 (m : Int) ∧ s7 = .int .i64 p ∧ m ≤ 300 ∧ Hid (m = mxF (whenS t (rws l) (t.lo + k)) p (maxS t (rws l) k)) ∧ Hid (∀ q, q < p → (whenS t (rws l) (t.lo + k) q).isSome = true) ∧ wx = w3)
      case atStart => exact ⟨0, maxS t (rws l) k, by omega, rfl, rfl, maxS_le _ _ _, rfl, fun q hq => by omega, rfl⟩
      case round =>
        obtain ⟨p, m, hpg, rfl, rfl, hm3, hM, hS, rfl⟩ := hrel
        cases gk with
        | zero =>
          have hpe : p = l.length := by omega
          have hall : allS t (rws l) (t.lo + k) = true := allS_iff.2 fun q hq => hS.out q (by rw [HR.out.2.2.2.1] at hq; omega)
          have hms : m = maxS t (rws l) (k + 1) := by rw [hM.out, hpe, ← HR.out.2.2.2.1]; rfl
          have HE := Lib.hid (And.intro (HFS.out.trans hall) hms)
          have hpn : ¬ (p : Int) < l.length := by omega
          clear hall hms hpe
          go_wp2
          go_roundg gg
          case measure => omega
          case rel => exact ⟨k + 1, by omega, by rw [HE.out.2], by go_num, HE.out.1, H3.out.1⟩
        | succ gh =>
          have hp : p < l.length := by omega
          have hpz : (p : Int) < l.length := by omega
          have hp0 : (0 : Int) ≤ p := by omega
          have hx := own_cellI (W := wr) H3.out.2 (k := p) (by rw [HR.out.2.2.2.2]; exact hp)
          rw [rowAt_whL (by rw [HR.out.2.2.2.1]; exact hp)] at hx
          cases hw : whenS t (rws l) (t.lo + k) p with
          | none =>
            rw [hw] at hx
            simp only [toI] at hx
            have hno : allS t (rws l) (t.lo + k) = false := by
              cases e : allS t (rws l) (t.lo + k) with
              | false => rfl
              | true =>
                have := allS_iff.1 e p (by rw [HR.out.2.2.2.1]; exact hp)
                rw [hw] at this
                cases this
            have hno2 := allN_false hno hkn
            have HNO := Lib.hid hno2
            clear hno hno2 hw
            go_wp2
            go_ret2
            exact ⟨by rw [HR.out.1, HR.out.2.1 HNO.out, HNO.out]; rfl, H3.out.1.bel⟩
          | some j =>
            rw [hw] at hx
            simp only [toI] at hx
            have hj3 : j ≤ 300 := whenS_le hw
            have hjn : ¬ (j : Int) < 0 := by omega
            have hS2 : ∀ q, q < p + 1 → (whenS t (rws l) (t.lo + k) q).isSome = true := fun q hq => by
              by_cases e : q = p
              · rw [e, hw]; rfl
              · exact hS.out q (by omega)
            have hM2 : max m j = mxF (whenS t (rws l) (t.lo + k)) (p + 1) (maxS t (rws l) k) := by
              rw [hM.out]
              show _ = max _ ((whenS t (rws l) (t.lo + k) p).getD 0)
              rw [hw]; rfl
            have HS2 := Lib.hid hS2
            clear hS2 hw
            by_cases hmj : m < j
            · rw [show max m j = j by omega] at hM2
              have HM2 := Lib.hid hM2
              clear hM2
              go_wp2
              go_roundg gh
              case measure => omega
              case rel => exact ⟨p + 1, j, by omega, rfl, by go_num, hj3, HM2.out, HS2.out, rfl⟩
            · rw [show max m j = m by omega] at hM2
              have HM2 := Lib.hid hM2
              clear hM2
              go_wp2
              go_roundg gh
              case measure => omega
              case rel => exact ⟨p + 1, m, by omega, rfl, by go_num, hm3, HM2.out, HS2.out, rfl⟩

theorem refReady_any (t : Bt) (A : Option Addr) (cap : Nat) (l : List Sl) (B : Nat) (w : World) (hB : B ≤ w.heap.size) (hz : Rows w B A l) (hl : ∀ s ∈ l, s.zs.length ≤ 9223372036854775807) :
    Calls Try.prog 31 #[.agg (btcells t (.slice A l.length cap))] w (RedPost w t (rws l)) := by
  cases hb : okBatch t (rws l) with
  | false => exact refReady_bad t A cap l B w hB hz hl hb
  | true => exact refReady_ok t A cap l B w hB hz hl hb

end Go.Proofs.Ytfampdiompjmeaa
