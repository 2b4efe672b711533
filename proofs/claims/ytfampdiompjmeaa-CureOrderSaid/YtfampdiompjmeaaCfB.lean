/-
  Regions behind a call of which a fact is known; what is in all cells.
-/
import Derived.Test.YtfampdiompjmeaaCfA
namespace Go.Proofs.Ytfampdiompjmeaa
open Go.RowKit Go.Shelf
open R6 (done done_ne done_me upd_ne upd_me)

attribute [local go_sem] gives

/-- Where a region is that calls, and hands on what the call told. -/
structure ResC (B : Nat) (w0 : World) (x : Nat) (cs : Array Value) (ty : TypeId) (Φ : Value → World → Prop) (kc tc : Nat) (D : Nat → Bool) (σ : Nat → Value) (W : World) : Prop where
  bel : Below B w0 W
  lb : B ≤ W.heap.size
  box : W.heap[x]? = some (.cells cs ty (0, 0))
  res : D kc = true → Φ (σ tc) W
section
variable {B : Nat} {w0 W W' : World} {x : Nat} {cs : Array Value} {ty : TypeId} {Φ : Value → World → Prop} {kc tc : Nat} {D : Nat → Bool} {σ : Nat → Value}
theorem ResC.move {k : Nat} {d : Option Nat} {u : Value} (h : ResC B w0 x cs ty Φ kc tc D σ W) (hk : runK kc tc k d = true) : ResC B w0 x cs ty Φ kc tc (done D k) (R4.upd σ d u) W := by
  simp only [runK, Bool.not_eq_true', Bool.or_eq_false_iff, beq_eq_false_iff_ne, ne_eq] at hk
  have e1 := done_ne (D := D) (k := k) (j := kc) (by omega)
  have u1 := upd_ne (ρ := σ) (v := u) hk.2
  exact ⟨h.bel, h.lb, h.box, by rw [e1, u1]; exact h.res⟩
theorem ResC.next {k : Nat} {d : Option Nat} {u : Value} (h : ResC B w0 x cs ty Φ kc tc D σ W) (hg : Grows W W') (hk : runK kc tc k d = true) (hΦ : ∀ v, Φ v W → Φ v W') : ResC B w0 x cs ty Φ kc tc (done D k) (R4.upd σ d u) W' := by
  simp only [runK, Bool.not_eq_true', Bool.or_eq_false_iff, beq_eq_false_iff_ne, ne_eq] at hk
  have e1 := done_ne (D := D) (k := k) (j := kc) (by omega)
  have u1 := upd_ne (ρ := σ) (v := u) hk.2
  exact ⟨h.bel.trans (hg.mono h.lb), Nat.le_trans h.lb hg.size, (hg.block _ (lt_of_heap h.box)).trans h.box, by rw [e1, u1]; exact fun e => hΦ _ (h.res e)⟩
theorem ResC.made {u : Value} (h : ResC B w0 x cs ty Φ kc tc D σ W) (hg : Grows W W') (hΦ : Φ u W') : ResC B w0 x cs ty Φ kc tc (done D kc) (R4.upd σ (some tc) u) W' :=
  ⟨h.bel.trans (hg.mono h.lb), Nat.le_trans h.lb hg.size, (hg.block _ (lt_of_heap h.box)).trans h.box, fun _ => by rw [upd_me]; exact hΦ⟩
theorem ResC.start (hb : Below B w0 W) (hl : B ≤ W.heap.size) (hx : W.heap[x]? = some (.cells cs ty (0, 0))) (hD : D kc = false) : ResC B w0 x cs ty Φ kc tc D σ W.drew := ⟨hb.drew, hl, hx, fun e => by rw [hD] at e; cases e⟩
end

/-- What Run has told. -/
def RunR (B : Nat) (t : Bt) (ws : List (List Int)) (sp h : Int) (v : Value) (W : World) : Prop :=
  ∃ A c ls, v = .tuple #[.int .i64 (runB t ws sp h), .slice A ls.length c, .int .i64 (runE t ws sp h)] ∧ rws ls = runR t ws sp h ∧ OwnR W B (.slice A ls.length c) ls
theorem RunR.grows {B : Nat} {t : Bt} {ws : List (List Int)} {sp h : Int} {v : Value} {W W' : World} (hr : RunR B t ws sp h v W) (hg : Grows W W') : RunR B t ws sp h v W' :=
  let ⟨A, c, ls, e, a, b⟩ := hr; ⟨A, c, ls, e, a, b.grows hg⟩

theorem massL_take {ws : List (List Int)} {k : Nat} (hk : k < ws.length) : massL (ws.take (k + 1)) = massL (ws.take k) + (rowAt ws k).sum := by
  have e : ws.take (k + 1) = ws.take k ++ [rowAt ws k] := by rw [List.take_add_one]; simp [rowAt, hk]
  unfold massL
  rw [e, List.map_append, List.sum_append]
  simp

set_option maxRecDepth 100000 in
set_option maxHeartbeats 4000000 in
theorem cells4_any (A : Option Addr) (cap : Nat) (l : List Sl) (B : Nat) (w : World) (hB : B ≤ w.heap.size) (hz : Rows w B A l) (h4 : l.length ≤ 4) (hr : ∀ r ∈ rws l, okRow r) :
    Calls Try.prog 38 #[.slice A l.length cap] w fun e w' => e = .returned (.tuple #[.int .i64 (massL (rws l)), .bool true]) ∧ w = w' := by
  have hrl : (rws l).length = l.length := by simp [rws]
  have hbd : ∀ r ∈ rws l, Bnd 0 10000 r := fun r h k hk => by
    have h1 := (hr r h).b0 k
    have h2 := (hr r h).b1 k
    exact ⟨h1, h2⟩
  have hsum : ∀ k, k ≤ l.length → 0 ≤ massL ((rws l).take k) ∧ massL ((rws l).take k) ≤ 60000 * k := by
    intro k
    induction k with
    | zero => intro _; simp [massL]
    | succ k ih =>
      intro hk
      have i1 := ih (by omega)
      have hk2 : k < (rws l).length := by omega
      have hm : rowAt (rws l) k ∈ rws l := by simp only [rowAt, List.getElem?_eq_getElem hk2, Option.getD_some]; exact List.getElem_mem hk2
      have hs := sum_take_bnd (hbd _ hm) (rowAt (rws l) k).length (Nat.le_refl _)
      rw [List.take_length] at hs
      have := (hr _ hm).l6
      rw [massL_take hk2]
      omega
  have HZ := Lib.hid hz
  have HR := Lib.hid (And.intro hr (And.intro hbd (And.intro hsum hrl)))
  clear hz hr hbd hsum hrl
  go_enter Try.func38, Try.ntmps38
  go_wp2
  go_loopg [4, 5, 12] l.length (fun gg s4 s5 s12 wx => ∃ k : Nat, k + gg = l.length ∧ s4 = .int .i64 (massL ((rws l).take k)) ∧ s5 = .bool true ∧ s12 = .int .i64 k ∧ wx = w)
  case atStart => exact ⟨0, by omega, rfl, rfl, rfl, rfl⟩
  case round =>
    obtain ⟨k, hkg, rfl, rfl, rfl, rfl⟩ := hrel
    cases gk with
    | zero =>
      obtain rfl : k = l.length := by omega
      have he : massL ((rws l).take l.length) = massL (rws l) := by rw [List.take_of_length_le (by rw [HR.out.2.2.2]; exact Nat.le_refl _)]
      rw [he]
      clear he
      go_wp2
      go_ret2
      exact ⟨rfl, rfl⟩
    | succ gg =>
      have hk : k < l.length := by omega
      have hkz : (k : Int) < l.length := by omega
      have hk2 : k < (rws l).length := by rw [HR.out.2.2.2]; exact hk
      have hm : rowAt (rws l) k ∈ rws l := by simp only [rowAt, List.getElem?_eq_getElem hk2, Option.getD_some]; exact List.getElem_mem hk2
      have hb := HR.out.2.1 _ hm
      have hl6 := (HR.out.1 _ hm).l6
      have hs0 := HR.out.2.2.1 k (by omega)
      have hst := massL_take hk2
      have hel : rowAt (rws l) k = l[k].zs := by simp [rowAt, rws, hk]
      rw [hel] at hb hl6 hst
      obtain ⟨ab, off, hA, hcB, hc⟩ := HZ.out.va (by rw [slvs_len]; omega)
      subst hA
      have hy := hc k _ (slvs_at l k hk)
      have hin := HZ.out.each _ (List.getElem_mem hk)
      generalize l[k] = y at hy hin hb hl6 hst
      obtain ⟨yA, yc, ys⟩ := y
      unfold slv at hy
      simp only at hy hin hb hl6 hst
      generalize massL ((rws l).take k) = M at hs0 hst
      have HST := Lib.hid hst
      have HIN := Lib.hid (And.intro hin hb)
      obtain ⟨m0, m1⟩ := hs0
      have hM4 : M ≤ 300000 := by omega
      clear hc hst hin hb hel hm m1
      go_wp2
      go_loopg [4, 5, 18] ys.length (fun gh s4 s5 s18 wx => ∃ j : Nat, j + gh = ys.length ∧ s4 = .int .i64 (M + (ys.take j).sum) ∧ s5 = .bool true ∧ s18 = .int .i64 j ∧ wx = wr)
      case atStart => exact ⟨0, by omega, by simp, rfl, rfl, rfl⟩
      case round =>
        obtain ⟨j, hjg, rfl, rfl, rfl, rfl⟩ := hrel
        have hbj := sum_take_bnd HIN.out.2 j (by omega)
        cases gk with
        | zero =>
          obtain rfl : j = ys.length := by omega
          have he : M + (ys.take ys.length).sum = massL ((rws l).take (k + 1)) := by rw [HST.out, List.take_length]
          have HE := Lib.hid he
          clear he
          go_wp2
          go_roundg gg
          case measure => omega
          case rel => exact ⟨k + 1, by omega, by rw [HE.out], rfl, by go_num, rfl⟩
        | succ gh =>
          have hj : j < ys.length := by omega
          have hjz : (j : Int) < ys.length := by omega
          obtain ⟨sb, so, hsA, hsB, hcs⟩ := HIN.out.1 (by omega)
          subst hsA
          have hx := hcs j hj
          have hbx := HIN.out.2 j hj
          have hsj := sum_take_succ ys j hj
          generalize ys[j]?.getD 0 = x at hx hbx hsj
          generalize (ys.take j).sum = S at hbj hsj
          have HSJ := Lib.hid hsj
          obtain ⟨x0, x1⟩ := hbx
          have s0 : 0 ≤ S := by omega
          have s1 : S ≤ 60000 := by omega
          have hge : x ≥ 0 := x0
          clear hcs hsj hbj
          go_wp2
          go_roundg gh
          case measure => omega
          case rel => exact ⟨j + 1, by omega, by rw [HSJ.out, Int.add_assoc], rfl, by go_num, rfl⟩

end Go.Proofs.Ytfampdiompjmeaa
