/-
  When a core is reached: plain, and the map that tells it.
-/
import Derived.Maps.OwnIn
import Derived.Test.YtpnnlmaipcjkmaaGreatQR32
import Derived.Test.YtpnnlmaipcjkmaaGreatQR15
import Derived.Test.YtpnnlmaipcjkmaaGreatQR35
set_option linter.all false
namespace Go.Proofs.YtpnnlmaipcjkmaaGreat
open Go.RowKit Go.Shelf
open R6 (done done_ne done_me upd_ne upd_me)

attribute [local go_sem] gives

def coreOf (st : St) (p : Nat) : Int := atR (rowAt st.2 p) ((rowAt st.2 p).length - 1)
def hitB (W sp need : Int) (st : St) (p k : Nat) : Bool := decide (need ≤ coreOf (runS W sp st k) p)
def firstB (g : Nat → Bool) (K : Nat) : Option Nat := (List.range K).find? g
theorem firstB_succ (g : Nat → Bool) (K : Nat) : firstB g (K + 1) = (firstB g K).or (if g K = true then some K else none) := by
  unfold firstB
  rw [List.range_succ, List.find?_append]
  congr 1
  simp only [List.find?_cons, List.find?_nil]
  cases g K <;> rfl
theorem firstB_none {g : Nat → Bool} {K : Nat} : firstB g K = none ↔ ∀ j, j < K → g j = false := by
  simp [firstB, List.find?_eq_none]
theorem firstB_some {g : Nat → Bool} {K k : Nat} (h : firstB g K = some k) : k < K ∧ g k = true ∧ ∀ j, j < k → g j = false := by
  induction K with
  | zero => simp [firstB] at h
  | succ K ih =>
    rw [firstB_succ] at h
    cases hf : firstB g K with
    | some j =>
      rw [hf] at h
      change some j = some k at h
      injection h with h
      subst h
      obtain ⟨h1, h2, h3⟩ := ih hf
      exact ⟨by omega, h2, h3⟩
    | none =>
      rw [hf] at h
      change (if g K = true then some K else none) = some k at h
      split at h
      · rename_i hg
        simp only [Option.some.injEq] at h
        subst h
        exact ⟨by omega, hg, firstB_none.1 hf⟩
      · cases h
theorem firstB_eq {g : Nat → Bool} {K k : Nat} (h1 : k < K) (h2 : g k = true) (h3 : ∀ j, j < k → g j = false) : firstB g K = some k := by
  cases hf : firstB g K with
  | none => rw [firstB_none.1 hf k h1] at h2; cases h2
  | some j =>
    obtain ⟨a, b, c⟩ := firstB_some hf
    rcases Nat.lt_trichotomy j k with h | h | h
    · rw [h3 j h] at b; cases b
    · rw [h]
    · rw [c k h] at h2; cases h2
theorem firstB_stop {g : Nat → Bool} {m K : Nat} (hm : m < K) (h : ∀ j, m ≤ j → j < K → g j = g m) : firstB g K = firstB g (m + 1) := by
  cases hf : firstB g (m + 1) with
  | some k =>
    obtain ⟨a, b, c⟩ := firstB_some hf
    exact firstB_eq (by omega) b c
  | none =>
    have hn := firstB_none.1 hf
    refine firstB_none.2 fun j hj => ?_
    by_cases hjm : j < m + 1
    · exact hn j hjm
    · rw [h j (by omega) hj]; exact hn m (by omega)

def whenF (g : Nat → Nat → Bool) (k p : Nat) (q : Nat) : Option Nat := firstB (g q) (if q < p then k + 1 else k)
theorem whenF_step_has {g : Nat → Nat → Bool} {k p : Nat} (h : (whenF g k p p).isSome = true) : whenF g k (p + 1) = whenF g k p := by
  funext q
  unfold whenF at h ⊢
  by_cases e : q = p
  · subst e
    rw [if_neg (show ¬ q < q by omega)] at h ⊢
    rw [if_pos (show q < q + 1 by omega), firstB_succ]
    obtain ⟨j, hj⟩ := Option.isSome_iff_exists.1 h
    rw [hj]; rfl
  · by_cases h1 : q < p
    · rw [if_pos h1, if_pos (by omega)]
    · rw [if_neg h1, if_neg (by omega)]
theorem whenF_step_no {g : Nat → Nat → Bool} {k p : Nat} (h : g p k = false) : whenF g k (p + 1) = whenF g k p := by
  funext q
  unfold whenF
  by_cases e : q = p
  · subst e
    rw [if_neg (show ¬ q < q by omega), if_pos (by omega), firstB_succ, h]
    cases firstB (g q) k <;> rfl
  · by_cases h1 : q < p
    · rw [if_pos h1, if_pos (by omega)]
    · rw [if_neg h1, if_neg (by omega)]
theorem whenF_step_new {g : Nat → Nat → Bool} {k p : Nat} (h : whenF g k p p = none) (hg : g p k = true) : whenF g k (p + 1) = fun q => if q = p then some k else whenF g k p q := by
  funext q
  by_cases e : q = p
  · subst e
    rw [if_pos rfl]
    unfold whenF at h ⊢
    rw [if_neg (show ¬ q < q by omega)] at h
    rw [if_pos (show q < q + 1 by omega), firstB_succ, h, hg]
    rfl
  · rw [if_neg e]
    unfold whenF
    by_cases h1 : q < p
    · rw [if_pos h1, if_pos (by omega)]
    · rw [if_neg h1, if_neg (by omega)]
theorem whenF_next {g : Nat → Nat → Bool} {k n q : Nat} (hq : q < n) : whenF g k n q = whenF g (k + 1) 0 q := by
  unfold whenF
  rw [if_pos hq, if_neg (by omega)]

def cntFC (f : Nat → Option Nat) : Nat → Nat
  | 0 => 0
  | n + 1 => cntFC f n + if (f n).isSome = true then 1 else 0
theorem cntFC_le (f : Nat → Option Nat) : ∀ n, cntFC f n ≤ n
  | 0 => Nat.le_refl _
  | n + 1 => by have := cntFC_le f n; unfold cntFC; split <;> omega
theorem cntFC_congr {f f' : Nat → Option Nat} : ∀ n, (∀ q, q < n → f q = f' q) → cntFC f n = cntFC f' n
  | 0, _ => rfl
  | n + 1, h => by
    unfold cntFC
    rw [cntFC_congr n (fun q hq => h q (by omega)), h n (by omega)]
theorem cntFC_set {f : Nat → Option Nat} {p k : Nat} (hf : f p = none) : ∀ n, cntFC (fun q => if q = p then some k else f q) n = cntFC f n + if p < n then 1 else 0
  | 0 => by simp [cntFC]
  | n + 1 => by
    unfold cntFC
    rw [cntFC_set hf n]
    by_cases e : n = p
    · subst e
      simp [hf]
    · rw [if_neg e]
      by_cases h : p < n
      · rw [if_pos h, if_pos (show p < n + 1 by omega)]; omega
      · rw [if_neg h, if_neg (show ¬ p < n + 1 by omega)]; omega
theorem cntFC_all {f : Nat → Option Nat} : ∀ n, cntFC f n = n ↔ ∀ q, q < n → (f q).isSome = true
  | 0 => by simp [cntFC]
  | n + 1 => by
    have hl := cntFC_le f n
    unfold cntFC
    constructor
    · intro h q hq
      by_cases hn : (f n).isSome = true
      · rw [if_pos hn] at h
        by_cases e : q = n
        · rw [e]; exact hn
        · exact (cntFC_all n).1 (by omega) q (by omega)
      · rw [if_neg hn] at h; omega
    · intro h
      rw [if_pos (h n (by omega)), (cntFC_all n).2 (fun q hq => h q (by omega))]

structure MapIs (D : DataW Value) (n : Nat) (f : Nat → Option Nat) : Prop where
  has : ∀ x : Int, Maps.has D (.int .i64 x) = true ↔ ∃ p : Nat, x = p ∧ p < n ∧ (f p).isSome = true
  at_ : ∀ p k : Nat, p < n → f p = some k → ∀ z, D.atKey (.int .i64 p) z = .lit (.int .i64 k)
  size : Maps.size D = cntFC f n
theorem MapIs.congr {D : DataW Value} {n : Nat} {f f' : Nat → Option Nat} (h : MapIs D n f) (e : ∀ q, q < n → f q = f' q) : MapIs D n f' :=
  ⟨fun x => by
    rw [h.has x]
    exact ⟨fun ⟨p, a, b, c⟩ => ⟨p, a, b, by rw [← e p b]; exact c⟩, fun ⟨p, a, b, c⟩ => ⟨p, a, b, by rw [e p b]; exact c⟩⟩,
   fun p k hp hf => h.at_ p k hp (by rw [e p hp]; exact hf), by rw [h.size]; exact cntFC_congr n e⟩
theorem mapIs_nil (n : Nat) (f : Nat → Option Nat) (h : ∀ q, q < n → f q = none) : MapIs (.map []) n f := by
  refine ⟨fun x => ⟨fun h => by simp [Maps.has_eq] at h, fun ⟨p, _, hp, hs⟩ => (by rw [h p hp] at hs; cases hs)⟩, fun p k hp hf => (by rw [h p hp] at hf; cases hf), ?_⟩
  rw [cntFC_congr n (f' := fun _ => none) h, Maps.size_eq]
  clear h
  induction n with
  | zero => rfl
  | succ n ih => unfold cntFC; simpa using ih
theorem mapIs_put {D : DataW Value} {n p k : Nat} {f : Nat → Option Nat} (h : MapIs D n f) (ht : Maps.Tidy D) (hk : WideAt.IsKeyLit (.int .i64 (p : Int))) (hp : p < n) (hf : f p = none) :
    MapIs (D.put (.int .i64 (p : Int)) (.lit (.int .i64 (k : Int)))) n (fun q => if q = p then some k else f q) := by
  have hno : Maps.has D (.int .i64 (p : Int)) = false := by
    cases e : Maps.has D (.int .i64 (p : Int)) with
    | false => rfl
    | true =>
      obtain ⟨q, h1, h2, h3⟩ := (h.has _).1 e
      obtain rfl : q = p := by omega
      rw [hf] at h3; cases h3
  refine ⟨fun x => ?_, fun q j hq hj z => ?_, ?_⟩
  · by_cases e : x = p
    · subst e
      rw [Maps.has_put_same ht.isMap hk]
      exact ⟨fun _ => ⟨p, rfl, hp, by simp⟩, fun _ => rfl⟩
    · rw [Maps.has_put_other (fun e' => e (by injection e')), h.has x]
      constructor
      · rintro ⟨q, a, b, c⟩
        exact ⟨q, a, b, by rw [if_neg (by omega)]; exact c⟩
      · rintro ⟨q, a, b, c⟩
        exact ⟨q, a, b, by rw [if_neg (by omega)] at c; exact c⟩
  · by_cases e : q = p
    · subst e
      rw [if_pos rfl] at hj
      rw [Maps.atKey_put_same ht.isMap hk, Option.some.inj hj]
    · rw [if_neg e] at hj
      rw [Maps.atKey_put_other (fun e' => e (by injection e' with _ e2; omega))]
      exact h.at_ q j hq hj z
  · rw [Maps.size_put ht, hno, cntFC_set hf, if_pos hp, h.size]
    simp

set_option maxRecDepth 100000 in
set_option maxHeartbeats 4000000 in
theorem core_any (t : Bt) (A : Option Addr) (cap : Nat) (l : List Sl) (st : St) (p : Nat) (B : Nat) (w : World) (hB : B ≤ w.heap.size) (hz : Rows w B A l) (hg : GoodS t.water st) (hl : lens st.2 = lens (rws l)) (hp : p < l.length) :
    Calls Tryz.prog 159 #[.agg (bs t (.slice A l.length cap) st).toArray, .int .i64 p] w fun e w' => e = .returned (.int .i64 (coreOf st p)) ∧ Below w.heap.size w w' := by
  have hn : st.2.length = l.length := by have := lens_len hl; simpa [rws] using this
  have hp2 : p < st.2.length := by omega
  have hp4 : p < 4 := by have := hg.n4; omega
  have hrow : okRow (rowAt st.2 p) := hg.rows _ (by simp only [rowAt, List.getElem?_eq_getElem hp2, Option.getD_some]; exact List.getElem_mem hp2)
  have hel := lens_at hl p
  have hec : rowAt (rws l) p = l[p].zs := by simp [rowAt, rws, hp]
  rw [hec] at hel
  obtain ⟨n, hnl⟩ : ∃ n, (rowAt st.2 p).length = n + 1 := ⟨(rowAt st.2 p).length - 1, by have := hrow.l1; omega⟩
  have hn6 : n < 6 := by have := hrow.l6; omega
  have hco : coreOf st p = atR (rowAt st.2 p) n := by unfold coreOf; rw [hnl]; rfl
  rw [hco]
  obtain ⟨V, hV⟩ : ∃ V, V = (bs t (.slice A l.length cap) st).toArray := ⟨_, rfl⟩
  rw [← hV]
  have hV2 : V[2]? = some (.slice A l.length cap) := by rw [hV]; rfl
  have hVc : V[6 + p * 6 + n]? = some (.int .i64 (atR (rowAt st.2 p) n)) := by rw [hV, List.getElem?_toArray]; exact bv_at t _ st.1 st.2 p n hp4 hn6
  obtain ⟨ab, off, hA, hcB, hc⟩ := hz.va (by rw [slvs_len]; omega)
  subst hA
  have hy := hc p _ (slvs_at l p hp)
  generalize l[p] = y at hy hel
  obtain ⟨yA, yc, ys⟩ := y
  unfold slv at hy
  simp only at hy hel
  rw [← hel, hnl] at hy
  generalize atR (rowAt st.2 p) n = x at hVc ⊢
  obtain ⟨w1, hw1⟩ : ∃ w1, w.alloc (.cells V 152) = w1 := ⟨_, rfl⟩
  have hbw : Below w.heap.size w w1 := by rw [← hw1]; exact grow1 _ _
  have hb1 : w1.heap[w.heap.size]? = some (.cells V 152 (0, 0)) := by rw [← hw1]; exact alloc_at0 _ _
  have HH := Lib.hid (And.intro hbw (And.intro hb1 (And.intro hV2 (And.intro hVc (And.intro hy hcB)))))
  have hplz : (p : Int) < l.length := by omega
  have hp4z : (p : Int) < 4 := by omega
  have hp0 : (0 : Int) ≤ p := by omega
  have hn0 : (0 : Int) ≤ n := by omega
  have hn6z : (n : Int) < 6 := by omega
  have v0 : IntKind.i64.wrap (n : Int) = n := IntWalk.i64_in _ (by omega)
  have v1 : IntKind.i64.wrap ((n : Int) + 1 - 1) = n := by rw [Int.add_sub_cancel]; exact v0
  have hs1 : w1.heap.size = w.heap.size + 1 := by rw [← hw1]; simp
  have HS1 := Lib.hid hs1
  have hst : RdC w1 (fun _ => false) (fun _ => undef) w1.drew := ⟨(Below.refl _ _).drew, rfl⟩
  have HST := Lib.hid hst
  clear hV hV2 hVc hy hcB hc hel hnl hrow hec hco hbw hb1 hn hl hg hz hs1 hst
  go_enter Tryz.func159, Tryz.ntmps159
  go_wp2
  refine R6.wp_walk (C := RdC w1) 18 (by kernel_rfl) (by kernel_rfl) rfl ⟨HST.out.bel, HST.out.sz⟩ ?_
  simp only []
  repeat (first
    | (refine' R6.WalkR.det (fun _ => rfl) (fun D ρ W hK hC => ?_) ?_
       rotate_left
       · have hbb := (hC.bel.block w.heap.size (by have := HS1.out; omega)).trans HH.out.2.1
         have hcb := (cell_of_row W w.heap.size 2 _ _ _ hbb).trans HH.out.2.2.1
         have hcc := (cell_of_row W w.heap.size (6 + p * 6 + n) _ _ _ hbb).trans HH.out.2.2.2.1
         have hblk : W.heap[ab]? = w.heap[ab]? := (hC.bel.block ab (by have := HH.out.2.2.2.2.2; have := HS1.out; omega)).trans (HH.out.1.block ab (by have := HH.out.2.2.2.2.2; omega))
         have hca : W.cell? ⟨ab, off + p, none⟩ = _ := (World.cell?_of_block (w := w) hblk).trans HH.out.2.2.2.2.1
         clear hblk hbb
         have HC := Lib.hid hC
         clear hC hK
         go_simp
         first
           | with_reducible exact ⟨rfl, HC.out.move⟩
           | fail
       simp only [Act.put, List.setIfInBounds_toArray, List.set_cons_succ, List.set_cons_zero]))
  refine R6.WalkR.nil (fun D ρ W hD' hC => ?_)
  have HE := Lib.hid (HH.out.1.trans (hC.bel.mono HH.out.1.size))
  clear hC hD'
  go_wp2
  go_ret
  exact ⟨rfl, HE.out⟩

end Go.Proofs.YtpnnlmaipcjkmaaGreat
