/-
  The program's years of a book, as lists of ints.
-/
import Derived.Test.YtkjdapgkojfbmaaModel
import Derived.Test.YtkjdapgkojfbmaaLeafG
namespace Go.Proofs.Ytkjdapgkojfbmaa

theorem Bnd.iff_mem {lo hi : Int} {c : List Int} : Bnd lo hi c ↔ ∀ x ∈ c, lo ≤ x ∧ x ≤ hi := by
  constructor
  · intro h x hx
    obtain ⟨k, hk, rfl⟩ := List.mem_iff_getElem.1 hx
    simpa [hk] using h k hk
  · intro h k hk
    simpa [hk] using h c[k] (List.getElem_mem hk)

theorem laterP_bnd {d : Nat} {c : List Int} {s M : Int} (hb : Bnd 0 M c) (h0 : 0 ≤ s) (hs : s ≤ M) : Bnd 0 M (laterP d c s) := by
  rw [Bnd.iff_mem] at hb ⊢
  intro x hx
  simp only [laterP, List.mem_cons, List.mem_append, List.mem_replicate] at hx
  rcases hx with rfl | hx | ⟨_, rfl⟩
  · exact ⟨h0, hs⟩
  · exact hb x (List.mem_of_mem_take hx)
  · exact ⟨Int.le_refl _, by omega⟩

def stepP (d r : Nat) (c : List Int) (p : Int × Int) : List Int := (cutTo (laterP d c p.1) p.2 d (d - r + 1)).1
def goneP (d r : Nat) (c : List Int) (p : Int × Int) : List Int := (cutTo (laterP d c p.1) p.2 d (d - r + 1)).2.1
def ripeP (d r : Nat) (c : List Int) (p : Int × Int) : Int := ((laterP d c p.1).drop r).sum
def stateP (d r : Nat) (c : List Int) (ss : List (Int × Int)) (k : Nat) : List Int := (ss.take k).foldl (stepP d r) c

theorem stateP_succ {d r : Nat} {c : List Int} {ss : List (Int × Int)} {k : Nat} (hk : k < ss.length) : stateP d r c ss (k + 1) = stepP d r (stateP d r c ss k) (ss[k]?.getD (0, 0)) := by
  unfold stateP
  rw [List.take_succ_eq_append_getElem hk, List.foldl_append]
  simp only [List.foldl_cons, List.foldl_nil, List.getElem?_eq_getElem hk, Option.getD_some]

theorem stepP_len {d r : Nat} {c : List Int} {p : Int × Int} (hd : d ≤ 6) (hc : c.length = 7) : (stepP d r c p).length = 7 ∧ (goneP d r c p).length = 7 := by
  have h := cutTo_len (laterP d c p.1) p.2 d (d - r + 1)
  rw [laterP_len _ hd hc] at h
  exact h

theorem stateP_len {d r : Nat} {c : List Int} {ss : List (Int × Int)} (hd : d ≤ 6) (hc : c.length = 7) : ∀ k, k ≤ ss.length → (stateP d r c ss k).length = 7 := by
  intro k
  induction k with
  | zero => intro _; simpa [stateP] using hc
  | succ k ih => intro h; rw [stateP_succ (by omega)]; exact (stepP_len hd (ih (by omega))).1

theorem seasR_at {ss : List (Int × Int)} (h : seasR ss = true) {k : Nat} (hk : k < ss.length) : (0 ≤ (ss[k]?.getD (0, 0)).1 ∧ (ss[k]?.getD (0, 0)).1 ≤ 30) ∧ (0 ≤ (ss[k]?.getD (0, 0)).2 ∧ (ss[k]?.getD (0, 0)).2 ≤ 30) := by
  simp only [seasR, List.all_eq_true] at h
  have := h ss[k] (List.getElem_mem hk)
  simp only [hk, List.getElem?_eq_getElem, Option.getD_some]
  simp only [Bool.and_eq_true, inR_iff] at this
  exact this

theorem stepP_bnd {d r : Nat} {c : List Int} {p : Int × Int} (hr1 : 1 ≤ r) (hrd : r ≤ d) (hd : d ≤ 6) (hc : c.length = 7) (hb : Bnd 0 30 c) (h1 : 0 ≤ p.1 ∧ p.1 ≤ 30) (h2 : 0 ≤ p.2 ∧ p.2 ≤ 30) :
    Bnd 0 30 (stepP d r c p) ∧ Bnd 0 30 (goneP d r c p) := by
  have := cutTo_bnd (laterP_bnd (d := d) hb h1.1 h1.2) h2.1 h2.2 d (by rw [laterP_len _ hd hc]; omega) (d - r + 1) (by omega)
  exact ⟨this.1, this.2.1⟩

theorem stateP_bnd {d r : Nat} {c : List Int} {ss : List (Int × Int)} (hr1 : 1 ≤ r) (hrd : r ≤ d) (hd : d ≤ 6) (hc : c.length = 7) (hb : Bnd 0 30 c) (hs : seasR ss = true) : ∀ k, k ≤ ss.length → Bnd 0 30 (stateP d r c ss k) := by
  intro k
  induction k with
  | zero => intro _; simpa [stateP] using hb
  | succ k ih =>
    intro h
    rw [stateP_succ (by omega)]
    have := seasR_at hs (show k < ss.length by omega)
    exact (stepP_bnd hr1 hrd hd (stateP_len hd hc k (by omega)) (ih (by omega)) this.1 this.2).1

/-- A record's cells. -/
def recC (p : Int × Int) (ripe : Int) (gone left : List Int) : List Value := .int .i64 p.1 :: .int .i64 p.2 :: .int .i64 ripe :: (ints gone ++ ints left)
def recV (p : Int × Int) (ripe : Int) (gone left : List Int) : Value := .agg (recC p ripe gone left).toArray
def zero7 : List Int := [0, 0, 0, 0, 0, 0, 0]
def start7 (g : Gr) : List Int := g.start ++ List.replicate (7 - g.start.length) 0

/-- The record that comes as the k-th one. -/
def recK (g : Gr) (d r k : Nat) : Value :=
  match k with
  | 0 => recV (0, 0) 0 zero7 (start7 g)
  | k + 1 =>
    let s := g.seas[k]?.getD (0, 0)
    let c := stateP d r (start7 g) g.seas k
    recV s (ripeP d r c s) (goneP d r c s) (stateP d r (start7 g) g.seas (k + 1))
def rowP (g : Gr) (d r k : Nat) : Array Value := #[.int .i64 (g.first + k), recK g d r k]
def rowsP (g : Gr) (d r : Nat) : List (Array Value) := (List.range (g.seas.length + 1)).map (rowP g d r)
theorem rowsP_at {g : Gr} {d r k : Nat} (hk : k ≤ g.seas.length) : (rowsP g d r)[k]? = some (rowP g d r k) := by
  simp [rowsP, show k < g.seas.length + 1 by omega]
theorem rowsP_len (g : Gr) (d r : Nat) : (rowsP g d r).length = g.seas.length + 1 := by simp [rowsP]

/-- What a grove's numbers must be like for its book to be gone through. -/
structure Fine (g : Gr) (d r : Nat) : Prop where
  hd : g.hab.dies = d
  hr : g.hab.ripe = r
  r1 : 1 ≤ r
  rd : r ≤ d
  d6 : d ≤ 6
  st : g.start.length = d + 1
  sb : Bnd 0 9 g.start
  se : seasR g.seas = true
  sl : g.seas.length ≤ 60
  f0 : 0 ≤ g.first
  f1 : g.first ≤ 3000

theorem start7_len {g : Gr} (h : g.start.length ≤ 7) : (start7 g).length = 7 := by simp [start7]; omega
theorem start7_bnd {g : Gr} (h : Bnd 0 9 g.start) : Bnd 0 30 (start7 g) := by
  rw [Bnd.iff_mem] at h ⊢
  intro x hx
  simp only [start7, List.mem_append, List.mem_replicate] at hx
  rcases hx with hx | ⟨_, rfl⟩
  · have := h x hx; omega
  · omega

end Go.Proofs.Ytkjdapgkojfbmaa
