/-
  The reference's look whether a grove is valid.
-/
import Derived.Test.YtkjdapgkojfbmaaRefD
import Derived.Test.YtkjdapgkojfbmaaGroves
namespace Go.Proofs.Ytkjdapgkojfbmaa
open Go.RowKit

/-- Seasons from some culms on are valid. -/
def seasOk (r : Nat) : List Int → List (Int × Int) → Bool
  | _, [] => true
  | l, p :: ss => inR p.1 0 30 && inR p.2 0 30 && yearOk r l p.1 p.2 && seasOk r (yearL l p.1 p.2) ss

/-- What stands after some seasons. -/
def runL (l : List Int) (ss : List (Int × Int)) : List Int := ss.foldl (fun l p => yearL l p.1 p.2) l

def okPre (g : Gr) : Bool := inR g.id 0 9999 && okHab g.hab && inR g.first 0 3000 && decide ((g.start.length : Int) = g.hab.dies + 1) && decide (g.seas.length ≤ 60) && decide (g.first + g.seas.length ≤ 3000)
def okStart (g : Gr) : Bool := g.start.all fun x => inR x 0 9
def okGrove (g : Gr) : Bool := okPre g && okStart g && seasOk g.hab.ripe.toNat g.start g.seas

theorem okHab_iff {h : Hab} : okHab h = true ↔ (0 ≤ h.lo ∧ h.lo ≤ 1000) ∧ (h.lo ≤ h.hi ∧ h.hi ≤ 1000) ∧ (1 ≤ h.dies ∧ h.dies ≤ 6) ∧ (0 ≤ h.bears ∧ h.bears ≤ h.dies) ∧ (1 ≤ h.ripe ∧ h.ripe ≤ h.dies) ∧ (0 ≤ h.keep ∧ h.keep ≤ 200) := by
  simp only [okHab, Bool.and_eq_true, inR_iff, and_assoc]

theorem okStart_at {g : Gr} (h : okStart g = true) : Bnd 0 9 g.start := fun k hk => by
  simp only [okStart, List.all_eq_true] at h
  have := h g.start[k] (List.getElem_mem hk)
  rw [inR_iff] at this
  simpa [hk] using this
theorem okStart_not {g : Gr} {k : Nat} (hk : k < g.start.length) (h : inR (g.start[k]?.getD 0) 0 9 = false) : okStart g = false := by
  simp only [okStart, List.all_eq_false]
  exact ⟨g.start[k], List.getElem_mem hk, by simpa [hk] using h⟩
theorem okStart_all {g : Gr} (h : ∀ k, k < g.start.length → inR (g.start[k]?.getD 0) 0 9 = true) : okStart g = true := by
  simp only [okStart, List.all_eq_true]
  intro x hx
  obtain ⟨k, hk, rfl⟩ := List.mem_iff_getElem.1 hx
  simpa [hk] using h k hk

theorem yearL_len (l : List Int) (s n : Int) : (yearL l s n).length = l.length := by unfold yearL; rw [(cutTo_len _ _ _ _).1, nowL_len]
theorem goneL_len (l : List Int) (s n : Int) : (goneL l s n).length = l.length := by unfold goneL; rw [(cutTo_len _ _ _ _).2, nowL_len]
theorem yearL_bnd {M s n : Int} {l : List Int} (h : Bnd 0 M l) (hl : 1 ≤ l.length) (hs : 0 ≤ s) (hM : s ≤ M) (hn : 0 ≤ n) (hn2 : n ≤ M) : Bnd 0 M (yearL l s n) :=
  (cutTo_bnd (nowL_bnd h hs hM) hn hn2 (l.length - 1) (by rw [nowL_len]; omega) l.length (by omega)).1

theorem seasOk_step {r : Nat} {l : List Int} {ss : List (Int × Int)} {i : Nat} (hi : i < ss.length) :
    seasOk r l (ss.drop i) = (inR (ss[i]?.getD (0, 0)).1 0 30 && inR (ss[i]?.getD (0, 0)).2 0 30 && yearOk r l (ss[i]?.getD (0, 0)).1 (ss[i]?.getD (0, 0)).2 && seasOk r (yearL l (ss[i]?.getD (0, 0)).1 (ss[i]?.getD (0, 0)).2) (ss.drop (i + 1))) := by
  rw [List.drop_eq_getElem_cons hi]
  simp [seasOk, hi]

end Go.Proofs.Ytkjdapgkojfbmaa
