import Derived.BigGuardPart
import Derived.Test.YtnjgibbfcigbfaaGreatQF32
import Derived.Test.YtnjgibbfcigbfaaGreatQF27
set_option linter.all false
namespace Go.Proofs.YtnjgibbfcigbfaaGreat
open Go.RowKit Go.BigFrame
open R6 (done zAg zAj upd_ne upd_me)
attribute [local go_sem] gives
theorem zTr (f : Pol → Int × Int) : ∀ (l : List Pol) (s : Int × Int), s.1 ≤ (l.foldl (fun s q => cut1 s (f q)) s).1 ∧ (l.foldl (fun s q => cut1 s (f q)) s).2 ≤ s.2
 | [], _ => ⟨Int.le_refl _, Int.le_refl _⟩
 | q :: l, s => by
   have := zTr f l (cut1 s (f q)); rw [List.foldl_cons]; have e : (cut1 s (f q)).1 = max s.1 (f q).1 ∧ (cut1 s (f q)).2 = min s.2 (f q).2 := ⟨rfl, rfl⟩; rw [e.1, e.2] at this; omega
theorem zOo {gs : List Gd} {p : Pol} (h : 1 ≤ gOf gs p) : gAt gs p ∈ gs := by
 have hl := zRk gs p
 have : gOf gs p - 1 < gs.length := by omega
 simp [gAt, this]
theorem zIf {p : Pol} (h : okPol p = true) : okSecs p = true := by
 simp only [okPol, Bool.and_eq_true] at h; exact h.2.2.2.1
theorem zJn {p : Pol} (h : okPol p = true) : yrs p := by
 simp only [okPol, Bool.and_eq_true, inR_iff, decide_eq_true_eq] at h; exact ⟨h.2.1.1, h.2.1.2⟩
theorem zQj {gs : List Gd} {ts : List Ts} {k : Nat} {p : Pol} (hk : k < 3) (h : okPol p = true) (hg1 : 1 ≤ gOf gs p) (ht : ∀ t ∈ ts, okT t) (hok : ∀ g ∈ gs, okG2 g) : (1 ≤ (ownP gs ts k p).1 ∧ (ownP gs ts k p).1 ≤ 1000000000) ∧ (0 ≤ (ownP gs ts k p).2 ∧ (ownP gs ts k p).2 ≤ 200000) :=
 zMg (zIf h) ht (hok _ (zOo hg1) k hk).1 (hok _ (zOo hg1) k hk).2
end Go.Proofs.YtnjgibbfcigbfaaGreat
