/-
 For every sheet, every grading, all soaks and both numbers that come in, the law GradeFit returns true, and each argument reads afterwards as it read before.
 Conditions: none beyond the row's own.
-/
import Derived.Test.YtnjgibbfcigbfaaGreatRows
import Derived.Test.YtnjgibbfcigbfaaGreatQF53
import Derived.Test.YtnjgibbfcigbfaaGreatQF4
set_option linter.all false
set_option maxRecDepth 100000
set_option maxHeartbeats 64000000
namespace Go.Proofs.YtnjgibbfcigbfaaGreat
open Go.ChangeShapes Go.WideShapes Go.ChangeAt Go.RowKit Go.Deep
theorem gradeFit_lifted (os : Os) (started : os.Started) (H : Type) (enc : TypeId × Value → H) :
 ReturnsInHanded {} Tryz.checked os 10 .any (Rows.gradeFitSpec.pre6 enc Tryz.prog Tryz.f10 Rows.gradeFitRow.domain false) (Rows.gradeFitSpec.post enc Tryz.prog Tryz.f10 false true false false) := by
 refine returnsInHanded_of_change (C := Tryz.checked) Tryz.own5 started (by kernel_rfl) Tryz.func10
  (ChangeSpec.witness6 (enc := enc) (C := Tryz.checked) false ⟨#[], #[.agg #[.slice none 0 0, .slice none 0 0], .agg #[.slice none 0 0, .int .i64 0], .slice none 0 0, .int .u8 0, .int .u8 0], []⟩ 8 (by kernel_rfl) (by kernel_rfl) (by kernel_rfl) (by kernel_rfl)) ?_
 intro W base args ds gs before hval0 hW hcnd _; have hval : ∀ (j : Nat) t v, Tryz.f10.params[j]? = some t → args[j]? = some v → Value.okWide Tryz.prog W .any base t v := hval0; have hW' := hW; obtain ⟨p, q, hA0, hV, rfl, hfz, hnd⟩ := hW; have hA : DataW.TrodAll enc Tryz.prog W 0 (fun _ => true) true Tryz.f10.params.toList args.toList ds p := hA0
 rw [Tryz.params10] at hA hval; obtain ⟨v0, v1, v2, v3, v4, d0, d1, d2, d3, d4, p0, p1, p2, p3, p4, rfl, rfl, rfl, h0, h1, h2, h3, h4⟩ := zLi hA; obtain ⟨rfl, rfl⟩ := trodVars_none hV; obtain ⟨AP, ps, cp, AT, ts, ct, rfl, lps, lts, hct, z1, z2⟩ := zPm (hval 0 25 v0 rfl rfl) h0; obtain ⟨AG, gs, cg, vary, rfl, lgs, z3⟩ := zLh (hval 1 28 v1 rfl rfl) h1; obtain ⟨AL, l, cl, rfl, ll, z4⟩ := zP9 (hval 2 30 v2 rfl rfl) h2; obtain ⟨x, rfl, rfl, rfl, wx⟩ := open_int Tryz.underlying5 (hval 3 5 v3 rfl rfl) h3; obtain ⟨y, rfl, rfl, rfl, wy⟩ := open_int Tryz.underlying5 (hval 4 5 v4 rfl rfl) h4; have rx := wx; simp [Lit.wf, IntKind.min, IntKind.max, IntKind.signed, IntKind.bits] at rx
 have ry := wy; simp [Lit.wf, IntKind.min, IntKind.max, IntKind.signed, IntKind.bits] at ry
 clear hA0 hval0; simp only [List.append_nil] at hW'; have hlt0 : ∀ x ∈ p0, x.block < W.heap.size := fun x hx => hW'.lt x (by simp [hx])
 have hlt1 : ∀ x ∈ p1, x.block < W.heap.size := fun x hx => hW'.lt x (by simp [hx])
 have hlt2 : ∀ x ∈ p2, x.block < W.heap.size := fun x hx => hW'.lt x (by simp [hx])
 refine (zLs ps ts gs vary l x y AP cp AT ct AG cg AL cl W.heap.size W (Nat.le_refl _) z1 z2 z3 z4 ll (by omega) (by omega)).mono fun e W' ⟨he, hB⟩ => ?_
 subst he; refine ⟨_, rfl, _, _, _, [], p0 ++ (p1 ++ (p2 ++ ([] ++ ([])))), [], hW', ?_, ?_, rfl, hB.frame _, fun h => by cases h⟩
 · exact trodAll_mk1 (shut_bool Tryz.underlying4 true)
 · exact zM0 (Below.trod Tryz.laidOut5 (by kernel_rfl) (of_decide_eq_true (by kernel_rfl)) h0 hB hlt0) (Below.trod Tryz.laidOut5 (by kernel_rfl) (of_decide_eq_true (by kernel_rfl)) h1 hB hlt1) (Below.trod Tryz.laidOut5 (by kernel_rfl) (of_decide_eq_true (by kernel_rfl)) h2 hB hlt2) (shut_int Tryz.underlying5 wx) (shut_int Tryz.underlying5 wy)
theorem gradeFit : Rows.GradeFitSaid :=
 OpenClaim.holds_of_wide 10 Tryz.f10 rfl rfl rfl rfl rfl rfl rfl ⟨rfl, rfl, rfl, rfl, rfl⟩ rfl rfl rfl rfl rfl (by kernel_rfl) Tryz.func10 (by kernel_rfl)
  (of_decide_eq_true (by kernel_rfl)) (by unfold Func.isWrapper; rw [if_neg (by decide +kernel)]; exact ⟨rfl, rfl⟩)
  (fun os started H enc _ => gradeFit_lifted os started H enc)
end Go.Proofs.YtnjgibbfcigbfaaGreat
