/- Keys that there are not, nothing in an empty tree, and the last key: PruneNames answers true, and nothing outside what it makes changes. -/
import Derived.Test.YtmkinaijkgkgiaaRows
import Derived.Test.YtmkinaijkgkgiaaBundlePruneNames1
import Derived.Test.YtmkinaijkgkgiaaBundlePruneNames2
import Derived.Test.YtmkinaijkgkgiaaBundlePruneNames3
import Derived.Test.YtmkinaijkgkgiaaBundlePruneNames4
import Derived.Test.YtmkinaijkgkgiaaBundlePruneNames5
import Derived.Test.YtmkinaijkgkgiaaBundlePruneNames6
import Derived.Test.YtmkinaijkgkgiaaBundlePruneNames7
import Derived.Test.YtmkinaijkgkgiaaBundlePruneNames8
import Derived.Test.YtmkinaijkgkgiaaBundlePruneNames9
import Derived.Test.YtmkinaijkgkgiaaBundlePruneNames10
import Derived.Test.YtmkinaijkgkgiaaBundlePruneNames11
import Derived.Test.YtmkinaijkgkgiaaBundlePruneNames12
import Derived.Test.YtmkinaijkgkgiaaBundlePruneNames13
import Derived.Test.YtmkinaijkgkgiaaBundlePruneNames14
import Derived.Test.YtmkinaijkgkgiaaBundlePruneNames15
import Derived.Test.YtmkinaijkgkgiaaBundlePruneNames16
import Derived.Test.YtmkinaijkgkgiaaBundlePruneNames17
import Derived.Test.YtmkinaijkgkgiaaBundlePruneNames18
import Derived.Test.YtmkinaijkgkgiaaBundlePruneNames19
import Derived.Test.YtmkinaijkgkgiaaBundlePruneNames20
import Derived.Test.YtmkinaijkgkgiaaBundlePruneNames21
import Derived.Test.YtmkinaijkgkgiaaBundlePruneNames22
import Derived.Test.YtmkinaijkgkgiaaBundlePruneNames23
import Derived.Test.YtmkinaijkgkgiaaBundlePruneNames24
import Derived.Test.YtmkinaijkgkgiaaBundlePruneNames25
import Derived.Test.YtmkinaijkgkgiaaBundlePruneNames26
import Derived.Test.YtmkinaijkgkgiaaBundlePruneNames27
import Derived.Test.YtmkinaijkgkgiaaBundlePruneNames28
import Derived.Test.YtmkinaijkgkgiaaBundlePruneNames29
import Derived.WalkKit
import Derived.ProofKit
import Derived.OpenShut
import Derived.ShutString
import Derived.ChangeOld
import Derived.Below
namespace Go.Proofs.Ytmkinaijkgkgiaa.pruneNamesF
open Go.ChangeShapes Go.WideShapes Go.ChangeAt Go.RowKit Go.Proofs.U
open Go.ChangeMaps (open_string shut_string)
set_option linter.unusedVariables false
theorem own : ownKnob Try.prog.godebug = none := by kernel_rfl
theorem laidOut : laidOutB Try.prog = true := by kernel_rfl
set_option maxRecDepth 100000 in
theorem lifted (os : Os) (started : os.Started) (H : Type) (enc : TypeId × Value → H) :
    ReturnsInHanded {} Try.checked os 3 .any (Rows.pruneNamesSpec.pre6 enc Try.prog Try.f3 Rows.pruneNamesRow.domain false) (Rows.pruneNamesSpec.post enc Try.prog Try.f3 false true false false) := by
  refine returnsInHanded_of_change (C := Try.checked) own started (by kernel_rfl) Try.func3
    (ChangeSpec.witness6 (enc := enc) (C := Try.checked) false ⟨#[], #[], []⟩ 8 (by kernel_rfl) (by kernel_rfl) (by kernel_rfl) (by kernel_rfl)) ?_
  intro W base args ds gs before hval0 hW hcnd _
  have hval : ∀ (j : Nat) t v, Try.f3.params[j]? = some t → args[j]? = some v → Value.okWide Try.prog W .any base t v := hval0
  have hW' := hW
  obtain ⟨p, q, hA0, hV, rfl, hfz, hnd⟩ := hW
  have hA : DataW.TrodAll enc Try.prog W 0 (fun _ => true) true Try.f3.params.toList args.toList ds p := hA0
  rw [Try.params3] at hA hval
  obtain ⟨hargs, rfl, rfl⟩ := trodAll_none hA
  obtain rfl : args = #[] := by cases args; simp_all
  obtain ⟨rfl, rfl⟩ := trodVars_none hV
  clear hA0 hval0
  refine (pnames_walk W).mono fun e W' ⟨he, bel⟩ => ?_
  subst he
  exact ⟨_, rfl, _, _, _, [], _, [], hW', trodAll_mk1 (shut_bool Try.underlying4 _), trodAll_mk0, rfl, bel.frame _, fun h => by cases h⟩
theorem over : Rows.pruneNamesRow.holds Try.pinned (OpenSpec.ofChange Rows.pruneNamesSpec) :=
  OpenClaim.holds_of_wide 3 Try.f3 rfl rfl rfl rfl rfl rfl rfl ⟨rfl, rfl, rfl, rfl, rfl⟩ rfl rfl rfl rfl rfl (by kernel_rfl) Try.func3 (by kernel_rfl)
    (of_decide_eq_true (by kernel_rfl)) (by unfold Func.isWrapper; first | (rw [if_pos (by decide +kernel)]; kernel_rfl) | (rw [if_neg (by decide +kernel)]; exact ⟨rfl, rfl⟩))
    (fun os started H enc _ => lifted os started H enc)
end Go.Proofs.Ytmkinaijkgkgiaa.pruneNamesF
namespace Go.Proofs.Ytmkinaijkgkgiaa
theorem pruneNames_proved : Rows.PruneNamesSaid := pruneNamesF.over
end Go.Proofs.Ytmkinaijkgkgiaa
