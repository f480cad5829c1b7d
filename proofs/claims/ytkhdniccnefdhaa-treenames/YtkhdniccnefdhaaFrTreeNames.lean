/- The law TreeNames of layer 10 answers true, whatever is left behind in memory; there is no condition. -/
import Derived.Test.YtkhdniccnefdhaaRows
import Derived.Test.YtkhdniccnefdhaaBundleTreeNames1
import Derived.Test.YtkhdniccnefdhaaBundleTreeNames2
import Derived.Test.YtkhdniccnefdhaaBundleTreeNames3
import Derived.Test.YtkhdniccnefdhaaBundleTreeNames4
import Derived.Test.YtkhdniccnefdhaaBundleTreeNames5
import Derived.Test.YtkhdniccnefdhaaBundleTreeNames6
import Derived.Test.YtkhdniccnefdhaaBundleTreeNames7
import Derived.Test.YtkhdniccnefdhaaBundleTreeNames8
import Derived.Test.YtkhdniccnefdhaaBundleTreeNames9
import Derived.Test.YtkhdniccnefdhaaBundleTreeNames10
import Derived.Test.YtkhdniccnefdhaaBundleTreeNames11
import Derived.Test.YtkhdniccnefdhaaBundleTreeNames12
import Derived.Test.YtkhdniccnefdhaaBundleTreeNames13
import Derived.Test.YtkhdniccnefdhaaBundleTreeNames14
import Derived.Test.YtkhdniccnefdhaaBundleTreeNames15
import Derived.Test.YtkhdniccnefdhaaBundleTreeNames16
import Derived.Test.YtkhdniccnefdhaaBundleTreeNames17
import Derived.Test.YtkhdniccnefdhaaBundleTreeNames18
import Derived.WalkKit
import Derived.ProofKit
import Derived.OpenShut
import Derived.ShutString
import Derived.ChangeOld
import Derived.Below
namespace Go.Proofs.Ytkhdniccnefdhaa.treeNamesF
open Go.ChangeShapes Go.WideShapes Go.ChangeAt Go.RowKit Go.Proofs.U
open Go.ChangeMaps (open_string shut_string)
set_option linter.unusedVariables false
theorem own : ownKnob Try.prog.godebug = none := by kernel_rfl
theorem laidOut : laidOutB Try.prog = true := by kernel_rfl
set_option maxRecDepth 100000 in
theorem lifted (os : Os) (started : os.Started) (H : Type) (enc : TypeId × Value → H) :
    ReturnsInHanded {} Try.checked os 3 .any (Rows.treeNamesSpec.pre6 enc Try.prog Try.f3 Rows.treeNamesRow.domain false) (Rows.treeNamesSpec.post enc Try.prog Try.f3 false true false false) := by
  refine returnsInHanded_of_change (C := Try.checked) own started (by kernel_rfl) Try.func3
    (ChangeSpec.witness6 (enc := enc) (C := Try.checked) false ⟨#[], #[], []⟩ 8 (by kernel_rfl) (by kernel_rfl) (by kernel_rfl) (by kernel_rfl)) ?_
  intro W base args ds gs before hval0 hW hcnd _
  have hval : ∀ (j : Nat) t v, Try.f3.params[j]? = some t → args[j]? = some v → Value.okWide Try.prog W .any base t v := hval0
  have hW' := hW
  obtain ⟨p, q, hA0, hV, rfl, hfz, hnd⟩ := hW
  have hA : DataW.TrodAll enc Try.prog W 0 (fun _ => true) true Try.f3.params.toList args.toList ds p := hA0
  rw [Try.params3] at hA hval
  obtain ⟨hargs, rfl, rfl⟩ := trodAll_none hA
  obtain rfl : args = #[] := by cases args; simp_all
  obtain ⟨rfl, rfl⟩ := trodVars_none hV
  clear hA0 hval0
  refine (tnames10_walk W).mono fun e W' ⟨he, bel⟩ => ?_
  subst he
  exact ⟨_, rfl, _, _, _, [], _, [], hW', trodAll_mk1 (shut_bool Try.underlying4 _), trodAll_mk0, rfl, bel.frame _, fun h => by cases h⟩
theorem over : Rows.treeNamesRow.holds Try.pinned (OpenSpec.ofChange Rows.treeNamesSpec) :=
  OpenClaim.holds_of_wide 3 Try.f3 rfl rfl rfl rfl rfl rfl rfl ⟨rfl, rfl, rfl, rfl, rfl⟩ rfl rfl rfl rfl rfl (by kernel_rfl) Try.func3 (by kernel_rfl)
    (of_decide_eq_true (by kernel_rfl)) (by unfold Func.isWrapper; first | (rw [if_pos (by decide +kernel)]; kernel_rfl) | (rw [if_neg (by decide +kernel)]; exact ⟨rfl, rfl⟩))
    (fun os started H enc _ => lifted os started H enc)
end Go.Proofs.Ytkhdniccnefdhaa.treeNamesF
namespace Go.Proofs.Ytkhdniccnefdhaa
theorem treeNames_proved : Rows.TreeNamesSaid := treeNamesF.over
end Go.Proofs.Ytkhdniccnefdhaa
