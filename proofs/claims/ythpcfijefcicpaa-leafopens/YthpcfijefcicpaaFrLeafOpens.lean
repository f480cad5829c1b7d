/- LeafOpens answers true for every page: Open answers the node and the error that the document's own Open answers. -/
import Derived.Test.YthpcfijefcicpaaRows
import Derived.Test.YthpcfijefcicpaaBundleLeafOpens1
import Derived.Test.YthpcfijefcicpaaBundleLeafOpens2
import Derived.Test.YthpcfijefcicpaaBundleLeafOpens3
import Derived.Test.YthpcfijefcicpaaBundleLeafOpens4
import Derived.Test.YthpcfijefcicpaaBundleLeafOpens5
import Derived.Test.YthpcfijefcicpaaBundleLeafOpens6
import Derived.Test.YthpcfijefcicpaaBundleLeafOpens7
import Derived.Test.YthpcfijefcicpaaBundleLeafOpens8
import Derived.Test.YthpcfijefcicpaaBundleLeafOpens9
import Derived.Test.YthpcfijefcicpaaBundleLeafOpens10
import Derived.Test.YthpcfijefcicpaaBundleLeafOpens11
import Derived.Test.YthpcfijefcicpaaBundleLeafOpens12
import Derived.Test.YthpcfijefcicpaaBundleLeafOpens13
import Derived.Test.YthpcfijefcicpaaBundleLeafOpens14
import Derived.Test.YthpcfijefcicpaaBundleLeafOpens15
import Derived.WalkKit
import Derived.ProofKit
import Derived.OpenShut
import Derived.ShutString
import Derived.ChangeOld
import Derived.Below
namespace Go.Proofs.Ythpcfijefcicpaa.leafOpensF
open Go.ChangeShapes Go.WideShapes Go.ChangeAt Go.RowKit Go.Proofs.U
open Go.ChangeMaps (open_string shut_string)
set_option linter.unusedVariables false
theorem own : ownKnob Try.prog.godebug = none := by kernel_rfl
theorem laidOut : laidOutB Try.prog = true := by kernel_rfl
set_option maxRecDepth 100000 in
theorem lifted (os : Os) (started : os.Started) (H : Type) (enc : TypeId × Value → H) :
    ReturnsInHanded {} Try.checked os 4 .any (Rows.leafOpensSpec.pre6 enc Try.prog Try.f4 Rows.leafOpensRow.domain false) (Rows.leafOpensSpec.post enc Try.prog Try.f4 false true false false) := by
  refine returnsInHanded_of_change (C := Try.checked) own started (by kernel_rfl) Try.func4
    (ChangeSpec.witness6 (enc := enc) (C := Try.checked) false ⟨#[], #[(pgV (zerB 256))], []⟩ 8 (by kernel_rfl) (by kernel_rfl) (by kernel_rfl) (by kernel_rfl)) ?_
  intro W base args ds gs before hval0 hW hcnd _
  have hval : ∀ (j : Nat) t v, Try.f4.params[j]? = some t → args[j]? = some v → Value.okWide Try.prog W .any base t v := hval0
  have hW' := hW
  obtain ⟨p, q, hA0, hV, rfl, hfz, hnd⟩ := hW
  have hA : DataW.TrodAll enc Try.prog W 0 (fun _ => true) true Try.f4.params.toList args.toList ds p := hA0
  rw [Try.params4] at hA hval
  obtain ⟨v0, vs0, d0, ds0, p0, q0, hargs, rfl, rfl, h0, r0⟩ := trodAll_cons hA
  obtain ⟨rfl, rfl, rfl⟩ := trodAll_nil r0
  obtain rfl : args = #[v0] := by cases args; simp_all
  obtain ⟨rfl, rfl⟩ := trodVars_none hV
  have k0 := h0
  have lt0 : ∀ x ∈ p0, x.block < W.heap.size := by obtain ⟨m, hm⟩ := k0; exact DataW.trod_lt m _ _ _ hm
  obtain ⟨l0, w0⟩ := opened_page (hval 0 23 v0 rfl rfl) h0
  clear hA0 hval0
  refine (lopens_walk v0 l0 W w0).mono fun e W' ⟨he, bel⟩ => ?_
  subst he
  exact ⟨_, rfl, _, _, _, [], _, [], hW', trodAll_mk1 (shut_bool Try.underlying4 _), (trodAll_cons_mk (Below.trod laidOut (by kernel_rfl) (of_decide_eq_true (by kernel_rfl)) k0 bel lt0) trodAll_mk0), rfl, bel.frame _, fun h => by cases h⟩
theorem over : Rows.leafOpensRow.holds Try.pinned (OpenSpec.ofChange Rows.leafOpensSpec) :=
  OpenClaim.holds_of_wide 4 Try.f4 rfl rfl rfl rfl rfl rfl rfl ⟨rfl, rfl, rfl, rfl, rfl⟩ rfl rfl rfl rfl rfl (by kernel_rfl) Try.func4 (by kernel_rfl)
    (of_decide_eq_true (by kernel_rfl)) (by unfold Func.isWrapper; first | (rw [if_pos (by decide +kernel)]; kernel_rfl) | (rw [if_neg (by decide +kernel)]; exact ⟨rfl, rfl⟩))
    (fun os started H enc _ => lifted os started H enc)
end Go.Proofs.Ythpcfijefcicpaa.leafOpensF
namespace Go.Proofs.Ythpcfijefcicpaa
theorem leafOpens_proved : Rows.LeafOpensSaid := leafOpensF.over
end Go.Proofs.Ythpcfijefcicpaa
