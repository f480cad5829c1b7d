/- TreeRoom holds at every input: on a disk of whatever size, whatever keys are put one behind the other, what fails leaves behind, once it is undone, the same entries and as many free pages as before, and it fails only for a key that there isn't or where pages or counts are short. No condition. -/
import Derived.Test.YtkhdniccnefdhaaRows
import Derived.Test.YtkhdniccnefdhaaBundleTreeRoom1
import Derived.Test.YtkhdniccnefdhaaBundleTreeRoom2
import Derived.Test.YtkhdniccnefdhaaBundleTreeRoom3
import Derived.Test.YtkhdniccnefdhaaBundleTreeRoom4
import Derived.Test.YtkhdniccnefdhaaBundleTreeRoom5
import Derived.Test.YtkhdniccnefdhaaBundleTreeRoom6
import Derived.Test.YtkhdniccnefdhaaBundleTreeRoom7
import Derived.Test.YtkhdniccnefdhaaBundleTreeRoom8
import Derived.Test.YtkhdniccnefdhaaBundleTreeRoom9
import Derived.Test.YtkhdniccnefdhaaBundleTreeRoom10
import Derived.Test.YtkhdniccnefdhaaBundleTreeRoom11
import Derived.Test.YtkhdniccnefdhaaBundleTreeRoom12
import Derived.Test.YtkhdniccnefdhaaBundleTreeRoom13
import Derived.Test.YtkhdniccnefdhaaBundleTreeRoom14
import Derived.Test.YtkhdniccnefdhaaBundleTreeRoom15
import Derived.Test.YtkhdniccnefdhaaBundleTreeRoom16
import Derived.Test.YtkhdniccnefdhaaBundleTreeRoom17
import Derived.Test.YtkhdniccnefdhaaBundleTreeRoom18
import Derived.Test.YtkhdniccnefdhaaBundleTreeRoom19
import Derived.Test.YtkhdniccnefdhaaBundleTreeRoom20
import Derived.Test.YtkhdniccnefdhaaBundleTreeRoom21
import Derived.WalkKit
import Derived.ProofKit
import Derived.OpenShut
import Derived.ShutString
import Derived.ChangeOld
import Derived.Below
namespace Go.Proofs.Ytkhdniccnefdhaa.treeRoomF
open Go.ChangeShapes Go.WideShapes Go.ChangeAt Go.RowKit Go.Proofs.U
open Go.ChangeMaps (open_string shut_string)
set_option linter.unusedVariables false
theorem own : ownKnob Try.prog.godebug = none := by kernel_rfl
theorem laidOut : laidOutB Try.prog = true := by kernel_rfl
set_option maxRecDepth 100000 in
theorem lifted (os : Os) (started : os.Started) (H : Type) (enc : TypeId × Value → H) :
    ReturnsInHanded {} Try.checked os 4 .any (Rows.treeRoomSpec.pre6 enc Try.prog Try.f4 Rows.treeRoomRow.domain false) (Rows.treeRoomSpec.post enc Try.prog Try.f4 false true false false) := by
  refine returnsInHanded_of_change (C := Try.checked) own started (by kernel_rfl) Try.func4
    (ChangeSpec.witness6 (enc := enc) (C := Try.checked) false ⟨#[], #[.int .i64 0, .slice none 0 0], []⟩ 8 (by kernel_rfl) (by kernel_rfl) (by kernel_rfl) (by kernel_rfl)) ?_
  intro W base args ds gs before hval0 hW hcnd _
  have hval : ∀ (j : Nat) t v, Try.f4.params[j]? = some t → args[j]? = some v → Value.okWide Try.prog W .any base t v := hval0
  have hW' := hW
  obtain ⟨p, q, hA0, hV, rfl, hfz, hnd⟩ := hW
  have hA : DataW.TrodAll enc Try.prog W 0 (fun _ => true) true Try.f4.params.toList args.toList ds p := hA0
  rw [Try.params4] at hA hval
  obtain ⟨v0, vs0, d0, ds0, p0, q0, hargs, rfl, rfl, h0, r0⟩ := trodAll_cons hA
  obtain ⟨v1, vs1, d1, ds1, p1, q1, rfl, rfl, rfl, h1, r1⟩ := trodAll_cons r0
  obtain ⟨rfl, rfl, rfl⟩ := trodAll_nil r1
  obtain rfl : args = #[v0, v1] := by cases args; simp_all
  obtain ⟨rfl, rfl⟩ := trodVars_none hV
  obtain ⟨a0, rfl, rfl, rfl, w0⟩ := open_int Try.underlying3 (hval 0 3 v0 rfl rfl) h0
  have k1 := h1
  have lt1 : ∀ x ∈ p1, x.block < W.heap.size := by obtain ⟨m, hm⟩ := k1; exact DataW.trod_lt m _ _ _ hm
  obtain ⟨l1, w1⟩ := slI_of_trod Try.underlying36 Try.underlying3 (by kernel_rfl) (hval 1 36 v1 rfl rfl) h1
  clear hA0 hval0
  refine (troom_walk a0 v1 l1 W w0 w1).mono fun e W' ⟨he, bel⟩ => ?_
  subst he
  exact ⟨_, rfl, _, _, _, [], _, [], hW', trodAll_mk1 (shut_bool Try.underlying4 _), (trodAll_cons_mk (shut_int Try.underlying3 w0) (trodAll_cons_mk (Below.trod laidOut (by kernel_rfl) (of_decide_eq_true (by kernel_rfl)) k1 bel lt1) trodAll_mk0)), rfl, bel.frame _, fun h => by cases h⟩
theorem over : Rows.treeRoomRow.holds Try.pinned (OpenSpec.ofChange Rows.treeRoomSpec) :=
  OpenClaim.holds_of_wide 4 Try.f4 rfl rfl rfl rfl rfl rfl rfl ⟨rfl, rfl, rfl, rfl, rfl⟩ rfl rfl rfl rfl rfl (by kernel_rfl) Try.func4 (by kernel_rfl)
    (of_decide_eq_true (by kernel_rfl)) (by unfold Func.isWrapper; first | (rw [if_pos (by decide +kernel)]; kernel_rfl) | (rw [if_neg (by decide +kernel)]; exact ⟨rfl, rfl⟩))
    (fun os started H enc _ => lifted os started H enc)
end Go.Proofs.Ytkhdniccnefdhaa.treeRoomF
namespace Go.Proofs.Ytkhdniccnefdhaa
theorem treeRoom_proved : Rows.TreeRoomSaid := treeRoomF.over
end Go.Proofs.Ytkhdniccnefdhaa
