/- A key that is put where none was, and cut again, leaves the same entries; so do keys that are cut, and put again: PruneBack answers true, and nothing outside what it makes changes. -/
import Derived.Test.YtmkinaijkgkgiaaGreatRows
import Derived.Test.YtmkinaijkgkgiaaGreatBundlePruneBack1
import Derived.Test.YtmkinaijkgkgiaaGreatBundlePruneBack2
import Derived.Test.YtmkinaijkgkgiaaGreatBundlePruneBack3
import Derived.Test.YtmkinaijkgkgiaaGreatBundlePruneBack4
import Derived.Test.YtmkinaijkgkgiaaGreatBundlePruneBack5
import Derived.Test.YtmkinaijkgkgiaaGreatBundlePruneBack6
import Derived.Test.YtmkinaijkgkgiaaGreatBundlePruneBack7
import Derived.Test.YtmkinaijkgkgiaaGreatBundlePruneBack8
import Derived.Test.YtmkinaijkgkgiaaGreatBundlePruneBack9
import Derived.Test.YtmkinaijkgkgiaaGreatBundlePruneBack10
import Derived.Test.YtmkinaijkgkgiaaGreatBundlePruneBack11
import Derived.Test.YtmkinaijkgkgiaaGreatBundlePruneBack12
import Derived.Test.YtmkinaijkgkgiaaGreatBundlePruneBack13
import Derived.Test.YtmkinaijkgkgiaaGreatBundlePruneBack14
import Derived.Test.YtmkinaijkgkgiaaGreatBundlePruneBack15
import Derived.Test.YtmkinaijkgkgiaaGreatBundlePruneBack16
import Derived.Test.YtmkinaijkgkgiaaGreatBundlePruneBack17
import Derived.Test.YtmkinaijkgkgiaaGreatBundlePruneBack18
import Derived.Test.YtmkinaijkgkgiaaGreatBundlePruneBack19
import Derived.Test.YtmkinaijkgkgiaaGreatBundlePruneBack20
import Derived.Test.YtmkinaijkgkgiaaGreatBundlePruneBack21
import Derived.Test.YtmkinaijkgkgiaaGreatBundlePruneBack22
import Derived.Test.YtmkinaijkgkgiaaGreatBundlePruneBack23
import Derived.Test.YtmkinaijkgkgiaaGreatBundlePruneBack24
import Derived.Test.YtmkinaijkgkgiaaGreatBundlePruneBack25
import Derived.Test.YtmkinaijkgkgiaaGreatBundlePruneBack26
import Derived.Test.YtmkinaijkgkgiaaGreatBundlePruneBack27
import Derived.Test.YtmkinaijkgkgiaaGreatBundlePruneBack28
import Derived.Test.YtmkinaijkgkgiaaGreatBundlePruneBack29
import Derived.Test.YtmkinaijkgkgiaaGreatBundlePruneBack30
import Derived.WalkKit
import Derived.ProofKit
import Derived.OpenShut
import Derived.ShutString
import Derived.ChangeOld
import Derived.Below
namespace Go.Proofs.YtmkinaijkgkgiaaGreat.pruneBackF
open Go.ChangeShapes Go.WideShapes Go.ChangeAt Go.RowKit Go.Proofs.U
open Go.ChangeMaps (open_string shut_string)
set_option linter.unusedVariables false
theorem own : ownKnob Tryz.prog.godebug = none := by kernel_rfl
theorem laidOut : laidOutB Tryz.prog = true := by kernel_rfl
set_option maxRecDepth 100000 in
theorem lifted (os : Os) (started : os.Started) (H : Type) (enc : TypeId × Value → H) :
    ReturnsInHanded {} Tryz.checked os 5 .any (Rows.pruneBackSpec.pre6 enc Tryz.prog Tryz.f5 Rows.pruneBackRow.domain false) (Rows.pruneBackSpec.post enc Tryz.prog Tryz.f5 false true false false) := by
  refine returnsInHanded_of_change (C := Tryz.checked) own started (by kernel_rfl) Tryz.func5
    (ChangeSpec.witness6 (enc := enc) (C := Tryz.checked) false ⟨#[], #[.slice none 0 0, .int .i64 0], []⟩ 8 (by kernel_rfl) (by kernel_rfl) (by kernel_rfl) (by kernel_rfl)) ?_
  intro W base args ds gs before hval0 hW hcnd _
  have hval : ∀ (j : Nat) t v, Tryz.f5.params[j]? = some t → args[j]? = some v → Value.okWide Tryz.prog W .any base t v := hval0
  have hW' := hW
  obtain ⟨p, q, hA0, hV, rfl, hfz, hnd⟩ := hW
  have hA : DataW.TrodAll enc Tryz.prog W 0 (fun _ => true) true Tryz.f5.params.toList args.toList ds p := hA0
  rw [Tryz.params5] at hA hval
  obtain ⟨v0, vs0, d0, ds0, p0, q0, hargs, rfl, rfl, h0, r0⟩ := trodAll_cons hA
  obtain ⟨v1, vs1, d1, ds1, p1, q1, rfl, rfl, rfl, h1, r1⟩ := trodAll_cons r0
  obtain ⟨rfl, rfl, rfl⟩ := trodAll_nil r1
  obtain rfl : args = #[v0, v1] := by cases args; simp_all
  obtain ⟨rfl, rfl⟩ := trodVars_none hV
  have k0 := h0
  have lt0 : ∀ x ∈ p0, x.block < W.heap.size := by obtain ⟨m, hm⟩ := k0; exact DataW.trod_lt m _ _ _ hm
  obtain ⟨l0, w0⟩ := slI_of_trod Tryz.underlying52 Tryz.underlying3 (by kernel_rfl) (hval 0 52 v0 rfl rfl) h0
  obtain ⟨a1, rfl, rfl, rfl, w1⟩ := open_int Tryz.underlying3 (hval 1 3 v1 rfl rfl) h1
  clear hA0 hval0
  refine (pback_walk v0 l0 a1 W w0 w1).mono fun e W' ⟨he, bel⟩ => ?_
  subst he
  exact ⟨_, rfl, _, _, _, [], _, [], hW', trodAll_mk1 (shut_bool Tryz.underlying4 _), (trodAll_cons_mk (Below.trod laidOut (by kernel_rfl) (of_decide_eq_true (by kernel_rfl)) k0 bel lt0) (trodAll_cons_mk (shut_int Tryz.underlying3 w1) trodAll_mk0)), rfl, bel.frame _, fun h => by cases h⟩
theorem over : Rows.pruneBackRow.holds Tryz.pinned (OpenSpec.ofChange Rows.pruneBackSpec) :=
  OpenClaim.holds_of_wide 5 Tryz.f5 rfl rfl rfl rfl rfl rfl rfl ⟨rfl, rfl, rfl, rfl, rfl⟩ rfl rfl rfl rfl rfl (by kernel_rfl) Tryz.func5 (by kernel_rfl)
    (of_decide_eq_true (by kernel_rfl)) (by unfold Func.isWrapper; first | (rw [if_pos (by decide +kernel)]; kernel_rfl) | (rw [if_neg (by decide +kernel)]; exact ⟨rfl, rfl⟩))
    (fun os started H enc _ => lifted os started H enc)
end Go.Proofs.YtmkinaijkgkgiaaGreat.pruneBackF
namespace Go.Proofs.YtmkinaijkgkgiaaGreat
theorem pruneBack_proved : Rows.PruneBackSaid := pruneBackF.over
end Go.Proofs.YtmkinaijkgkgiaaGreat
