/- Whatever keys are put and cut: each tree has just the document's entries, is at most eight nodes high, the elder ones stay, and just so many pages are used as are needed: PruneCuts answers true, and nothing outside what it makes changes. -/
import Derived.Test.YtmkinaijkgkgiaaGreatRows
import Derived.Test.YtmkinaijkgkgiaaGreatBundlePruneCuts1
import Derived.Test.YtmkinaijkgkgiaaGreatBundlePruneCuts2
import Derived.Test.YtmkinaijkgkgiaaGreatBundlePruneCuts3
import Derived.Test.YtmkinaijkgkgiaaGreatBundlePruneCuts4
import Derived.Test.YtmkinaijkgkgiaaGreatBundlePruneCuts5
import Derived.Test.YtmkinaijkgkgiaaGreatBundlePruneCuts6
import Derived.Test.YtmkinaijkgkgiaaGreatBundlePruneCuts7
import Derived.Test.YtmkinaijkgkgiaaGreatBundlePruneCuts8
import Derived.Test.YtmkinaijkgkgiaaGreatBundlePruneCuts9
import Derived.Test.YtmkinaijkgkgiaaGreatBundlePruneCuts10
import Derived.Test.YtmkinaijkgkgiaaGreatBundlePruneCuts11
import Derived.Test.YtmkinaijkgkgiaaGreatBundlePruneCuts12
import Derived.Test.YtmkinaijkgkgiaaGreatBundlePruneCuts13
import Derived.Test.YtmkinaijkgkgiaaGreatBundlePruneCuts14
import Derived.Test.YtmkinaijkgkgiaaGreatBundlePruneCuts15
import Derived.Test.YtmkinaijkgkgiaaGreatBundlePruneCuts16
import Derived.Test.YtmkinaijkgkgiaaGreatBundlePruneCuts17
import Derived.Test.YtmkinaijkgkgiaaGreatBundlePruneCuts18
import Derived.Test.YtmkinaijkgkgiaaGreatBundlePruneCuts19
import Derived.Test.YtmkinaijkgkgiaaGreatBundlePruneCuts20
import Derived.Test.YtmkinaijkgkgiaaGreatBundlePruneCuts21
import Derived.Test.YtmkinaijkgkgiaaGreatBundlePruneCuts22
import Derived.Test.YtmkinaijkgkgiaaGreatBundlePruneCuts23
import Derived.Test.YtmkinaijkgkgiaaGreatBundlePruneCuts24
import Derived.Test.YtmkinaijkgkgiaaGreatBundlePruneCuts25
import Derived.Test.YtmkinaijkgkgiaaGreatBundlePruneCuts26
import Derived.Test.YtmkinaijkgkgiaaGreatBundlePruneCuts27
import Derived.Test.YtmkinaijkgkgiaaGreatBundlePruneCuts28
import Derived.Test.YtmkinaijkgkgiaaGreatBundlePruneCuts29
import Derived.Test.YtmkinaijkgkgiaaGreatBundlePruneCuts30
import Derived.Test.YtmkinaijkgkgiaaGreatBundlePruneCuts31
import Derived.WalkKit
import Derived.ProofKit
import Derived.OpenShut
import Derived.ShutString
import Derived.ChangeOld
import Derived.Below
namespace Go.Proofs.YtmkinaijkgkgiaaGreat.pruneCutsF
open Go.ChangeShapes Go.WideShapes Go.ChangeAt Go.RowKit Go.Proofs.U
open Go.ChangeMaps (open_string shut_string)
set_option linter.unusedVariables false
theorem own : ownKnob Tryz.prog.godebug = none := by kernel_rfl
theorem laidOut : laidOutB Tryz.prog = true := by kernel_rfl
set_option maxRecDepth 100000 in
theorem lifted (os : Os) (started : os.Started) (H : Type) (enc : TypeId × Value → H) :
    ReturnsInHanded {} Tryz.checked os 3 .any (Rows.pruneCutsSpec.pre6 enc Tryz.prog Tryz.f3 Rows.pruneCutsRow.domain false) (Rows.pruneCutsSpec.post enc Tryz.prog Tryz.f3 false true false false) := by
  refine returnsInHanded_of_change (C := Tryz.checked) own started (by kernel_rfl) Tryz.func3
    (ChangeSpec.witness6 (enc := enc) (C := Tryz.checked) false ⟨#[], #[.slice none 0 0], []⟩ 8 (by kernel_rfl) (by kernel_rfl) (by kernel_rfl) (by kernel_rfl)) ?_
  intro W base args ds gs before hval0 hW hcnd _
  have hval : ∀ (j : Nat) t v, Tryz.f3.params[j]? = some t → args[j]? = some v → Value.okWide Tryz.prog W .any base t v := hval0
  have hW' := hW
  obtain ⟨p, q, hA0, hV, rfl, hfz, hnd⟩ := hW
  have hA : DataW.TrodAll enc Tryz.prog W 0 (fun _ => true) true Tryz.f3.params.toList args.toList ds p := hA0
  rw [Tryz.params3] at hA hval
  obtain ⟨v0, vs0, d0, ds0, p0, q0, hargs, rfl, rfl, h0, r0⟩ := trodAll_cons hA
  obtain ⟨rfl, rfl, rfl⟩ := trodAll_nil r0
  obtain rfl : args = #[v0] := by cases args; simp_all
  obtain ⟨rfl, rfl⟩ := trodVars_none hV
  have k0 := h0
  have lt0 : ∀ x ∈ p0, x.block < W.heap.size := by obtain ⟨m, hm⟩ := k0; exact DataW.trod_lt m _ _ _ hm
  obtain ⟨l0, w0⟩ := opened_cuts (hval 0 22 v0 rfl rfl) h0
  clear hA0 hval0
  refine (pcuts_walk v0 l0 W w0).mono fun e W' ⟨he, bel⟩ => ?_
  subst he
  exact ⟨_, rfl, _, _, _, [], _, [], hW', trodAll_mk1 (shut_bool Tryz.underlying4 _), (trodAll_cons_mk (Below.trod laidOut (by kernel_rfl) (of_decide_eq_true (by kernel_rfl)) k0 bel lt0) trodAll_mk0), rfl, bel.frame _, fun h => by cases h⟩
theorem over : Rows.pruneCutsRow.holds Tryz.pinned (OpenSpec.ofChange Rows.pruneCutsSpec) :=
  OpenClaim.holds_of_wide 3 Tryz.f3 rfl rfl rfl rfl rfl rfl rfl ⟨rfl, rfl, rfl, rfl, rfl⟩ rfl rfl rfl rfl rfl (by kernel_rfl) Tryz.func3 (by kernel_rfl)
    (of_decide_eq_true (by kernel_rfl)) (by unfold Func.isWrapper; first | (rw [if_pos (by decide +kernel)]; kernel_rfl) | (rw [if_neg (by decide +kernel)]; exact ⟨rfl, rfl⟩))
    (fun os started H enc _ => lifted os started H enc)
end Go.Proofs.YtmkinaijkgkgiaaGreat.pruneCutsF
namespace Go.Proofs.YtmkinaijkgkgiaaGreat
theorem pruneCuts_proved : Rows.PruneCutsSaid := pruneCutsF.over
end Go.Proofs.YtmkinaijkgkgiaaGreat
