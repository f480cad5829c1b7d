/- How a label, and a slice of labels, that came in are opened. -/
import Derived.Test.YtcpkkdffedndiaaDoorOpenP
import Derived.Test.YtcpkkdffedndiaaDoorL5
import Derived.Lib.SmallJoins
namespace Go.Proofs.YtcpkkdffedndiaaDoor
open Go.RowKit Go.Proofs.U Go.ChangeShapes Go.WideShapes Go.ChangeAt

theorem wf_u32 {z : Int} (h : (Lit.int .u32 z).wf = true) : 0 ≤ z ∧ z < 4294967296 := by
  simp [Lit.wf, IntKind.min, IntKind.max, IntKind.signed, IntKind.bits] at h
  omega

theorem opened_lab {H : Type} {enc : TypeId × Value → H} {W : World} {base : Nat} {v : Value} {d : DataW H} {p : List MemPlace}
    (hval : Value.okWide Tryd.prog W .any base 24 v) (h : DataW.Trod enc Tryd.prog W 0 (fun _ => true) true 24 v d p) :
    ∃ m : Int × Int, v = lab m.1 m.2 ∧ U2 m.1 m.2 := by
  obtain ⟨v0, v1, y0, y1, n, rfl, _, _, h0, h1⟩ := Go.Joins.open_agg2 Tryd.underlying24 (by kernel_rfl) (by kernel_rfl) hval h
  obtain ⟨z0, e0, _, w0⟩ := DataW.trod_int Tryd.underlying22 h0
  obtain ⟨z1, e1, _, w1⟩ := DataW.trod_int Tryd.underlying22 h1
  simp at e0 e1
  subst e0 e1
  have a0 := wf_u32 w0
  have a1 := wf_u32 w1
  exact ⟨(z0, z1), rfl, ⟨a0.1, a0.2, a1.1, a1.2⟩⟩

theorem opened_labs {H : Type} {enc : TypeId × Value → H} {W : World} {base : Nat} {v : Value} {d : DataW H} {p : List MemPlace}
    (hval : Value.okWide Tryd.prog W .any base 30 v) (h : DataW.Trod enc Tryd.prog W 0 (fun _ => true) true 30 v d p) :
    ∃ l : List (Int × Int), SlL W v l ∧ ∀ x ∈ l, U2 x.1 x.2 := by
  obtain ⟨l, h1, h2⟩ := slP_of_trod Tryd.underlying30 Tryd.underlying24 (by kernel_rfl) rfl rfl (by kernel_rfl) (by kernel_rfl) Tryd.underlying22 Tryd.underlying22 hval h
  refine ⟨l, h1, fun x hx => ?_⟩
  have a0 := wf_u32 (h2 x hx).1
  have a1 := wf_u32 (h2 x hx).2
  exact ⟨a0.1, a0.2, a1.1, a1.2⟩
end Go.Proofs.YtcpkkdffedndiaaDoor
