/- The walk of CrcFinds, as the row hands it its masks. -/
import Derived.Test.YtaaiockknpeglaaD4w
import Derived.Test.YtaaiockknpeglaaOpenC
namespace Go.Proofs.Ytaaiockknpeglaa
open Go.RowKit Go.Proofs.U

theorem finds_walk2 (v : Value) (l : List Int) (at' : Int) (va : Value) (m : Int × Int) (w : World) (h : SlI .u8 w v l) (ha : (Lit.int .i64 at').wf = true)
    (hm : va = .agg #[.int .u8 m.1, .int .u8 m.2] ∧ (Lit.int .u8 m.1).wf = true ∧ (Lit.int .u8 m.2).wf = true) :
    Calls Try.prog 6 #[v, .int .i64 at', va] w fun e w' => e = .returned (.bool true) ∧ Below w.heap.size w w' := by
  obtain ⟨rfl, h0, h1⟩ := hm
  exact finds_walk v l at' m.1 m.2 w h ha h0 h1
end Go.Proofs.Ytaaiockknpeglaa
