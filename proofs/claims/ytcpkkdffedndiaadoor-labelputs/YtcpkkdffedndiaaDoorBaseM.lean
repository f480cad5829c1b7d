/- A literal's row: what it holds. -/
import Derived.Test.YtcpkkdffedndiaaDoorBase
namespace Go.Proofs.U
open Go.RowKit
theorem Sl_made (w : World) (t : TypeId) (cs : Array Value) (n b : Nat) (hn : cs.size = n) (hb : w.heap.size = b) : Sl (w.alloc (.cells cs t)) 1 (.slice (some ⟨b, 0, none⟩) n n) n cs.toList := by
  subst hb
  refine ⟨_, _, rfl, Nat.le_refl _, by simp [hn], (fun h => by cases h), fun x hx => ?_⟩
  cases hx
  intro j u hj
  rw [Addr.plain, Nat.zero_add]
  have h1 : cs[j]? = some u := by simpa using hj
  have h2 : (w.alloc (.cells cs t)).heap[w.heap.size]? = some (.cells cs t) := by
    show (w.heap.push _)[w.heap.size]? = _
    simp
  unfold World.cell?
  rw [h2]
  exact h1
end Go.Proofs.U
