/- Rows of the call's own making: one element read, one stored; no condition. -/
import Derived.Test.YtaaiockknpeglaaBase3
namespace Go.Proofs.U
open Go.RowKit

theorem OwnI.some {k : IntKind} {e : TypeId} {w : World} {base : Nat} {v : Value} {l : List Int} (h : OwnI k e w base v l) (hl : 0 < l.length) :
    ∃ g cap cur, v = .slice (Option.some ⟨g, 0, none⟩) l.length cap ∧ base ≤ g ∧ w.heap[g]? = Option.some (.cells cur e (0, 0)) ∧ l.length ≤ cap ∧ cap ≤ maxLen ∧ cur.size = cap ∧ cur.toList.take l.length = l.map (Value.int k) := by
  rcases h.2 with ⟨_, hn⟩ | ⟨g, cap, cur, hv, h1, h2, h3, h4, h5, h6⟩
  · omega
  · exact ⟨g, cap, cur, hv, h1, h2, h3, h4, by simpa using h5, by simpa using h6⟩

/-- Its cells, one by one. -/
theorem OwnI.cellK {k : IntKind} {e : TypeId} {w : World} {base g n cap : Nat} {l : List Int} (h : OwnI k e w base (.slice (Option.some ⟨g, 0, none⟩) n cap) l) (j : Nat) (hj : j < l.length) :
    w.cell? ⟨g, j, none⟩ = Option.some (.int k (l.getD j 0)) ∧ w.frozen? ⟨g, j, none⟩ = false := by
  obtain ⟨g', cap', cur, hv, h1, h2, h3, h4, h5, h6⟩ := h.some (by omega)
  cases hv
  have hc : cur[j]? = Option.some (.int k (l.getD j 0)) := by
    have h7 : (cur.toList.take l.length)[j]? = Option.some (.int k (l.getD j 0)) := by rw [h6]; simp [List.getD, hj]
    rw [List.getElem?_take, if_pos hj] at h7
    simpa using h7
  simp [World.cell?, World.frozen?, h2, hc]

/-- One element stored. -/
theorem OwnI.setK {k : IntKind} {e : TypeId} {w : World} {base g n cap : Nat} {l : List Int} (h : OwnI k e w base (.slice (Option.some ⟨g, 0, none⟩) n cap) l) (j : Nat) (hj : j < l.length) (y : Int) :
    OwnI k e (w.setCell ⟨g, j, none⟩ (.int k y)) base (.slice (Option.some ⟨g, 0, none⟩) n cap) (l.set j y) := by
  obtain ⟨g', cap', cur, hv, h1, h2, h3, h4, h5, h6⟩ := h.some (by omega)
  cases hv
  have hlt : g < w.heap.size := (Array.getElem?_eq_some_iff.1 h2).1
  have hv2 : w.heap[g] = .cells cur e (0, 0) := (Array.getElem?_eq_some_iff.1 h2).2
  refine ⟨by simp, Or.inr ⟨g, cap, cur.setIfInBounds j (.int k y), by simp, h1, ?_, by simpa using h3, h4, by simpa using h5, ?_⟩⟩
  · simp [World.setCell, Array.getElem?_modify, h2]
  · simp only [List.length_set, Nat.mul_one, Array.toList_setIfInBounds, List.map_set]
    rw [List.take_set, h6]
end Go.Proofs.U
