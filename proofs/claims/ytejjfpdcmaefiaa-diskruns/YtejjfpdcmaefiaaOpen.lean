/- How a slice of integers that came in is opened. -/
import Derived.Test.YtejjfpdcmaefiaaRows
import Derived.Test.YtejjfpdcmaefiaaBase
import Derived.ProofKit
import Derived.OpenShut
namespace Go.Proofs.U
open Go.RowKit Go.ChangeShapes Go.WideShapes Go.ChangeAt

/-- A slice of integers that came in, opened. -/
theorem slI_of_trod {P : Program} {H : Type} {enc : TypeId × Value → H} {W : World} {base t e : Nat} {k : IntKind} {v : Value} {d : DataW H} {p : List MemPlace}
    (hu : P.underlying t = some (.slice e)) (he : P.underlying e = some (.int k)) (hc : P.cellsOf e = 1) (hval : Value.okWide P W .any base t v)
    (h : DataW.Trod enc P W 0 (fun _ => true) true t v d p) : ∃ l, SlI k W v l := by
  obtain ⟨a, len, cap, rfl⟩ := okWide_slice hu hval
  obtain ⟨fuel, hf⟩ := h
  rcases open_ints hu he hc hf with ⟨hcs, _⟩ | ⟨x, l, c, zs, hcs, _, hl, hm, hz, _, hcell, hwz⟩
  · simp [Value.cells] at hcs
    obtain ⟨rfl, rfl, rfl⟩ := hcs
    exact ⟨[], SlI.nil k W⟩
  · simp [Value.cells] at hcs
    obtain ⟨rfl, rfl, rfl⟩ := hcs
    have hzl : zs.length = cap := by simpa using hz
    have e : (zs.take len).length = len := by simp; omega
    refine ⟨zs.take len, ?_, fun n hn => hwz n (List.mem_of_mem_take hn)⟩
    rw [e]
    refine ⟨_, _, rfl, hl, by simp; omega, (fun h => by cases h), fun y hy j u hj => ?_⟩
    cases hy
    have hj1 : j < len := by
      have := (List.getElem?_eq_some_iff.1 hj).1
      simp at this; omega
    rw [List.map_take, List.getElem?_take, if_pos hj1] at hj
    have hc1 := hcell j (by omega)
    have hjz : j < zs.length := by omega
    simp [hjz] at hj
    rw [← hj]
    simpa [List.getD, hjz] using hc1
end Go.Proofs.U
