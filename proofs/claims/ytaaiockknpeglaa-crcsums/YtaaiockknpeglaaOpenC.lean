/- How a slice of slices of bytes, and an array of two bytes, that came in are opened. -/
import Derived.Test.YtaaiockknpeglaaOpen
import Derived.Test.YtaaiockknpeglaaC1
import Derived.Deep.Matrix
namespace Go.Proofs.Ytaaiockknpeglaa
open Go.RowKit Go.Proofs.U Go.ChangeShapes Go.WideShapes Go.ChangeAt

theorem opened_rows {H : Type} {enc : TypeId × Value → H} {W : World} {base : Nat} {v : Value} {d : DataW H} {p : List MemPlace}
    (hval : Value.okWide Try.prog W .any base 22 v) (h : DataW.Trod enc Try.prog W 0 (fun _ => true) true 22 v d p) : ∃ ls, SlB W v ls := by
  obtain ⟨a, len, cap, rfl⟩ := okWide_slice Try.underlying22 hval
  obtain ⟨fuel, hf⟩ := h
  rcases Deep.open_int_rows Try.underlying22 Try.underlying24 Try.underlying5 (by kernel_rfl) (by kernel_rfl) hf with ⟨hcs, _⟩ | ⟨x, l, c, A, L, C, Z, hcs, _, hl, hm, _, hcell⟩
  · simp [Value.cells] at hcs
    obtain ⟨rfl, rfl, rfl⟩ := hcs
    exact ⟨[], SlB.nil W⟩
  · simp [Value.cells] at hcs
    obtain ⟨rfl, rfl, rfl⟩ := hcs
    have e : ((List.range len).map fun r => (Z r).take (L r)).length = len := by simp
    refine ⟨(List.range len).map fun r => (Z r).take (L r), (List.range len).map fun r => .slice (A r) (L r) (C r), ?_, ?_⟩
    · rw [e]
      refine ⟨some x, cap, rfl, hl, by simp, (fun h => by cases h), fun y hy j u hj => ?_⟩
      cases hy
      have hj1 : j < len := by have := (List.getElem?_eq_some_iff.1 hj).1; simpa using this
      simp [hj1] at hj
      rw [← hj]; exact (hcell j (by omega)).1
    · intro j hj u hu
      have hj1 : j < len := by simpa using hj
      simp [hj1] at hu
      subst hu
      obtain ⟨h1, h2, h3, h4, h5, h6, h7⟩ := hcell j (by omega)
      simp only [List.getElem_map, List.getElem_range]
      have e2 : ((Z j).take (L j)).length = L j := by simp; omega
      refine ⟨?_, fun n hn => h5 n (List.mem_of_mem_take hn)⟩
      rw [e2]
      refine ⟨A j, C j, rfl, h2, by simp; omega, fun hn => h6 hn, fun y hy i u hi => ?_⟩
      have hi1 : i < L j := by have := (List.getElem?_eq_some_iff.1 hi).1; simp at this; omega
      have hi2 : i < (Z j).length := by omega
      have := (h7 y hy).2 i (by omega)
      rw [this]
      rw [List.getElem?_map, List.getElem?_take, if_pos hi1, List.getElem?_eq_getElem hi2] at hi
      simp at hi
      simp [List.getD, hi2, hi]

theorem opened_two {H : Type} {enc : TypeId × Value → H} {W : World} {base : Nat} {v : Value} {d : DataW H} {p : List MemPlace}
    (hval : Value.okWide Try.prog W .any base 36 v) (h : DataW.Trod enc Try.prog W 0 (fun _ => true) true 36 v d p) :
    ∃ m : Int × Int, v = .agg #[.int .u8 m.1, .int .u8 m.2] ∧ (Lit.int .u8 m.1).wf = true ∧ (Lit.int .u8 m.2).wf = true := by
  simp only [Value.okWide, Try.underlying36] at hval
  obtain ⟨cs, rfl, hsz, _⟩ := hval
  have hC : Try.prog.cellsOf 36 = 2 := by kernel_rfl
  have hc5 : Try.prog.cellsOf 5 = 1 := by kernel_rfl
  rw [hC] at hsz
  obtain ⟨fuel, hf⟩ := h
  obtain ⟨xs, m, _, _, _, hlen, hx⟩ := DataW.trod_array Try.underlying36 hf
  match cs, hsz with
  | ⟨[c0, c1]⟩, _ =>
    have h0 := hx 0 (by omega)
    have h1 := hx 1 (by omega)
    rw [hc5] at h0 h1
    simp [Value.cells] at h0 h1
    have g0 : xs[0]? = some xs[0] := List.getElem?_eq_getElem (by omega)
    have g1 : xs[1]? = some xs[1] := List.getElem?_eq_getElem (by omega)
    rw [g0] at h0
    rw [g1] at h1
    obtain ⟨z0, e0, _, w0⟩ := DataW.trod_int Try.underlying5 h0
    obtain ⟨z1, e1, _, w1⟩ := DataW.trod_int Try.underlying5 h1
    simp at e0 e1
    subst e0 e1
    exact ⟨(z0, z1), rfl, w0, w1⟩
end Go.Proofs.Ytaaiockknpeglaa
