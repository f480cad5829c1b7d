/- How a slice of pairs of integers that came in is opened. -/
import Derived.Test.YtcpkkdffedndiaaDoorOpen
import Derived.Test.YtcpkkdffedndiaaDoorBase3
import Derived.Deep.SlicePairs
namespace Go.Proofs.U
open Go.RowKit Go.ChangeShapes Go.WideShapes Go.ChangeAt

def pairC (k0 k1 : IntKind) (x : Int × Int) : List Value := [.int k0 x.1, .int k1 x.2]
def SlP (k0 k1 : IntKind) (w : World) (v : Value) (l : List (Int × Int)) : Prop := SlR (pairC k0 k1) 2 w v l ∧ ∀ x ∈ l, (Lit.int k0 x.1).wf = true ∧ (Lit.int k1 x.2).wf = true

theorem slP_of_trod {P : Program} {H : Type} {enc : TypeId × Value → H} {W : World} {base t e : Nat} {k0 k1 : IntKind} {f0 f1 : Field} {v : Value} {d : DataW H} {p : List MemPlace}
    (hu : P.underlying t = some (.slice e)) (he : P.underlying e = some (.struct #[f0, f1])) (ce : P.cellsOf e = 2) (o0 : f0.offset = 0) (o1 : f1.offset = 1) (c0 : P.cellsOf f0.type = 1) (c1 : P.cellsOf f1.type = 1)
    (t0 : P.underlying f0.type = some (.int k0)) (t1 : P.underlying f1.type = some (.int k1)) (hval : Value.okWide P W .any base t v)
    (h : DataW.Trod enc P W 0 (fun _ => true) true t v d p) : ∃ l, SlP k0 k1 W v l := by
  obtain ⟨a, len, cap, rfl⟩ := okWide_slice hu hval
  obtain ⟨fuel, hf⟩ := h
  rcases Deep.open_slice_pairs hu he ce o0 o1 c0 c1 hf with ⟨hcs, _⟩ | ⟨x, l, c, m, n, V0, V1, D0, D1, P0, P1, hcs, _, hl, hm, hmm, _, hcell⟩
  · simp [Value.cells] at hcs
    obtain ⟨rfl, rfl, rfl⟩ := hcs
    exact ⟨[], ⟨by simp, Sl.nil W 2⟩, by simp⟩
  · simp [Value.cells] at hcs
    obtain ⟨rfl, rfl, rfl⟩ := hcs
    have hmc : m = cap := by simpa using hmm
    have hv : ∀ i, i < m → ∃ z0 z1, V0 i = .int k0 z0 ∧ V1 i = .int k1 z1 ∧ (Lit.int k0 z0).wf = true ∧ (Lit.int k1 z1).wf = true := by
      intro i hi
      obtain ⟨_, _, r0, r1⟩ := hcell i hi
      obtain ⟨z0, e0, _, w0⟩ := DataW.trod_int t0 r0
      obtain ⟨z1, e1, _, w1⟩ := DataW.trod_int t1 r1
      simp at e0 e1
      exact ⟨z0, z1, e0, e1, w0, w1⟩
    let g : Nat → Int × Int := fun i => (intOf (V0 i), intOf (V1 i))
    have hg : ∀ i, i < m → V0 i = .int k0 (g i).1 ∧ V1 i = .int k1 (g i).2 ∧ (Lit.int k0 (g i).1).wf = true ∧ (Lit.int k1 (g i).2).wf = true := by
      intro i hi
      obtain ⟨z0, z1, e0, e1, w0, w1⟩ := hv i hi
      simp only [g, e0, e1, intOf]
      exact ⟨trivial, trivial, w0, w1⟩
    refine ⟨(List.range len).map g, ⟨fun y _ => rfl, ?_⟩, fun y hy => ?_⟩
    · refine ⟨some x, cap, by simp, by simpa using hl, ?_, (fun h => by cases h), fun y hy j u hj => ?_⟩
      · have : ∀ L : List (Int × Int), (L.flatMap (pairC k0 k1)).length = L.length * 2 := by
          intro L; induction L with
          | nil => rfl
          | cons z L ih => simp only [List.flatMap_cons, List.length_append, ih, List.length_cons]; simp [pairC]; omega
        rw [this]
      · cases hy
        have hjl : j < len * 2 := by
          have h2 := (List.getElem?_eq_some_iff.1 hj).1
          have : ∀ L : List (Int × Int), (L.flatMap (pairC k0 k1)).length = L.length * 2 := by
            intro L; induction L with
            | nil => rfl
            | cons z L ih => simp only [List.flatMap_cons, List.length_append, ih, List.length_cons]; simp [pairC]; omega
          rw [this] at h2; simpa using h2
        have hq : j / 2 < ((List.range len).map g).length := by simp; omega
        have hfl := flat_at (pairC k0 k1) 2 ((List.range len).map g) (fun _ _ => rfl) (j / 2) hq (j % 2) (by omega)
        rw [show j / 2 * 2 + j % 2 = j by omega, hj] at hfl
        have hj2 : j / 2 < m := by omega
        obtain ⟨q0, q1, _, _⟩ := hcell (j / 2) hj2
        obtain ⟨e0, e1, _, _⟩ := hg (j / 2) hj2
        simp only [List.getElem_map, List.getElem_range] at hfl
        rcases Nat.mod_two_eq_zero_or_one j with hm2 | hm2
        · rw [hm2] at hfl; simp [pairC] at hfl; rw [hfl, ← e0, ← q0]; congr 2; omega
        · rw [hm2] at hfl; simp [pairC] at hfl; rw [hfl, ← e1, ← q1]; congr 2; omega
    · simp at hy; obtain ⟨i, hi, rfl⟩ := hy
      exact (hg i (by omega)).2.2
end Go.Proofs.U
