/- How a slice of acts, and one of bools, that came in are opened. -/
import Derived.Test.YtejjfpdcmaefiaaOpen
import Derived.Test.YtejjfpdcmaefiaaK11
import Derived.Deep.SlicePairs
namespace Go.Proofs.Ytejjfpdcmaefiaa
open Go.RowKit Go.Proofs.U Go.ChangeShapes Go.WideShapes Go.ChangeAt
set_option linter.unusedSimpArgs false
set_option linter.unusedVariables false

/-- An act as it lies in memory: its kind, its place, its byte, its slice, and what that slice holds. -/
structure ActR where
  kind : Int
  at' : Int
  byte : Int
  kv : Value
  keep : List Int
def encA (x : ActR) : List Value := [.int .i64 x.kind, .int .i64 x.at', .int .u8 x.byte, x.kv]
def ActOk (w : World) (x : ActR) : Prop := (Lit.int .i64 x.kind).wf = true ∧ (Lit.int .i64 x.at').wf = true ∧ (Lit.int .u8 x.byte).wf = true ∧ SlI .u8 w x.kv x.keep
def SlA (w : World) (v : Value) (l : List ActR) : Prop := SlR encA 4 w v l ∧ ∀ x ∈ l, ActOk w x

theorem slI_of_cells {P : Program} {H : Type} {enc : TypeId × Value → H} {W : World} {t e fuel : Nat} {k : IntKind} {v : Value} {x : DataW H × List MemPlace}
    (hu : P.underlying t = some (.slice e)) (he : P.underlying e = some (.int k)) (hc : P.cellsOf e = 1)
    (hf : DataW.trod enc P W 0 (fun _ => true) true fuel t [v] = some x) : ∃ l, SlI k W v l := by
  rcases open_ints hu he hc hf with ⟨hcs, _⟩ | ⟨x, len, cap, zs, hcs, _, hl, hm, hz, _, hcell, hwz⟩
  · simp at hcs
    subst hcs
    exact ⟨[], SlI.nil k W⟩
  · simp at hcs
    subst hcs
    have hzl : zs.length = cap := by simpa using hz
    have e : (zs.take len).length = len := by simp; omega
    refine ⟨zs.take len, ?_, fun n hn => hwz n (List.mem_of_mem_take hn)⟩
    rw [e]
    refine ⟨_, _, rfl, hl, by simp; omega, (fun h => by cases h), fun y hy j u hj => ?_⟩
    cases hy
    have hj1 : j < len := by
      have := (List.getElem?_eq_some_iff.1 hj).1
      simp at this; omega
    rw [List.map_take, List.getElem?_take, if_pos hj1] at hj
    have hc1 := hcell j (by omega)
    have hjz : j < zs.length := by omega
    simp [hjz] at hj
    rw [← hj]
    simpa [List.getD, hjz] using hc1
theorem opened_acts4 {H : Type} {enc : TypeId × Value → H} {W : World} {base : Nat} {v : Value} {d : DataW H} {p : List MemPlace}
    (hval : Value.okWide Try.prog W .any base 34 v) (h : DataW.Trod enc Try.prog W 0 (fun _ => true) true 34 v d p) : ∃ l, SlA W v l := by
  obtain ⟨a, len, cap, rfl⟩ := okWide_slice Try.underlying34 hval
  obtain ⟨fuel, hf⟩ := h
  rcases Deep.open_slice Try.underlying34 hf with ⟨hcs, _⟩ | ⟨x, l, c, m, n, D, Pl, hcs, _, hl, hm, hmm, _, hcell⟩
  · simp [Value.cells] at hcs
    obtain ⟨rfl, rfl, rfl⟩ := hcs
    exact ⟨[], ⟨⟨by simp, Sl.nil W 4⟩, by simp⟩⟩
  · simp [Value.cells] at hcs
    obtain ⟨rfl, rfl, rfl⟩ := hcs
    have hmc : m = cap := by simpa using hmm
    have ce : Try.prog.cellsOf 43 = 4 := by kernel_rfl
    have each : ∀ i, i < m → ∃ q : ActR, (∀ j v, (encA q)[j]? = some v → W.cell? (x.add (i * 4 + j)) = some v) ∧ ActOk W q := by
      intro i hi
      obtain ⟨cs', h1, h2⟩ := hcell i hi
      rw [ce] at h1
      obtain ⟨_, hlen, hcl⟩ := World.cells?_some h1
      obtain ⟨xs, k, hk, hxy, _, hxl, hfl⟩ := DataW.trod_struct Try.underlying43 h2
      match xs, hxl, cs', hlen with
      | [y0, y1, y2, y3], _, [v0, v1, v2, v3], _ =>
        have g0 := hfl 0 _ rfl
        have g1 := hfl 1 _ rfl
        have g2 := hfl 2 _ rfl
        have g3 := hfl 3 _ rfl
        have ci : Try.prog.cellsOf 3 = 1 := by kernel_rfl
        have c8 : Try.prog.cellsOf 5 = 1 := by kernel_rfl
        have cs8 : Try.prog.cellsOf 41 = 1 := by kernel_rfl
        simp [ci, c8, cs8] at g0 g1 g2 g3
        obtain ⟨z0, e0, _, w0⟩ := DataW.trod_int Try.underlying3 g0
        obtain ⟨z1, e1, _, w1⟩ := DataW.trod_int Try.underlying3 g1
        obtain ⟨z2, e2, _, w2⟩ := DataW.trod_int Try.underlying5 g2
        obtain ⟨kl, hS⟩ := slI_of_cells Try.underlying41 Try.underlying5 c8 g3
        simp at e0 e1 e2
        subst e0 e1 e2
        refine ⟨⟨z0, z1, z2, v3, kl⟩, ?_, w0, w1, w2, hS⟩
        intro j u hj
        have hj4 : j < 4 := by have := (List.getElem?_eq_some_iff.1 hj).1; simpa [encA] using this
        have hh := hcl j (by omega)
        rw [Deep.add_add] at hh
        rw [hh]
        exact hj
    let g : Nat → ActR := fun i => if h : i < m then (each i h).choose else ⟨0, 0, 0, .nilFunc, []⟩
    have hg : ∀ i, i < m → (∀ j v, (encA (g i))[j]? = some v → W.cell? (x.add (i * 4 + j)) = some v) ∧ ActOk W (g i) := by
      intro i hi
      simp only [g, dif_pos hi]
      exact (each i hi).choose_spec
    have hflen : ∀ L : List ActR, (L.flatMap encA).length = L.length * 4 := by
      intro L; induction L with
      | nil => rfl
      | cons z L ih => simp only [List.flatMap_cons, List.length_append, ih, List.length_cons]; simp [encA]; omega
    refine ⟨(List.range len).map g, ⟨⟨fun y _ => rfl, ?_⟩, ?_⟩⟩
    · refine ⟨some x, cap, by simp, by simpa using hl, ?_, (fun h => by cases h), fun y hy j u hj => ?_⟩
      · rw [hflen]
      · cases hy
        have hjl : j < len * 4 := by
          have h2 := (List.getElem?_eq_some_iff.1 hj).1
          rw [hflen] at h2; simpa using h2
        have hq : j / 4 < ((List.range len).map g).length := by simp; omega
        have hfl := flat_at encA 4 ((List.range len).map g) (fun _ _ => rfl) (j / 4) hq (j % 4) (by omega)
        rw [show j / 4 * 4 + j % 4 = j by omega, hj] at hfl
        simp only [List.getElem_map, List.getElem_range] at hfl
        have := (hg (j / 4) (by omega)).1 (j % 4) u hfl.symm
        rwa [show j / 4 * 4 + j % 4 = j by omega] at this
    · intro y hy
      obtain ⟨i, hi, rfl⟩ := List.mem_map.1 hy
      exact (hg i (by have := List.mem_range.1 hi; omega)).2

theorem opened_bools {H : Type} {enc : TypeId × Value → H} {W : World} {base : Nat} {v : Value} {d : DataW H} {p : List MemPlace}
    (hval : Value.okWide Try.prog W .any base 36 v) (h : DataW.Trod enc Try.prog W 0 (fun _ => true) true 36 v d p) : ∃ l, SlR encB 1 W v l := by
  obtain ⟨a, len, cap, rfl⟩ := okWide_slice Try.underlying36 hval
  obtain ⟨fuel, hf⟩ := h
  rcases Deep.open_slice Try.underlying36 hf with ⟨hcs, _⟩ | ⟨x, l, c, m, n, D, Pl, hcs, _, hl, hm, hmm, _, hcell⟩
  · simp [Value.cells] at hcs
    obtain ⟨rfl, rfl, rfl⟩ := hcs
    exact ⟨[], by simp, Sl.nil W 1⟩
  · simp [Value.cells] at hcs
    obtain ⟨rfl, rfl, rfl⟩ := hcs
    have hmc : m = cap := by simpa using hmm
    have ce : Try.prog.cellsOf 4 = 1 := by kernel_rfl
    have each : ∀ i, i < m → ∃ q : Bool, W.cell? (x.add i) = some (.bool q) := by
      intro i hi
      obtain ⟨cs', h1, h2⟩ := hcell i hi
      rw [ce] at h1
      obtain ⟨_, hlen, hcl⟩ := World.cells?_some h1
      obtain ⟨z, hz, _⟩ := DataW.trod_bool Try.underlying4 h2
      subst hz
      have hh := hcl 0 (by omega)
      rw [Deep.add_add] at hh
      exact ⟨z, by simpa using hh⟩
    let g : Nat → Bool := fun i => if h : i < m then (each i h).choose else false
    have hg : ∀ i, i < m → W.cell? (x.add i) = some (.bool (g i)) := by
      intro i hi
      simp only [g, dif_pos hi]
      exact (each i hi).choose_spec
    refine ⟨(List.range len).map g, fun y _ => rfl, ?_⟩
    have hflat : ∀ L : List Bool, L.flatMap encB = L.map Value.bool := by
      intro L; induction L with
      | nil => rfl
      | cons z L ih => simp [List.flatMap_cons, ih]
    rw [hflat]
    refine ⟨some x, cap, by simp, by simpa using hl, by simp, (fun h => by cases h), fun y hy j u hj => ?_⟩
    cases hy
    have hjl : j < len := by have h2 := (List.getElem?_eq_some_iff.1 hj).1; simpa using h2
    simp [hjl] at hj
    rw [← hj]
    exact hg j (by omega)
end Go.Proofs.Ytejjfpdcmaefiaa
