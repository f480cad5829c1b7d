/- Rows of one's own, of one cell an element, that begin somewhere in their block: cut from the left, and appended to. -/
import Derived.Test.YtejjfpdcmaefiaaK12
namespace Go.Proofs.U
open Go.RowKit
set_option linter.unusedSimpArgs false
set_option linter.unusedVariables false
/-- v is a row in block b, from some cell on to the block's end. -/
def OwnT (e : TypeId) (w : World) (b : Nat) (v : Value) (xs : List Value) : Prop :=
  ∃ o cap cur, v = .slice (some ⟨b, o, none⟩) xs.length cap ∧ w.heap[b]? = some (.cells cur e (0, 0)) ∧ xs.length ≤ cap ∧ cap ≤ maxLen ∧ cur.size = o + cap ∧ (cur.toList.drop o).take xs.length = xs
section
variable {e : TypeId} {w w' : World} {b : Nat} {v : Value} {xs : List Value} {S : Nat → Prop} {P : Program}
theorem OwnT.lt (h : OwnT e w b v xs) : b < w.heap.size := by
  obtain ⟨o, cap, cur, _, h, _⟩ := h
  exact (Array.getElem?_eq_some_iff.mp h).1
theorem OwnT.fr (h : OwnT e w b v xs) (f : Fr S w w') (hs : ¬ S b) : OwnT e w' b v xs := by
  have hl := h.lt
  obtain ⟨o, cap, cur, h1, h2, h3⟩ := h
  exact ⟨o, cap, cur, h1, (f.block b hl hs).trans h2, h3⟩
theorem OwnT.opn (h : OwnT e w b v xs) : ∃ o cap, v = .slice (some ⟨b, o, none⟩) xs.length cap := by
  obtain ⟨o, cap, cur, h1, _⟩ := h
  exact ⟨o, cap, h1⟩
theorem OwnT.blk (h : OwnT e w b v xs) : ∃ cur, w.heap[b]? = some (.cells cur e (0, 0)) := by
  obtain ⟨o, cap, cur, _, h2, _⟩ := h
  exact ⟨cur, h2⟩
theorem OwnT.cellsAt {o cap n : Nat} (h : OwnT e w b (.slice (some ⟨b, o, none⟩) n cap) xs) : ∀ j u, xs[j]? = some u → w.cell? ((⟨b, o, none⟩ : Addr).add j) = some u := by
  obtain ⟨o', cap', cur, h1, h2, h3, h4, h5, h6⟩ := h
  obtain ⟨rfl, _, _⟩ : o = o' ∧ n = xs.length ∧ cap = cap' := by simpa using h1
  intro j u hj
  have hadd : (⟨b, o, none⟩ : Addr).add j = ⟨b, o + j, none⟩ := by unfold Addr.add; split <;> simp_all
  rw [hadd, cell_of_row w b (o + j) cur e (0, 0) h2]
  rw [← h6, List.getElem?_take] at hj
  split at hj
  · rw [List.getElem?_drop] at hj; simpa using hj
  · cases hj
theorem OwnT.sl (h : OwnT e w b v xs) : Sl w 1 v xs.length xs := by
  obtain ⟨o, cap, rfl⟩ := h.opn
  have hc := h.cellsAt
  obtain ⟨o', cap', cur, h1, h2, h3, _⟩ := h
  obtain ⟨_, rfl⟩ : o = o' ∧ cap = cap' := by simpa using h1
  exact ⟨some ⟨b, o, none⟩, cap, rfl, h3, by simp, (fun h => by cases h), fun x hx => by cases hx; exact hc⟩
theorem OwnT.cutL {o cap n : Nat} (h : OwnT e w b (.slice (some ⟨b, o, none⟩) n cap) xs) (i : Nat) (hi : i < xs.length) : OwnT e w b (.slice (some ⟨b, o + i, none⟩) (n - i) (cap - i)) (xs.drop i) := by
  obtain ⟨o', cap', cur, h1, h2, h3, h4, h5, h6⟩ := h
  obtain ⟨rfl, rfl, rfl⟩ : o = o' ∧ n = xs.length ∧ cap = cap' := by simpa using h1
  refine ⟨o + i, cap - i, cur, by simp, h2, by simp; omega, by omega, by omega, ?_⟩
  have e1 : (cur.toList.drop o).take xs.length = xs := h6
  have e2 : xs.drop i = ((cur.toList.drop o).take xs.length).drop i := by rw [e1]
  rw [List.drop_take, List.drop_drop] at e2
  rw [e2]
  simp only [List.length_take, List.length_drop, Array.length_toList]
  congr 1
  omega
theorem OwnT.made (w : World) (x : Value) (e : TypeId) : OwnT e (w.alloc (.cells #[x] e)) w.heap.size (.slice (some ⟨w.heap.size, 0, none⟩) 1 1) [x] :=
  ⟨0, 1, #[x], rfl, heap_alloc_new w _, by simp, by unfold maxLen; decide, by simp, by simp⟩

theorem run_cutL (t : TypeId) (ht : P.underlying t = some (.slice e)) (hsz : (P.info? e).map (·.size) = some 1) (o cap n i : Nat) (hi : i < n) (hn : n ≤ cap) (w : World) :
    (Instr.sliceAt t (.slice (some ⟨b, o, none⟩) n cap) (some (.int .i64 (i : Int))) none none).run P w = .ok (.slice (some ⟨b, o + i, none⟩) (n - i) (cap - i)) w := by
  obtain ⟨ii, hinf, hsz'⟩ := Option.map_eq_some_iff.1 hsz
  have hne : ¬ cap = i := by omega
  have hin : i ≤ n := by omega
  have hnc : ¬ cap < n := by omega
  simp [Instr.sliceAt, Instr.slice, Instr.sliceBounds, Instr.sliceBound, asIntOf, run_underlying ht, sizeOf, typeInfo, hinf, hsz', go_sem, hne, Addr.plain, hin, hnc]
  try omega

theorem run_append_T (t ty : TypeId) (i : TypeInfo) (z : Value) (ht : P.underlying t = some (.slice e)) (hi : P.info? e = some i) (hz : i.zero = some z) (hs1 : i.size = 1) (hb1 : i.bytes = 1) (hzs : z.cells.size = 1)
    (hO : OwnT e w b v xs) (g : Nat) (x : Value) (hx : w.cell? ⟨g, 0, none⟩ = some x) (h1 : x.oneCell' = true) (hl : xs.length ≤ 100000) :
    ∃ v' w' b', (Builtin.append_ #[t, t] ty #[v, .slice (some ⟨g, 0, none⟩) 1 1]).run P w = .ok v' w' ∧ OwnT e w' b' v' (xs ++ [x]) ∧ Fr (onB1 b) w w' ∧ (b' = b ∨ w.heap.size ≤ b') := by
  obtain ⟨o, cap, rfl⟩ := hO.opn
  have holds := hO.cellsAt
  obtain ⟨o', cap', cur, hv, h2, h3, h4, h5, h6⟩ := hO
  obtain ⟨rfl, rfl⟩ : o = o' ∧ cap = cap' := by simpa using hv
  have hnews : ∀ j u, [x][j]? = some u → w.cell? ((⟨g, 0, none⟩ : Addr).add j) = some u := by
    intro j u hj
    cases j with
    | zero => simp at hj; subst hj; exact hx
    | succ j => simp at hj
  by_cases hroom : xs.length + 1 ≤ cap
  · have hf := run_firstCells_some (P := P) w i.size 1 ⟨g, 0, none⟩ 1 1 [x] (by simp [hs1]) hnews
    have hst := run_storeCells_at P b (o + xs.length) e [x] 0 cur w h2 (by simp; omega) (by simpa using h1)
    simp only [Nat.add_zero] at hst
    have hadd : (⟨b, o, none⟩ : Addr).add (xs.length * i.size) = ⟨b, o + xs.length, none⟩ := by rw [hs1, Nat.mul_one]; unfold Addr.add; split <;> simp_all
    refine ⟨.slice (some ⟨b, o, none⟩) (xs.length + 1) cap, w.setRow b (cur.toList.take (o + xs.length) ++ [x] ++ cur.toList.drop (o + xs.length + [x].length)).toArray, b, ?_, ⟨o, cap, _, by simp, setRow_heap w b cur _ e _ h2, by simpa using hroom, h4, ?_, ?_⟩, ⟨rfl, rfl, rfl, by simp, fun k _ hk => setRow_other w b k _ (fun e => hk e)⟩, Or.inl rfl⟩
    · simp [Builtin.append_, run_underlying ht, sizeOf, typeInfo, hi, Builtin.lenOf, hroom, hf, hadd, hst]
    · simp only [List.size_toArray, List.length_append, List.length_take, List.length_drop, Array.length_toList, List.length_singleton]
      omega
    · have e1 : (cur.toList.take (o + xs.length)).drop o = xs := by rw [List.drop_take]; simpa using h6
      have e2 : (cur.toList.take (o + xs.length)).length = o + xs.length := by simp; omega
      simp only [List.append_assoc]
      rw [List.drop_append_of_le_length (by omega), e1, ← List.append_assoc]
      exact List.take_left
  · have hr := run_append_grow (P := P) w t ty e i z ht hi hz ⟨b, o, none⟩ xs.length cap xs (by simp [hs1]) holds ⟨g, 0, none⟩ 1 1 [x] (by simp [hs1]) hnews (by omega) (by omega) (growslice_fits (by omega) (by rw [hb1]; omega))
    have hge := grownCap_ge w (xs.length + 1) cap e
    have hcm : grownCap w (xs.length + 1) cap e ≤ maxLen := grownCap_le_maxLen w (xs.length + 1) cap e (by unfold maxLen; omega)
    refine ⟨_, _, w.heap.size, hr, ⟨0, _, _, by simp, heap_alloc_new w.drew _, by simpa using hge, hcm, ?_, ?_⟩, ⟨rfl, rfl, rfl, by simp, fun k hk _ => heap_alloc_old w.drew _ hk⟩, Or.inr (Nat.le_refl _)⟩
    · simp only [Array.size_append, List.size_toArray, size_zeroCells, hzs, List.length_singleton]
      omega
    · simp only [Array.toList_append, List.append_assoc, List.drop_zero]
      rw [← List.append_assoc]
      exact List.take_left
end
end Go.Proofs.U
