/- Arrays of 32 bools in memory: laws of the walk; no condition. -/
import Derived.Test.YtaaiockknpeglaaC4
import Derived.Deep.MidRow
namespace Go.Proofs.Ytaaiockknpeglaa
open Go.RowKit Go.Proofs.U
set_option linter.unusedSimpArgs false
set_option linter.unusedVariables false

def bv (bs : List Bool) : Array Value := (bs.map Value.bool).toArray
/-- block g holds the bools bs. -/
def Arr (w : World) (g : Nat) (bs : List Bool) : Prop := ∃ t, w.heap[g]? = some (.cells (bv bs) t (0, 0))
def onG (g : Nat) : Nat → Prop := fun k => k = g

theorem bv_size (bs : List Bool) : (bv bs).size = bs.length := by simp [bv]
theorem Arr.fr {S : Nat → Prop} {w w' : World} {g : Nat} {bs : List Bool} (h : Arr w g bs) (hf : Fr S w w') (hs : ¬ S g) : Arr w' g bs := by
  obtain ⟨t, ht⟩ := h
  exact ⟨t, (hf.block g (Array.getElem?_eq_some_iff.1 ht).1 hs).trans ht⟩
theorem Arr.lt {w : World} {g : Nat} {bs : List Bool} (h : Arr w g bs) : g < w.heap.size := by obtain ⟨t, ht⟩ := h; exact (Array.getElem?_eq_some_iff.1 ht).1
theorem Arr.cell {w : World} {g : Nat} {bs : List Bool} (h : Arr w g bs) (i : Nat) (hi : i < bs.length) : w.cell? ⟨g, i, none⟩ = some (.bool (bs.getD i false)) ∧ w.frozen? ⟨g, i, none⟩ = false := by
  obtain ⟨t, ht⟩ := h
  have hc : (bv bs)[i]? = some (.bool (bs.getD i false)) := by simp [bv, List.getD, hi]
  constructor
  · unfold World.cell?; rw [ht]; exact hc
  · simp [World.frozen?, ht]
theorem Arr.set {w : World} {g : Nat} {bs : List Bool} (h : Arr w g bs) (i : Nat) (b : Bool) : Arr (w.setCell ⟨g, i, none⟩ (.bool b)) g (bs.set i b) := by
  obtain ⟨t, ht⟩ := h
  refine ⟨t, ?_⟩
  rw [heap_setCell_same w g i (bv bs) t (.bool b) ht]
  congr 2
  apply Array.ext'
  simp [bv, List.map_set]
theorem Fr.setG {S : Nat → Prop} {a w : World} (h : Fr S a w) (g i : Nat) (v : Value) (hg : g < a.heap.size → S g) : Fr S a (w.setCell ⟨g, i, none⟩ v) := h.setCell _ _ hg
theorem setCells_fr (w : World) (g : Nat) (vs : List Value) : ∀ o, Fr (onG g) w (w.setCells g o vs) := by
  induction vs generalizing w with
  | nil => intro o; exact Fr.refl _ _
  | cons v vs ih =>
    intro o
    exact ((Fr.refl (onG g) w).setCell ⟨g, o, none⟩ v (fun _ => rfl)).trans (ih (w.setCell ⟨g, o, none⟩ v) (o + 1))
theorem setCells_heap (g : Nat) (t : TypeId) (vs : List Value) : ∀ (o : Nat) (w : World) (C : Array Value), w.heap[g]? = some (.cells C t (0, 0)) → o + vs.length = C.size →
    (w.setCells g o vs).heap[g]? = some (.cells ((C.toList.take o) ++ vs).toArray t (0, 0)) := by
  induction vs with
  | nil => intro o w C h hs; rw [World.setCells, h]; simp at hs; rw [List.append_nil, List.take_of_length_le (by simp; omega)]
  | cons v vs ih =>
    intro o w C h hs
    simp at hs
    rw [World.setCells, ih (o + 1) _ (C.setIfInBounds o v) (heap_setCell_same w g o C t v h) (by simp; omega)]
    congr 3
    rw [Array.toList_setIfInBounds, List.take_succ_eq_append_getElem (by simp; omega)]
    simp
    rw [List.take_set_of_le (by omega)]

section
variable {w : World} {ops : Array Oper} {rest : List Oper} {o : Oper} {a : Act} {Q : Exit → Act → World → Prop}

theorem info39 : (Try.prog.info? 39).map (·.size) = some 32 := by kernel_rfl
theorem built39 : Try.prog.built 39 [] = some (bv (List.replicate 32 false)) := by kernel_rfl
theorem zero39 : (Try.prog.info? 39).map (·.zero) = some (some (.agg (bv (List.replicate 32 false)))) := by kernel_rfl

theorem wpList_build32 (hgd : Region.wanted o (yielded ops a.tmps) = true) (ho : o.op = .build 39 #[])
    (h : ∀ bs, Hid (bs = List.replicate 32 false) → wpList Try.prog ops Q rest (a.put o.dst (.agg (bv bs))) w) : wpList Try.prog ops Q (o :: rest) a w := by
  refine wpList_wanted hgd fun K hK => ?_
  have hrun := run_build (P := Try.prog) w 39 #[] _ built39
  unfold Oper.wp
  simp [execOp, ho, hrun, Result.andThen]
  exact hK _ _ (h _ rfl)

theorem wpList_load32 (hgd : o.guard = none) (x : Operand) (ho : o.op = .load 39 x) (g : Nat) (hx : a.eval x = .pointer (some ⟨g, 0, none⟩)) (bs : List Bool) (hA : Arr w g bs) (hl : bs.length = 32)
    (h : wpList Try.prog ops Q rest (a.put o.dst (.agg (bv bs))) w) : wpList Try.prog ops Q (o :: rest) a w := by
  refine wpList_load_mid hgd 39 x ho g 0 hx (bs.map Value.bool) _ ?_ Try.underlying39 rfl (by rw [info39]; simp [hl]) h
  intro j v hj
  rw [Nat.zero_add]
  have hjl : j < bs.length := by have := (List.getElem?_eq_some_iff.1 hj).1; simpa using this
  rw [(hA.cell j hjl).1]
  simp [hjl] at hj
  simp [List.getD, hjl, hj]

theorem wpList_store32 (hgd : o.guard = none) (x y : Operand) (ho : o.op = .store 39 x y) (g : Nat) (hx : a.eval x = .pointer (some ⟨g, 0, none⟩)) (bs cs : List Bool) (hy : a.eval y = .agg (bv cs)) (hA : Arr w g bs) (hl : bs.length = 32) (hc : cs.length = 32)
    (h : ∀ w', Arr w' g cs → Fr (onG g) w w' → w'.heap.size = w.heap.size → wpList Try.prog ops Q rest (a.put o.dst undef) w') : wpList Try.prog ops Q (o :: rest) a w := by
  refine wpList_store_mid hgd 39 x y ho g 0 (bv cs) hx hy ?_ (by rw [info39, bv_size, hc]) ?_ (h _ ?_ (setCells_fr w g _ 0) ?_)
  · intro j hj
    rw [bv_size] at hj
    have := hA.cell j (by omega)
    rw [Nat.zero_add, this.1]
    exact ⟨rfl, this.2⟩
  · unfold bv
    refine all_oneCell_toArray ?_
    intro v hv
    simp at hv
    rcases hv with ⟨_, rfl⟩ | ⟨_, rfl⟩ <;> rfl
  · obtain ⟨t, ht⟩ := hA
    refine ⟨t, ?_⟩
    rw [setCells_heap g t _ 0 w _ ht (by simp [bv, hl, hc])]
    simp [bv]
  · have : ∀ (vs : List Value) (o : Nat) (w : World), (w.setCells g o vs).heap.size = w.heap.size := by
      intro vs
      induction vs with
      | nil => intro o w; rfl
      | cons v vs ih => intro o w; rw [World.setCells, ih]; simp [World.setCell]
    exact this _ _ _

theorem wpList_index32 (hgd : o.guard = none) (x y : Operand) (ho : o.op = .index 39 x y) (bs : List Bool) (hx : a.eval x = .agg (bv bs)) (hl : bs.length = 32) (i : Nat) (hy : a.eval y = .int .i64 (i : Int)) (hi : i < 32)
    (h : wpList Try.prog ops Q rest (a.put o.dst (.bool (bs.getD i false))) w) : wpList Try.prog ops Q (o :: rest) a w := by
  refine wpList_plain hgd fun K hK => ?_
  have hc : (bv bs)[i]? = some (.bool (bs.getD i false)) := by simp [bv, List.getD, hl, hi]
  have hrun : (Instr.index 39 (.agg (bv bs)) (.int .i64 (i : Int))).run Try.prog w = .ok (.bool (bs.getD i false)) w := by
    have a4 := Try.isAgg4
    have z4 := Try.sizeOf4
    have h2 : (0 : Int) ≤ (i : Int) ∧ (i : Int) < (32 : Nat) := by omega
    simp [Instr.index, asIntOf, run_underlying Try.underlying39, h2, z4, part, a4, hc, go_sem]
    intro hh; omega
  unfold Oper.wp
  simp [execOp, ho, hx, hy, hrun, Result.andThen]
  exact hK _ _ h

theorem wpList_alloc32 (hgd : Region.wanted o (yielded ops a.tmps) = true) (ho : o.op = .alloc 39) (g : Nat) (hg : w.heap.size = g)
    (h : ∀ w', Arr w' g (List.replicate 32 false) → Fr noB w w' → wpList Try.prog ops Q rest (a.put o.dst (.pointer (some ⟨g, 0, none⟩))) w') : wpList Try.prog ops Q (o :: rest) a w := by
  refine wpList_wanted hgd fun K hK => ?_
  subst hg
  obtain ⟨i, hi, hz⟩ := Option.map_eq_some_iff.1 zero39
  have hrun : (Instr.alloc 39 true (.tuple #[])).run Try.prog w = .ok (.pointer (some ⟨w.heap.size, 0, none⟩)) (w.alloc (.cells (bv (List.replicate 32 false)) 39)) := by
    simp [Instr.alloc, zeroValue, typeInfo, hi, hz, newVar, go_sem]
  unfold Oper.wp
  simp [execOp, ho, hrun, Result.andThen]
  refine hK _ _ (h _ ⟨39, ?_⟩ ((Fr.refl _ _).alloc _))
  show (w.heap.push _)[w.heap.size]? = _
  simp
end
end Go.Proofs.Ytaaiockknpeglaa
