/- Variables of several cells, whatever they hold: how they are made, read, stored, handed back; no condition. -/
import Derived.Test.YtejjfpdcmaefiaaBase2
import Derived.Test.YtejjfpdcmaefiaaBaseM
import Derived.Deep.MidRow
import Derived.Laws.ResultCell
import Derived.Laws.Rows
namespace Go.Proofs.U
open Go.RowKit
set_option linter.unusedSimpArgs false
set_option linter.unusedVariables false

/-- Block g is a variable of type t that holds the cells cs. -/
def BxV (w : World) (g : Nat) (t : TypeId) (cs : List Value) : Prop := w.heap[g]? = some (.cells cs.toArray t (0, 0))
def onB1 (g : Nat) : Nat → Prop := fun k => k = g
theorem BxV.lt {w : World} {g : Nat} {t : TypeId} {cs : List Value} (h : BxV w g t cs) : g < w.heap.size := (Array.getElem?_eq_some_iff.mp h).1
theorem BxV.fr {S : Nat → Prop} {w w' : World} {g : Nat} {t : TypeId} {cs : List Value} (h : BxV w g t cs) (f : Fr S w w') (hs : ¬ S g) : BxV w' g t cs := (f.block g h.lt hs).trans h
theorem BxV.fr0 {w w' : World} {g : Nat} {t : TypeId} {cs : List Value} (h : BxV w g t cs) (f : Fr noB w w') : BxV w' g t cs := h.fr f (fun q => q)
theorem BxV.ne {w w' : World} {g g' : Nat} {t : TypeId} {cs : List Value} (h : BxV w g t cs) (f : Fr (onB1 g') w w') (hne : g ≠ g') : BxV w' g t cs := h.fr f (fun q => hne q)
theorem BxV.cell {w : World} {g : Nat} {t : TypeId} {cs : List Value} (h : BxV w g t cs) (i : Nat) (v : Value) (hv : cs[i]? = some v) : w.cell? ⟨g, i, none⟩ = some v ∧ w.frozen? ⟨g, i, none⟩ = false := by
  have h' : w.heap[g]? = _ := h
  constructor
  · unfold World.cell?; rw [h']; simpa using hv
  · simp [World.frozen?, h']
theorem BxV.range {w : World} {g : Nat} {t : TypeId} {cs : List Value} (h : BxV w g t cs) (o : Nat) (ds : List Value) (hd : (cs.drop o).take ds.length = ds) : w.rangeAt g o ds := by
  intro j v hj
  refine (h.cell (o + j) v ?_).1
  have hjl := (List.getElem?_eq_some_iff.1 hj).1
  have : ((cs.drop o).take ds.length)[j]? = some v := by rw [hd]; exact hj
  rw [List.getElem?_take, if_pos hjl, List.getElem?_drop] at this
  exact this
theorem BxV.thereR {w : World} {g : Nat} {t : TypeId} {cs : List Value} (h : BxV w g t cs) (o n : Nat) (hn : o + n ≤ cs.length) : w.there g o n := by
  intro j hj
  have h1 := h.cell (o + j) cs[o + j] (List.getElem?_eq_getElem (by omega))
  exact ⟨by rw [h1.1]; rfl, h1.2⟩
theorem BxV.set {w : World} {g : Nat} {t : TypeId} {cs : List Value} (h : BxV w g t cs) (i : Nat) (v : Value) : BxV (w.setCell ⟨g, i, none⟩ v) g t (cs.set i v) := by
  have h' : w.heap[g]? = _ := h
  have hlt := h.lt
  have e1 : w.heap[g] = .cells cs.toArray t (0, 0) := by
    rw [Array.getElem?_eq_getElem hlt] at h'; exact Option.some.inj h'
  show _ = _
  simp [World.setCell, Array.getElem_modify, hlt, e1]
theorem BxV.six {w : World} {g : Nat} {t : TypeId} {x0 x1 x2 x3 x4 x5 : Value} (h : BxV w g t [x0, x1, x2, x3, x4, x5]) :
    (w.cell? ⟨g, 0, none⟩ = some x0 ∧ w.cell? ⟨g, 1, none⟩ = some x1 ∧ w.cell? ⟨g, 2, none⟩ = some x2 ∧ w.cell? ⟨g, 3, none⟩ = some x3 ∧ w.cell? ⟨g, 4, none⟩ = some x4 ∧ w.cell? ⟨g, 5, none⟩ = some x5) :=
  ⟨(h.cell 0 _ rfl).1, (h.cell 1 _ rfl).1, (h.cell 2 _ rfl).1, (h.cell 3 _ rfl).1, (h.cell 4 _ rfl).1, (h.cell 5 _ rfl).1⟩
theorem setCells_fr1 (w : World) (g : Nat) (vs : List Value) : ∀ o, Fr (onB1 g) w (w.setCells g o vs) := by
  induction vs generalizing w with
  | nil => intro o; exact Fr.refl _ _
  | cons v vs ih =>
    intro o
    exact ((Fr.refl (onB1 g) w).setCell ⟨g, o, none⟩ v (fun _ => rfl)).trans (ih (w.setCell ⟨g, o, none⟩ v) (o + 1))
/-- ds in the place of as many cells, from o on. -/
def putAt (cs : List Value) (o : Nat) (ds : List Value) : List Value := cs.take o ++ ds ++ cs.drop (o + ds.length)
theorem putAt_nil (cs : List Value) (o : Nat) : putAt cs o [] = cs := by simp [putAt]
theorem putAt_cons (cs : List Value) (o : Nat) (v : Value) (ds : List Value) (h : o < cs.length) : putAt (cs.set o v) (o + 1) ds = putAt cs o (v :: ds) := by
  unfold putAt
  rw [List.take_succ_eq_append_getElem (by simpa using h), List.take_set_of_le (Nat.le_refl _)]
  simp
  rw [List.drop_set_of_lt (by omega)]
  congr 1; omega
theorem putAt_all (cs ds : List Value) (h : ds.length = cs.length) : putAt cs 0 ds = ds := by simp [putAt, h]
theorem setCells_bx {g : Nat} {t : TypeId} (ds : List Value) : ∀ (o : Nat) (w : World) (cs : List Value), BxV w g t cs → o + ds.length ≤ cs.length → BxV (w.setCells g o ds) g t (putAt cs o ds) := by
  induction ds with
  | nil => intro o w cs h _; rw [putAt_nil]; exact h
  | cons v ds ih =>
    intro o w cs h hl
    simp at hl
    have := ih (o + 1) _ (cs.set o v) (h.set o v) (by simp; omega)
    rw [putAt_cons cs o v ds (by omega)] at this
    exact this

section
variable {P : Program} {w : World} {ops : Array Oper} {rest : List Oper} {o : Oper} {a : Act} {Q : Exit → Act → World → Prop}
theorem at_wpP {l : List Oper} (h : wpList P ops Q l a w) : wpList P ops Q l a w := h

theorem at_st (t : TypeId) (x y : Operand) (_ho : o.op = .store t x y) (h : wpList P ops Q (o :: rest) a w) : wpList P ops Q (o :: rest) a w := h
theorem at_ld (t : TypeId) (x : Operand) (_ho : o.op = .load t x) (h : wpList P ops Q (o :: rest) a w) : wpList P ops Q (o :: rest) a w := h
/-- A new variable: its block is a letter. -/
theorem wpList_allocV (hgd : Region.wanted o (yielded ops a.tmps) = true) (t : TypeId) (ho : o.op = .alloc t) (zs : List Value) (hz : (P.info? t).map (·.zero) = some (some (.agg zs.toArray)))
    (h : ∀ g w', Hid (g = w.heap.size) → BxV w' g t zs → Fr noB w w' → w.heap.size ≤ g → wpList P ops Q rest (a.put o.dst (.pointer (some ⟨g, 0, none⟩))) w') : wpList P ops Q (o :: rest) a w := by
  refine wpList_wanted hgd fun K hK => ?_
  obtain ⟨i, hi, hz'⟩ := Option.map_eq_some_iff.1 hz
  unfold Oper.wp
  have hrun : (execOp a.eval o).run P w = .ok (.value (.pointer (some ⟨w.heap.size, 0, none⟩))) (w.alloc (.cells zs.toArray t)) := by
    simp [execOp, ho, go_sem, zeroValue, typeInfo, hi, hz', Value.cells]
  rw [hrun]
  refine hK _ _ (h w.heap.size _ rfl ?_ ((Fr.refl _ _).alloc _) (Nat.le_refl _))
  show (w.heap.push _)[w.heap.size]? = _
  rw [Array.getElem?_push, if_pos rfl]

/-- An argument's own variable. -/
theorem wpList_boxV (hgd : Region.wanted o (yielded ops a.tmps) = true) (t : TypeId) (x : Operand) (ho : o.op = .box t x) (cs : List Value) (hx : a.eval x = .agg cs.toArray)
    (h : ∀ g w', Hid (g = w.heap.size) → BxV w' g t cs → Fr noB w w' → w.heap.size ≤ g → wpList P ops Q rest (a.put o.dst (.pointer (some ⟨g, 0, none⟩))) w') : wpList P ops Q (o :: rest) a w := by
  refine wpList_wanted hgd fun K hK => ?_
  have hrun : (execOp a.eval o).run P w = .ok (.value (.pointer (some ⟨w.heap.size, 0, none⟩))) (w.alloc (.cells cs.toArray t)) := by
    simp only [execOp, ho, hx]
    simp [go_sem, Value.cells]
  unfold Oper.wp
  rw [hrun]
  refine hK _ _ (h w.heap.size _ rfl ?_ ((Fr.refl _ _).alloc _) (Nat.le_refl _))
  show (w.heap.push _)[w.heap.size]? = _
  rw [Array.getElem?_push, if_pos rfl]

/-- A whole variable read. -/
theorem wpList_loadV (hgd : o.guard = none) (t : TypeId) (x : Operand) (ho : o.op = .load t x) (g off : Nat) (hx : a.eval x = .pointer (some ⟨g, off, none⟩)) (t' : TypeId) (cs ds : List Value) (d : TypeDesc) (hA : BxV w g t' cs)
    (hu : P.underlying t = some d) (hd : d.isRow = true) (hi : (P.info? t).map (·.size) = some ds.length) (hds : (cs.drop off).take ds.length = ds)
    (h : wpList P ops Q rest (a.put o.dst (.agg ds.toArray)) w) : wpList P ops Q (o :: rest) a w :=
  wpList_load_mid hgd t x ho g off hx ds d (hA.range off ds hds) hu hd hi h

/-- A value stored into a variable, from off on. -/
theorem wpList_storeV (hgd : o.guard = none) (t : TypeId) (x y : Operand) (ho : o.op = .store t x y) (g off : Nat) (hx : a.eval x = .pointer (some ⟨g, off, none⟩)) (ds : List Value) (hy : a.eval y = .agg ds.toArray) (t' : TypeId) (cs : List Value) (hA : BxV w g t' cs)
    (hi : (P.info? t).map (·.size) = some ds.length) (hl : off + ds.length ≤ cs.length) (h1 : ∀ v ∈ ds, v.oneCell' = true)
    (h : ∀ w', BxV w' g t' (putAt cs off ds) → Fr (onB1 g) w w' → wpList P ops Q rest (a.put o.dst undef) w') : wpList P ops Q (o :: rest) a w := by
  refine wpList_store_mid hgd t x y ho g off ds.toArray hx hy (by simpa using hA.thereR off ds.length hl) (by simpa using hi) (all_oneCell_toArray h1) (h _ ?_ ?_)
  · exact setCells_bx ds off w cs hA hl
  · exact setCells_fr1 w g _ off

/-- One cell stored into a variable. -/
theorem wpList_store1 (hgd : o.guard = none) (t : TypeId) (x y : Operand) (ho : o.op = .store t x y) (g off : Nat) (hx : a.eval x = .pointer (some ⟨g, off, none⟩)) (v : Value) (hy : a.eval y = v) (hv : v.oneCell' = true) (t' : TypeId) (cs : List Value) (hA : BxV w g t' cs)
    (hi : (P.info? t).map (·.size) = some 1) (hl : off < cs.length)
    (h : ∀ w', BxV w' g t' (cs.set off v) → Fr (onB1 g) w w' → wpList P ops Q rest (a.put o.dst undef) w') : wpList P ops Q (o :: rest) a w := by
  refine wpList_wanted (by simp [Region.wanted, hgd]) fun K hK => ?_
  obtain ⟨i, hii, hs⟩ := Option.map_eq_some_iff.1 hi
  have hc := hA.cell off cs[off] (List.getElem?_eq_getElem hl)
  have hst : (Instr.storeAt t (.pointer (some ⟨g, off, none⟩)) v).run P w = .ok () (w.setCell ⟨g, off, none⟩ v) := by
    cases v with
    | agg cs => simp [Value.oneCell'] at hv
    | _ =>
      have hrs := run_store P w ⟨g, off, none⟩ _ .plain hv
      first
        | (simp [Instr.storeAt, Instr.sureAddr, storeVar, sizeOf, typeInfo, hii, hs, Value.cells, go_sem, hc.1, hc.2]; done)
        | (simp [Instr.storeAt, Instr.sureAddr, storeVar, sizeOf, typeInfo, hii, hs, Value.cells, go_sem, hc.1, hc.2, hrs]; done)
        | (simp [Instr.storeAt, Instr.sureAddr, storeVar, sizeOf, typeInfo, hii, hs, Value.cells, go_sem]; rw [hrs]; simp [hc.1, hc.2])
  unfold Oper.wp execOp
  simp only [ho, hx, hy, Sem.run_bind, hst, Result.andThen_ok]
  exact hK _ _ (h _ (hA.set off v) (Fr.setCell (S := onB1 g) (Fr.refl _ _) _ _ (fun _ => rfl)))
end
end Go.Proofs.U
