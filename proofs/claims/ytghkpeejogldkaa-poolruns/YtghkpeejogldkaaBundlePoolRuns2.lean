/- Texts PG, Y1, P1, P2, Base3, P3, P4, OR, P5, BD, P6 of the proof of PoolRuns, one behind the other. -/
import Derived.Deep.MidRow
import Derived.Laws.ResultCell
import Derived.Laws.Rows
import Derived.Lib.SliceRun
import Derived.Test.YtghkpeejogldkaaRows
import Derived.Laws.ShiftsVarLaws
import Derived.Laws.Tables
import Derived.Test.YtghkpeejogldkaaBundlePoolRuns1
/- Variables of several cells, whatever they hold: how they are made, read, stored, handed back; no condition. -/
namespace Go.Proofs.U
open Go.RowKit
set_option linter.unusedSimpArgs false
set_option linter.unusedVariables false

/-- Block g is a variable of type t that holds the cells cs. -/
def BxV (w : World) (g : Nat) (t : TypeId) (cs : List Value) : Prop := w.heap[g]? = some (.cells cs.toArray t (0, 0))
def onB1 (g : Nat) : Nat → Prop := fun k => k = g
theorem BxV.lt {w : World} {g : Nat} {t : TypeId} {cs : List Value} (h : BxV w g t cs) : g < w.heap.size := (Array.getElem?_eq_some_iff.mp h).1
theorem BxV.fr {S : Nat → Prop} {w w' : World} {g : Nat} {t : TypeId} {cs : List Value} (h : BxV w g t cs) (f : Fr S w w') (hs : ¬ S g) : BxV w' g t cs := (f.block g h.lt hs).trans h
theorem BxV.fr0 {w w' : World} {g : Nat} {t : TypeId} {cs : List Value} (h : BxV w g t cs) (f : Fr noB w w') : BxV w' g t cs := h.fr f (fun q => q)
theorem BxV.ne {w w' : World} {g g' : Nat} {t : TypeId} {cs : List Value} (h : BxV w g t cs) (f : Fr (onB1 g') w w') (hne : g ≠ g') : BxV w' g t cs := h.fr f (fun q => hne q)
theorem BxV.cell {w : World} {g : Nat} {t : TypeId} {cs : List Value} (h : BxV w g t cs) (i : Nat) (v : Value) (hv : cs[i]? = some v) : w.cell? ⟨g, i, none⟩ = some v ∧ w.frozen? ⟨g, i, none⟩ = false := by
  have h' : w.heap[g]? = _ := h
  constructor
  · unfold World.cell?; rw [h']; simpa using hv
  · simp [World.frozen?, h']
theorem BxV.range {w : World} {g : Nat} {t : TypeId} {cs : List Value} (h : BxV w g t cs) (o : Nat) (ds : List Value) (hd : (cs.drop o).take ds.length = ds) : w.rangeAt g o ds := by
  intro j v hj
  refine (h.cell (o + j) v ?_).1
  have hjl := (List.getElem?_eq_some_iff.1 hj).1
  have : ((cs.drop o).take ds.length)[j]? = some v := by rw [hd]; exact hj
  rw [List.getElem?_take, if_pos hjl, List.getElem?_drop] at this
  exact this
theorem BxV.thereR {w : World} {g : Nat} {t : TypeId} {cs : List Value} (h : BxV w g t cs) (o n : Nat) (hn : o + n ≤ cs.length) : w.there g o n := by
  intro j hj
  have h1 := h.cell (o + j) cs[o + j] (List.getElem?_eq_getElem (by omega))
  exact ⟨by rw [h1.1]; rfl, h1.2⟩
theorem BxV.set {w : World} {g : Nat} {t : TypeId} {cs : List Value} (h : BxV w g t cs) (i : Nat) (v : Value) : BxV (w.setCell ⟨g, i, none⟩ v) g t (cs.set i v) := by
  have h' : w.heap[g]? = _ := h
  have hlt := h.lt
  have e1 : w.heap[g] = .cells cs.toArray t (0, 0) := by
    rw [Array.getElem?_eq_getElem hlt] at h'; exact Option.some.inj h'
  show _ = _
  simp [World.setCell, Array.getElem_modify, hlt, e1]
theorem BxV.six {w : World} {g : Nat} {t : TypeId} {x0 x1 x2 x3 x4 x5 : Value} (h : BxV w g t [x0, x1, x2, x3, x4, x5]) :
    (w.cell? ⟨g, 0, none⟩ = some x0 ∧ w.cell? ⟨g, 1, none⟩ = some x1 ∧ w.cell? ⟨g, 2, none⟩ = some x2 ∧ w.cell? ⟨g, 3, none⟩ = some x3 ∧ w.cell? ⟨g, 4, none⟩ = some x4 ∧ w.cell? ⟨g, 5, none⟩ = some x5) :=
  ⟨(h.cell 0 _ rfl).1, (h.cell 1 _ rfl).1, (h.cell 2 _ rfl).1, (h.cell 3 _ rfl).1, (h.cell 4 _ rfl).1, (h.cell 5 _ rfl).1⟩
theorem setCells_fr1 (w : World) (g : Nat) (vs : List Value) : ∀ o, Fr (onB1 g) w (w.setCells g o vs) := by
  induction vs generalizing w with
  | nil => intro o; exact Fr.refl _ _
  | cons v vs ih =>
    intro o
    exact ((Fr.refl (onB1 g) w).setCell ⟨g, o, none⟩ v (fun _ => rfl)).trans (ih (w.setCell ⟨g, o, none⟩ v) (o + 1))
/-- ds in the place of as many cells, from o on. -/
def putAt (cs : List Value) (o : Nat) (ds : List Value) : List Value := cs.take o ++ ds ++ cs.drop (o + ds.length)
theorem putAt_nil (cs : List Value) (o : Nat) : putAt cs o [] = cs := by simp [putAt]
theorem putAt_cons (cs : List Value) (o : Nat) (v : Value) (ds : List Value) (h : o < cs.length) : putAt (cs.set o v) (o + 1) ds = putAt cs o (v :: ds) := by
  unfold putAt
  rw [List.take_succ_eq_append_getElem (by simpa using h), List.take_set_of_le (Nat.le_refl _)]
  simp
  rw [List.drop_set_of_lt (by omega)]
  congr 1; omega
theorem putAt_all (cs ds : List Value) (h : ds.length = cs.length) : putAt cs 0 ds = ds := by simp [putAt, h]
theorem setCells_bx {g : Nat} {t : TypeId} (ds : List Value) : ∀ (o : Nat) (w : World) (cs : List Value), BxV w g t cs → o + ds.length ≤ cs.length → BxV (w.setCells g o ds) g t (putAt cs o ds) := by
  induction ds with
  | nil => intro o w cs h _; rw [putAt_nil]; exact h
  | cons v ds ih =>
    intro o w cs h hl
    simp at hl
    have := ih (o + 1) _ (cs.set o v) (h.set o v) (by simp; omega)
    rw [putAt_cons cs o v ds (by omega)] at this
    exact this

section
variable {P : Program} {w : World} {ops : Array Oper} {rest : List Oper} {o : Oper} {a : Act} {Q : Exit → Act → World → Prop}
theorem at_wpP {l : List Oper} (h : wpList P ops Q l a w) : wpList P ops Q l a w := h

theorem at_st (t : TypeId) (x y : Operand) (_ho : o.op = .store t x y) (h : wpList P ops Q (o :: rest) a w) : wpList P ops Q (o :: rest) a w := h
theorem at_ld (t : TypeId) (x : Operand) (_ho : o.op = .load t x) (h : wpList P ops Q (o :: rest) a w) : wpList P ops Q (o :: rest) a w := h
/-- A new variable: its block is a letter. -/
theorem wpList_allocV (hgd : Region.wanted o (yielded ops a.tmps) = true) (t : TypeId) (ho : o.op = .alloc t) (zs : List Value) (hz : (P.info? t).map (·.zero) = some (some (.agg zs.toArray)))
    (h : ∀ g w', Hid (g = w.heap.size) → BxV w' g t zs → Fr noB w w' → w.heap.size ≤ g → wpList P ops Q rest (a.put o.dst (.pointer (some ⟨g, 0, none⟩))) w') : wpList P ops Q (o :: rest) a w := by
  refine wpList_wanted hgd fun K hK => ?_
  obtain ⟨i, hi, hz'⟩ := Option.map_eq_some_iff.1 hz
  unfold Oper.wp
  have hrun : (execOp a.eval o).run P w = .ok (.value (.pointer (some ⟨w.heap.size, 0, none⟩))) (w.alloc (.cells zs.toArray t)) := by
    simp [execOp, ho, go_sem, zeroValue, typeInfo, hi, hz', Value.cells]
  rw [hrun]
  refine hK _ _ (h w.heap.size _ rfl ?_ ((Fr.refl _ _).alloc _) (Nat.le_refl _))
  show (w.heap.push _)[w.heap.size]? = _
  rw [Array.getElem?_push, if_pos rfl]

/-- An argument's own variable. -/
theorem wpList_boxV (hgd : Region.wanted o (yielded ops a.tmps) = true) (t : TypeId) (x : Operand) (ho : o.op = .box t x) (cs : List Value) (hx : a.eval x = .agg cs.toArray)
    (h : ∀ g w', Hid (g = w.heap.size) → BxV w' g t cs → Fr noB w w' → w.heap.size ≤ g → wpList P ops Q rest (a.put o.dst (.pointer (some ⟨g, 0, none⟩))) w') : wpList P ops Q (o :: rest) a w := by
  refine wpList_wanted hgd fun K hK => ?_
  have hrun : (execOp a.eval o).run P w = .ok (.value (.pointer (some ⟨w.heap.size, 0, none⟩))) (w.alloc (.cells cs.toArray t)) := by
    simp only [execOp, ho, hx]
    simp [go_sem, Value.cells]
  unfold Oper.wp
  rw [hrun]
  refine hK _ _ (h w.heap.size _ rfl ?_ ((Fr.refl _ _).alloc _) (Nat.le_refl _))
  show (w.heap.push _)[w.heap.size]? = _
  rw [Array.getElem?_push, if_pos rfl]

/-- A whole variable read. -/
theorem wpList_loadV (hgd : o.guard = none) (t : TypeId) (x : Operand) (ho : o.op = .load t x) (g off : Nat) (hx : a.eval x = .pointer (some ⟨g, off, none⟩)) (t' : TypeId) (cs ds : List Value) (d : TypeDesc) (hA : BxV w g t' cs)
    (hu : P.underlying t = some d) (hd : d.isRow = true) (hi : (P.info? t).map (·.size) = some ds.length) (hds : (cs.drop off).take ds.length = ds)
    (h : wpList P ops Q rest (a.put o.dst (.agg ds.toArray)) w) : wpList P ops Q (o :: rest) a w :=
  wpList_load_mid hgd t x ho g off hx ds d (hA.range off ds hds) hu hd hi h

/-- A value stored into a variable, from off on. -/
theorem wpList_storeV (hgd : o.guard = none) (t : TypeId) (x y : Operand) (ho : o.op = .store t x y) (g off : Nat) (hx : a.eval x = .pointer (some ⟨g, off, none⟩)) (ds : List Value) (hy : a.eval y = .agg ds.toArray) (t' : TypeId) (cs : List Value) (hA : BxV w g t' cs)
    (hi : (P.info? t).map (·.size) = some ds.length) (hl : off + ds.length ≤ cs.length) (h1 : ∀ v ∈ ds, v.oneCell' = true)
    (h : ∀ w', BxV w' g t' (putAt cs off ds) → Fr (onB1 g) w w' → wpList P ops Q rest (a.put o.dst undef) w') : wpList P ops Q (o :: rest) a w := by
  refine wpList_store_mid hgd t x y ho g off ds.toArray hx hy (by simpa using hA.thereR off ds.length hl) (by simpa using hi) (all_oneCell_toArray h1) (h _ ?_ ?_)
  · exact setCells_bx ds off w cs hA hl
  · exact setCells_fr1 w g _ off

/-- One cell stored into a variable. -/
theorem wpList_store1 (hgd : o.guard = none) (t : TypeId) (x y : Operand) (ho : o.op = .store t x y) (g off : Nat) (hx : a.eval x = .pointer (some ⟨g, off, none⟩)) (v : Value) (hy : a.eval y = v) (hv : v.oneCell' = true) (t' : TypeId) (cs : List Value) (hA : BxV w g t' cs)
    (hi : (P.info? t).map (·.size) = some 1) (hl : off < cs.length)
    (h : ∀ w', BxV w' g t' (cs.set off v) → Fr (onB1 g) w w' → wpList P ops Q rest (a.put o.dst undef) w') : wpList P ops Q (o :: rest) a w := by
  refine wpList_wanted (by simp [Region.wanted, hgd]) fun K hK => ?_
  obtain ⟨i, hii, hs⟩ := Option.map_eq_some_iff.1 hi
  have hc := hA.cell off cs[off] (List.getElem?_eq_getElem hl)
  have hst : (Instr.storeAt t (.pointer (some ⟨g, off, none⟩)) v).run P w = .ok () (w.setCell ⟨g, off, none⟩ v) := by
    cases v with
    | agg cs => simp [Value.oneCell'] at hv
    | _ =>
      have hrs := run_store P w ⟨g, off, none⟩ _ .plain hv
      first
        | (simp [Instr.storeAt, Instr.sureAddr, storeVar, sizeOf, typeInfo, hii, hs, Value.cells, go_sem, hc.1, hc.2]; done)
        | (simp [Instr.storeAt, Instr.sureAddr, storeVar, sizeOf, typeInfo, hii, hs, Value.cells, go_sem, hc.1, hc.2, hrs]; done)
        | (simp [Instr.storeAt, Instr.sureAddr, storeVar, sizeOf, typeInfo, hii, hs, Value.cells, go_sem]; rw [hrs]; simp [hc.1, hc.2])
  unfold Oper.wp execOp
  simp only [ho, hx, hy, Sem.run_bind, hst, Result.andThen_ok]
  exact hK _ _ (h _ (hA.set off v) (Fr.setCell (S := onB1 g) (Fr.refl _ _) _ _ (fun _ => rfl)))
end
end Go.Proofs.U
/- Parts of variables: an array of elements of one cell inside a bigger variable: its element's place, itself as a slice, cleared; no condition. -/
namespace Go.Proofs.U
open Go.RowKit
set_option linter.unusedSimpArgs false
set_option linter.unusedVariables false
/-- t is an array of n elements of type e, of one cell each. -/
structure Arr1 (P : Program) (t e : TypeId) (n : Nat) : Prop where
  und : P.underlying t = some (.array n e)
  size : (P.info? e).map (·.size) = some 1
  len : P.arrayLen t = n
  elem : P.elem t = e
section
variable {P : Program} {t e : TypeId} {n : Nat}
theorem Arr1.undL (T : Arr1 P t e n) : P.underlying t = some (.array (P.arrayLen t) (P.elem t)) := by rw [T.len, T.elem]; exact T.und
theorem run_idxOff (T : Arr1 P t e n) (w : World) (g off i : Nat) (hi : i < n) (k : IntKind) : (Instr.indexAt t (.pointer (some ⟨g, off, none⟩)) (.int k (i : Int))).run P w = .ok (.pointer (some ⟨g, off + i, none⟩)) w := by
  obtain ⟨ii, hii, hs⟩ := Option.map_eq_some_iff.1 T.size
  simp [Instr.indexAt, asIntOf, run_underlying T.und, hi, sizeOf, typeInfo, hii, hs, go_sem, Addr.plain]
theorem run_allOff (T : Arr1 P t e n) (hn : 0 < n) (w : World) (g off : Nat) : (Instr.sliceAt t (.pointer (some ⟨g, off, none⟩)) none none none).run P w = .ok (.slice (some ⟨g, off, none⟩) n n) w := by
  have h := run_sliceAt_array_all (P := P) w t ⟨g, off, none⟩ T.undL
  rw [h]
  obtain ⟨ii, hii, hsz⟩ := Option.map_eq_some_iff.1 T.size
  simp only [T.elem, sizeOf, typeInfo, T.len, slicedAt]
  have h3 : ¬ (n = 0) := by omega
  simp [hii, hsz, go_sem, Addr.plain, h3]
theorem run_fromOff (T : Arr1 P t e n) (w : World) (g off i : Nat) (hi : i < n) (x : Int) (hx : x = (i : Int)) : (Instr.sliceAt t (.pointer (some ⟨g, off, none⟩)) (some (.int .i64 x)) none none).run P w = .ok (.slice (some ⟨g, off + i, none⟩) (n - i) (n - i)) w := by
  subst hx
  have h := run_sliceAt_array_l (P := P) w t ⟨g, off, none⟩ T.undL .i64 (i : Int) (by omega) (by rw [T.len]; omega)
  rw [h]
  obtain ⟨ii, hii, hsz⟩ := Option.map_eq_some_iff.1 T.size
  simp only [T.elem, sizeOf, typeInfo, T.len, slicedAt, Int.toNat_natCast]
  have h3 : ¬ (n = i) := by omega
  simp [hii, hsz, go_sem, Addr.plain, h3]
/-- A part of a variable is made zero. -/
theorem run_clearV {W : World} {g : Nat} {t' : TypeId} {cs : List Value} (hB : BxV W g t' cs) (ts e ty : TypeId) (z : Value) (ht : P.underlying ts = some (.slice e)) (hz : (P.info? e).map (·.zero) = some (some z)) (hzc : z.cells = #[z]) (h1 : z.oneCell' = true) (off n cap : Nat) (hn : 0 < n) (hl : off + n ≤ cs.length) :
    ∃ W', (Builtin.clear_ #[ts] ty #[.slice (some ⟨g, off, none⟩) n cap]).run P W = .ok (.tuple #[]) W' ∧ BxV W' g t' (putAt cs off (List.replicate n z)) ∧ Fr (onB1 g) W W' := by
  obtain ⟨ii, hii, hzz⟩ := Option.map_eq_some_iff.1 hz
  have hv : ∀ w, (zeroValue e).run P w = .ok z w := fun w => by simp [zeroValue, typeInfo, hii, hzz, go_sem]
  have hr := Lib.run_clear_slice W ts e ty z ht hv hzc h1 g off n cap hn (fun j hj => (hB.thereR off n hl j hj).1) (fun j hj => (hB.thereR off n hl j hj).2)
  refine ⟨_, hr, setCells_bx _ _ _ _ hB (by simpa using hl), setCells_fr1 _ _ _ _⟩
end
section
variable {P : Program} {t e : TypeId} {n : Nat} {w : World} {ops : Array Oper} {rest : List Oper} {o : Oper} {a : Act} {Q : Exit → Act → World → Prop}
theorem wpList_idxOff (T : Arr1 P t e n) (hgd : Region.wanted o (yielded ops a.tmps) = true) (x y : Operand) (ho : o.op = .indexAddr t x y) (g off : Nat) (hx : a.eval x = .pointer (some ⟨g, off, none⟩)) (k : IntKind) (z : Int) (i : Nat) (hy : a.eval y = .int k z) (hz : z = (i : Int)) (hi : i < n)
    (h : wpList P ops Q rest (a.put o.dst (.pointer (some ⟨g, off + i, none⟩))) w) : wpList P ops Q (o :: rest) a w := by
  refine wpList_wanted hgd fun K hK => ?_
  subst hz
  have hrun := run_idxOff T w g off i hi k
  unfold Oper.wp
  simp [execOp, ho, hx, hy, hrun, Result.andThen]
  exact hK _ _ h
theorem wpList_allOff (T : Arr1 P t e n) (hn : 0 < n) (hgd : Region.wanted o (yielded ops a.tmps) = true) (x : Operand) (ho : o.op = .slice t x none none none) (g off : Nat) (hx : a.eval x = .pointer (some ⟨g, off, none⟩))
    (h : wpList P ops Q rest (a.put o.dst (.slice (some ⟨g, off, none⟩) n n)) w) : wpList P ops Q (o :: rest) a w := by
  refine wpList_wanted hgd fun K hK => ?_
  have hr := run_allOff T hn w g off
  unfold Oper.wp
  simp [execOp, ho, hx, hr, Result.andThen]
  exact hK _ _ h
theorem at_clr (s : Operand) (t : TypeId) (_ho : o.op = .call { callee := .builtin .clear, args := #[s], argTypes := #[t] }) (h : wpList P ops Q (o :: rest) a w) : wpList P ops Q (o :: rest) a w := h
theorem wpList_clrV (hgd : o.guard = none) (s : Operand) (ts : TypeId) (ho : o.op = .call { callee := .builtin .clear, args := #[s], argTypes := #[ts] }) (g : Nat) (t' : TypeId) (cs : List Value) (hB : BxV w g t' cs) (e : TypeId) (z : Value) (ht : P.underlying ts = some (.slice e)) (hz : (P.info? e).map (·.zero) = some (some z)) (hzc : z.cells = #[z]) (h1 : z.oneCell' = true) (off n cap : Nat) (hs : a.eval s = .slice (some ⟨g, off, none⟩) n cap) (hn : 0 < n) (hl : off + n ≤ cs.length)
    (h : ∀ w', BxV w' g t' (putAt cs off (List.replicate n z)) → Fr (onB1 g) w w' → wpList P ops Q rest (a.put o.dst (.tuple #[])) w') : wpList P ops Q (o :: rest) a w := by
  refine wpList_plain hgd fun K hK => ?_
  obtain ⟨W', hr, h2, h3⟩ := run_clearV (P := P) hB ts e o.type z ht hz hzc h1 off n cap hn hl
  unfold Oper.wp execOp
  simp only [ho, resolve, invoke, builtin, Sem.run_bind, Sem.run_pure, Result.andThen_ok, List.map_toArray, List.map_cons, List.map_nil, hs, hr]
  exact hK _ _ (h W' h2 h3)
end
end Go.Proofs.U
/- Pages: the laws' own full. -/
namespace Go.Proofs.Ytghkpeejogldkaa
open Go.RowKit Go.Proofs.U
set_option linter.unusedSimpArgs false
set_option linter.unusedVariables false

def pgv (p : List Int) : List Value := p.map (Value.int .u8)
/-- A page as a value. -/
def pgV (p : List Int) : Value := .agg (pgv p).toArray
theorem pgv_len (p : List Int) : (pgv p).length = p.length := by simp [pgv]
theorem pgv_one (p : List Int) : ∀ v ∈ pgv p, v.oneCell' = true := by
  intro v hv; simp [pgv] at hv; obtain ⟨_, _, rfl⟩ := hv; rfl
theorem pgv_get (p : List Int) (i : Nat) (h : i < p.length) : (pgv p)[i]? = some (.int .u8 p[i]) := by simp [pgv, h]
theorem pgv_set (p : List Int) (i : Nat) (c : Int) : (pgv p).set i (.int .u8 c) = pgv (p.set i c) := by simp [pgv, List.map_set]
def zeroP : List Int := List.replicate 256 0
theorem size_u8 : (Try.prog.info? 5).map (·.size) = some 1 := by kernel_rfl
section
variable {w : World} {ops : Array Oper} {rest : List Oper} {o : Oper} {a : Act} {Q : Exit → Act → World → Prop}
end

theorem zeroP_len : zeroP.length = 256 := List.length_replicate

def fillP (c : Int) (k : Nat) : List Int := List.replicate k c ++ List.replicate (256 - k) 0
theorem fill_zero (c : Int) : fillP c 0 = zeroP := by simp only [fillP, List.replicate_zero, List.nil_append]; rfl
theorem fill_end (c : Int) : fillP c 256 = List.replicate 256 c := by simp only [fillP, Nat.sub_self, List.replicate_zero, List.append_nil]
theorem fill_len (c : Int) (k : Nat) (h : k ≤ 256) : (fillP c k).length = 256 := by simp only [fillP, List.length_append, List.length_replicate]; omega
theorem fill_set (c : Int) (k : Nat) (h : k < 256) : (fillP c k).set k c = fillP c (k + 1) := by
  unfold fillP
  rw [List.set_append_right _ _ (by simp only [List.length_replicate]; exact Nat.le_refl _), List.length_replicate, Nat.sub_self]
  rw [show 256 - k = (256 - (k + 1)) + 1 by omega, List.replicate_succ, List.set_cons_zero, List.replicate_succ', List.append_assoc]
  rfl

end Go.Proofs.Ytghkpeejogldkaa
/- Pages: the document's mix. -/
namespace Go.Proofs.Ytghkpeejogldkaa
open Go.RowKit Go.Proofs.U
set_option linter.unusedSimpArgs false
set_option linter.unusedVariables false

/-- Is the bit of byte i's sector set? -/
def bitAt (mask : Int) (i : Nat) : Bool := mask / 2 ^ (i / 32) % 2 == 1
theorem bit_eq (mask : Int) (k : Nat) (h : 0 ≤ mask) : ((mask / 2 ^ (k / 32)).tmod 2 == 1) = bitAt mask k := by
  unfold bitAt
  rw [Int.tmod_eq_emod_of_nonneg (Int.ediv_nonneg h (Int.le_of_lt (Int.pow_pos (by decide))))]
def mixK (old next : List Int) (mask : Int) (k : Nat) : List Int := (List.range 256).map fun i => if i < k && bitAt mask i then next.getD i 0 else old.getD i 0
theorem mix_len (old next : List Int) (mask : Int) (k : Nat) : (mixK old next mask k).length = 256 := by simp only [mixK, List.length_map, List.length_range]
theorem mix_zero (old next : List Int) (mask : Int) (h : old.length = 256) : mixK old next mask 0 = old := by
  apply List.ext_getElem
  · rw [mix_len, h]
  · intro i h1 h2
    simp only [mixK, List.getElem_map, List.getElem_range, Nat.not_lt_zero, decide_false, Bool.false_and, Bool.false_eq_true, if_false]
    simp [List.getD, h2]
theorem mix_no (old next : List Int) (mask : Int) (k : Nat) (hb : bitAt mask k = false) : mixK old next mask (k + 1) = mixK old next mask k := by
  unfold mixK
  apply List.map_congr_left
  intro i _
  by_cases hik : i = k
  · subst hik; simp only [hb, Bool.and_false]
  · have : decide (i < k + 1) = decide (i < k) := by apply decide_eq_decide.2; omega
    rw [this]
theorem mix_yes (old next : List Int) (mask : Int) (k : Nat) (hk : k < 256) (hb : bitAt mask k = true) : mixK old next mask (k + 1) = (mixK old next mask k).set k (next.getD k 0) := by
  apply List.ext_getElem
  · rw [List.length_set, mix_len, mix_len]
  · intro i h1 h2
    rw [List.getElem_set]
    by_cases hik : k = i
    · subst hik
      rw [if_pos rfl]
      simp only [mixK, List.getElem_map, List.getElem_range, hb, Nat.lt_succ_self, decide_true, Bool.and_true, if_true]
    · rw [if_neg hik]
      simp only [mixK, List.getElem_map, List.getElem_range]
      have : decide (i < k + 1) = decide (i < k) := by apply decide_eq_decide.2; omega
      rw [this]
theorem mix_get (old next : List Int) (mask : Int) (k : Nat) (hk : k < 256) : (mixK old next mask k)[k]? = some (old.getD k 0) := by
  have hl : k < (mixK old next mask k).length := by rw [mix_len]; exact hk
  rw [List.getElem?_eq_getElem hl]
  simp only [mixK, List.getElem_map, List.getElem_range, Nat.lt_irrefl, decide_false, Bool.false_and, Bool.false_eq_true, if_false]

end Go.Proofs.Ytghkpeejogldkaa
/- Slices whose elements take several cells: what they hold, and the law of an index; no condition. -/
namespace Go.Proofs.U
open Go.RowKit

/-- v is a slice of the things l, each of sz cells, told by ec. -/
def SlR {α : Type} (ec : α → List Value) (sz : Nat) (w : World) (v : Value) (l : List α) : Prop := (∀ x ∈ l, (ec x).length = sz) ∧ Sl w sz v l.length (l.flatMap ec)
theorem SlR.fr0 {α : Type} {ec : α → List Value} {sz : Nat} {w w' : World} {v : Value} {l : List α} (h : SlR ec sz w v l) (hf : Fr noB w w') : SlR ec sz w' v l := ⟨h.1, h.2.fr0 hf⟩
theorem SlR.fr {α : Type} {S : Nat → Prop} {ec : α → List Value} {sz : Nat} {w w' : World} {v : Value} {l : List α} (h : SlR ec sz w v l) (hf : Fr S w w') (hs : ∀ k, v.ownBlock = some k → ¬ S k) : SlR ec sz w' v l := ⟨h.1, h.2.fr hf hs⟩
theorem SlR.opn {α : Type} {ec : α → List Value} {sz : Nat} {w : World} {v : Value} {l : List α} (h : SlR ec sz w v l) : ∃ a cap, v = .slice a l.length cap ∧ l.length ≤ cap := by
  obtain ⟨_, a, cap, hv, hl, _⟩ := h; exact ⟨a, cap, hv, hl⟩

theorem flat_at {α : Type} (ec : α → List Value) (sz : Nat) (l : List α) (h : ∀ x ∈ l, (ec x).length = sz) (j : Nat) (hj : j < l.length) (i : Nat) (hi : i < sz) : (l.flatMap ec)[j * sz + i]? = (ec l[j])[i]? := by
  induction l generalizing j with
  | nil => simp at hj
  | cons x l ih =>
    have hx := h x (by simp)
    simp only [List.flatMap_cons]
    cases j with
    | zero => rw [List.getElem?_append_left (by omega)]; simp
    | succ j =>
      rw [List.getElem?_append_right (by rw [hx, Nat.succ_mul]; omega), hx]
      have e : (j + 1) * sz + i - sz = j * sz + i := by rw [Nat.succ_mul]; omega
      rw [e, ih (fun y hy => h y (by simp [hy])) j (by simpa using hj)]
      simp

section
variable {P : Program} {w : World} {ops : Array Oper} {rest : List Oper} {o : Oper} {a : Act} {Q : Exit → Act → World → Prop}

/-- x[i], x a slice of things of several cells: the place of the thing, and its cells. -/
theorem wpList_idxR {α : Type} (hgd : Region.wanted o (yielded ops a.tmps) = true) (t : TypeId) (x i : Operand) (ho : o.op = .indexAddr t x i) (e : TypeId) (ht : P.underlying t = some (.slice e)) (sz : Nat) (hsz : (P.info? e).map (·.size) = some sz)
    (ec : α → List Value) (v : Value) (l : List α) (hx : a.eval x = v) (hS : SlR ec sz w v l) (h0 : 0 < sz) (k : IntKind) (z : Int) (j : Nat) (hi : a.eval i = .int k z) (hz : z = (j : Int)) (hj : j < l.length)
    (h : ∀ b off, v.ownBlock = some b → (∀ q u, (ec l[j])[q]? = some u → w.cell? ⟨b, off + q, none⟩ = some u) → wpList P ops Q rest (a.put o.dst (.pointer (some ⟨b, off, none⟩))) w) : wpList P ops Q (o :: rest) a w := by
  refine wpList_wanted hgd fun K hK => ?_
  obtain ⟨hlen, ao, cap, rfl, hcap, hcl, hnone, hsome⟩ := hS
  cases ao with
  | none => have := hnone rfl; omega
  | some ad =>
    have hcell := hsome ad rfl
    subst hz
    have hjl : j * sz < (l.flatMap ec).length := by rw [hcl]; exact (Nat.mul_lt_mul_right h0).2 hj
    have hc0 := hcell 0 _ (List.getElem?_eq_getElem (Nat.lt_of_le_of_lt (Nat.zero_le _) hjl))
    obtain ⟨b, off, sp⟩ := ad
    have hsp : sp = none := by simpa [Addr.add] using World.cell?_spot hc0
    subst hsp
    obtain ⟨ii, hinf, hsz'⟩ := Option.map_eq_some_iff.1 hsz
    have hrun : (Instr.indexAt t (.slice (some ⟨b, off, none⟩) l.length cap) (.int k (j : Int))).run P w = .ok (.pointer (some ⟨b, off + j * sz, none⟩)) w := by
      have h1 : (0 : Int) ≤ (j : Int) ∧ (j : Int) < (l.length : Int) := by omega
      simp [Instr.indexAt, asIntOf, run_underlying ht, h1, sizeOf, typeInfo, hinf, hsz', go_sem, Addr.plain]
      omega
    unfold Oper.wp
    simp [execOp, ho, hx, hi, hrun, Result.andThen]
    refine hK _ _ (h b (off + j * sz) rfl (fun q u hq => ?_))
    have hlj := hlen l[j] (by simp)
    have hqs : q < sz := by rw [← hlj]; exact (List.getElem?_eq_some_iff.1 hq).1
    have := hcell (j * sz + q) u (by rw [flat_at ec sz l hlen j hj q hqs]; exact hq)
    rwa [Addr.plain, ← Nat.add_assoc] at this
end
end Go.Proofs.U
/- The document's disk: There, act and Cut. -/
namespace Go.Proofs.Ytghkpeejogldkaa
open Go.RowKit Go.Proofs.U
set_option linter.unusedSimpArgs false
set_option linter.unusedVariables false

/-- The document's disk as a value. -/
abbrev dkL (v1 v2 v3 : Value) (c : Bool) (l : Int) (d : Bool) : List Value := [v1, v2, v3, .bool c, .int .i64 l, .bool d]
abbrev dkV (v1 v2 v3 : Value) (c : Bool) (l : Int) (d : Bool) : Value := .agg #[v1, v2, v3, .bool c, .int .i64 l, .bool d]
theorem size_int : (Try.prog.info? 3).map (·.size) = some 1 := by kernel_rfl
theorem size_bool : (Try.prog.info? 4).map (·.size) = some 1 := by kernel_rfl

/-- A slice as a value. -/
def isSl (v : Value) : Prop := ∃ a n c, v = .slice a n c

section
variable {w : World} {ops : Array Oper} {rest : List Oper} {o : Oper} {a : Act} {Q : Exit → Act → World → Prop}
end
/-- What an act does: counted, left, down, error. -/
def actR (c : Bool) (l : Int) (d : Bool) : Int × Bool × Int := if d || (c && l == 0) then (l, true, 42) else if c then (l - 1, d, 0) else (l, d, 0)

end Go.Proofs.Ytghkpeejogldkaa
/- The document's disk: Read. -/
namespace Go.Proofs.Ytghkpeejogldkaa
open Go.RowKit Go.Proofs.U
set_option linter.unusedSimpArgs false
set_option linter.unusedVariables false

abbrev encB (b : Bool) : List Value := [.bool b]
def encW (x : Int × List Int) : List Value := .int .i64 x.1 :: pgv x.2
abbrev SlPg (w : World) (v : Value) (l : List (List Int)) : Prop := SlR pgv 256 w v l
abbrev SlBo (w : World) (v : Value) (l : List Bool) : Prop := SlR encB 1 w v l
abbrev SlWr (w : World) (v : Value) (l : List (Int × List Int)) : Prop := SlR encW 257 w v l
theorem SlR.isSl {α : Type} {ec : α → List Value} {sz : Nat} {w : World} {v : Value} {l : List α} (h : SlR ec sz w v l) : isSl v := by
  obtain ⟨a, c, rfl, _⟩ := h.opn; exact ⟨_, _, _, rfl⟩
/-- What a page reads as: the last write of it, or what is stable. -/
def lastW (pend : List (Int × List Int)) (i : Int) (p : List Int) : List Int := pend.foldl (fun q x => if x.1 == i then x.2 else q) p
theorem lastW_none (i : Int) (p : List Int) (l : List (Int × List Int)) (h : ∀ x ∈ l, (x.1 == i) = false) : lastW l i p = p := by
  unfold lastW
  induction l generalizing p with
  | nil => rfl
  | cons x l ih => rw [List.foldl_cons, h x (by simp)]; exact ih p (fun y hy => h y (by simp [hy]))
theorem lastW_hit (i : Int) (p : List Int) (l : List (Int × List Int)) (k : Nat) (hk : k < l.length) (hx : (l[k].1 == i) = true) (h : ∀ j (hj : j < l.length), k < j → (l[j].1 == i) = false) : lastW l i p = l[k].2 := by
  have e : l = l.take (k + 1) ++ l.drop (k + 1) := (List.take_append_drop _ _).symm
  have h2 : ∀ x ∈ l.drop (k + 1), (x.1 == i) = false := by
    intro x hx
    obtain ⟨j, hj, rfl⟩ := List.mem_iff_getElem.1 hx
    rw [List.getElem_drop]
    exact h _ _ (by omega)
  have : lastW l i p = lastW (l.drop (k + 1)) i (lastW (l.take (k + 1)) i p) := by
    conv => lhs; rw [e]
    unfold lastW; rw [List.foldl_append]
  rw [this, lastW_none _ _ _ h2, List.take_succ_eq_append_getElem hk]
  unfold lastW
  rw [List.foldl_append, List.foldl_cons, List.foldl_nil, hx]
  rfl

theorem range_of {w : World} {b o : Nat} {cs : List Value} (h : ∀ (j : Nat) (v : Value), cs[j]? = some v → w.cell? ⟨b, o + j, none⟩ = some v) : w.rangeAt b o cs := by
  intro j v hj
  exact h j v hj
section
variable {w : World} {ops : Array Oper} {rest : List Oper} {o : Oper} {a : Act} {Q : Exit → Act → World → Prop}
end

def readR (pages : List (List Int)) (bad : List Bool) (pend : List (Int × List Int)) (i : Int) : List Int × Int :=
  if 0 ≤ i ∧ i < (pages.length : Int) then (if bad.getD i.toNat false then (zeroP, 43) else (lastW pend i (pages.getD i.toNat []), 0)) else (zeroP, 41)

end Go.Proofs.Ytghkpeejogldkaa
/- Rows of the call's own making whose elements take several cells: read, stored, appended to; no condition. -/
namespace Go.Proofs.U
open Go.RowKit
set_option linter.unusedSimpArgs false
set_option linter.unusedVariables false

def OwnR {α : Type} (ec : α → List Value) (sz : Nat) (e : TypeId) (w : World) (base : Nat) (v : Value) (l : List α) : Prop := (∀ x ∈ l, (ec x).length = sz) ∧ w.ownsRow base e sz v l.length (l.flatMap ec)

section
variable {α : Type} {ec : α → List Value} {sz : Nat} {e : TypeId} {w w' : World} {base : Nat} {v : Value} {l : List α}
theorem OwnR.sl (h : OwnR ec sz e w base v l) : SlR ec sz w v l := ⟨h.1, Sl.of_owns h.2⟩
theorem OwnR.opn (h : OwnR ec sz e w base v l) : ∃ a cap, v = .slice a l.length cap := by
  obtain ⟨a, cap, hv, _⟩ := h.sl.opn; exact ⟨a, cap, hv⟩
theorem OwnR.newB (h : OwnR ec sz e w base v l) : ∀ j, v.ownBlock = some j → base ≤ j ∧ j < w.heap.size := World.ownsRow.lt h.2
theorem OwnR.fr {S : Nat → Prop} (h : OwnR ec sz e w base v l) (hf : Fr S w w') (hs : ∀ k, v.ownBlock = some k → ¬ S k) : OwnR ec sz e w' base v l := by
  refine ⟨h.1, h.2.1, ?_⟩
  rcases h.2.2 with h0 | ⟨g, cap, cur, hv, h1, h2, h3⟩
  · exact Or.inl h0
  · exact Or.inr ⟨g, cap, cur, hv, h1, (hf.block g (Array.getElem?_eq_some_iff.1 h2).1 (hs g (by rw [hv]; rfl))).trans h2, h3⟩
theorem OwnR.fr0 (h : OwnR ec sz e w base v l) (hf : Fr noB w w') : OwnR ec sz e w' base v l := h.fr hf (fun _ _ q => q)
theorem OwnR.ne {g : Nat} (h : OwnR ec sz e w base v l) (hf : Fr (onB1 g) w w') (hg : ∀ k, v.ownBlock = some k → k ≠ g) : OwnR ec sz e w' base v l := h.fr hf (fun k hk q => hg k hk q)
theorem OwnR.rebase {b : Nat} (h : OwnR ec sz e w base v l) (hb : b ≤ base) : OwnR ec sz e w b v l := by
  refine ⟨h.1, h.2.1, ?_⟩
  rcases h.2.2 with h0 | ⟨g, cap, cur, hv, h1, h3⟩
  · exact Or.inl h0
  · exact Or.inr ⟨g, cap, cur, hv, Nat.le_trans hb h1, h3⟩
/-- Rows of other types lie apart. -/
theorem OwnR.apart {β : Type} {ec' : β → List Value} {sz' : Nat} {e' : TypeId} {base' : Nat} {v' : Value} {l' : List β} (h : OwnR ec sz e w base v l) (h' : OwnR ec' sz' e' w base' v' l') (hne : e ≠ e') : ∀ q, v.ownBlock = some q → v'.ownBlock = some q → False := by
  intro q hq hq'
  rcases h.2.2 with ⟨rfl, _⟩ | ⟨g, cap, cur, rfl, _, h2, _⟩
  · simp [Value.ownBlock] at hq
  rcases h'.2.2 with ⟨rfl, _⟩ | ⟨g', cap', cur', rfl, _, h2', _⟩
  · simp [Value.ownBlock] at hq'
  simp [Value.ownBlock] at hq hq'
  subst hq hq'
  rw [h2] at h2'
  simp at h2'
  exact hne h2'.2
/-- Its block, where there is an element. -/
theorem OwnR.bx (h : OwnR ec sz e w base v l) (hl : 0 < l.length) :
    ∃ g cap cur, v = .slice (some ⟨g, 0, none⟩) l.length cap ∧ base ≤ g ∧ BxV w g e cur ∧ l.length * sz ≤ cur.length ∧ cur.take (l.length * sz) = l.flatMap ec ∧
      ∀ (w' : World) (cur' : List Value) (l' : List α), BxV w' g e cur' → cur'.length = cur.length → l'.length = l.length → (∀ x ∈ l', (ec x).length = sz) → cur'.take (l.length * sz) = l'.flatMap ec → OwnR ec sz e w' base v l' := by
  rcases h.2.2 with ⟨_, hn⟩ | ⟨g, cap, cur, hv, h1, h2, h3, h4, h5, h6⟩
  · omega
  · have hlen : l.length * sz ≤ cur.toList.length := by
      have : cur.toList.length = cap * sz := by rw [← h5]; exact Array.length_toList
      rw [this]; exact Nat.mul_le_mul_right _ h3
    refine ⟨g, cap, cur.toList, hv, h1, h2, hlen, h6, ?_⟩
    intro w' cur' l' hb hc hl' hall htk
    refine ⟨hall, ?_, Or.inr ⟨g, cap, cur'.toArray, by rw [hl']; exact hv, h1, hb, by rw [hl']; exact h3, h4, ?_, ?_⟩⟩
    · rw [← htk, List.length_take, hc, hl']; omega
    · rw [List.size_toArray, hc, Array.length_toList, h5]
    · rw [hl']; exact htk
theorem flat_put (l : List α) (hall : ∀ x ∈ l, (ec x).length = sz) (j : Nat) (hj : j < l.length) (x : α) (hx : (ec x).length = sz) (cur : List Value) (hlen : l.length * sz ≤ cur.length) (hc : cur.take (l.length * sz) = l.flatMap ec) :
    (putAt cur (j * sz) (ec x)).take (l.length * sz) = (l.set j x).flatMap ec := by
  have e1 : cur = l.flatMap ec ++ cur.drop (l.length * sz) := by rw [← hc, List.take_append_drop]
  have hfl : ∀ m : List α, (∀ x ∈ m, (ec x).length = sz) → (m.flatMap ec).length = m.length * sz := by
    intro m hm
    induction m with
    | nil => simp
    | cons y m ih => rw [List.flatMap_cons, List.length_append, hm y (by simp), ih (fun z hz => hm z (by simp [hz])), List.length_cons, Nat.succ_mul]; omega
  have hsp : l = l.take j ++ l[j] :: l.drop (j + 1) := by rw [List.getElem_cons_drop, List.take_append_drop]
  have hset : l.set j x = l.take j ++ x :: l.drop (j + 1) := by rw [List.set_eq_take_append_cons_drop, if_pos hj]
  have hA : ((l.take j).flatMap ec).length = j * sz := by rw [hfl _ (fun y hy => hall y (List.mem_of_mem_take hy))]; rw [List.length_take, Nat.min_eq_left (by omega)]
  have hlj := hall l[j] (by simp)
  have hflat : l.flatMap ec = (l.take j).flatMap ec ++ (ec l[j] ++ (l.drop (j + 1)).flatMap ec) := by
    conv => lhs; rw [hsp]
    rw [List.flatMap_append, List.flatMap_cons]
  have htake : cur.take (j * sz) = (l.take j).flatMap ec := by
    rw [e1, hflat, List.append_assoc, List.take_left' hA]
  have hdrop : cur.drop (j * sz + sz) = (l.drop (j + 1)).flatMap ec ++ cur.drop (l.length * sz) := by
    conv => lhs; rw [e1]
    rw [hflat]
    simp only [List.append_assoc]
    rw [← List.append_assoc, List.drop_left' (by rw [List.length_append, hA, hlj])]
  unfold putAt
  rw [hx, htake, hdrop, hset, List.flatMap_append, List.flatMap_cons]
  have hB : ((l.drop (j + 1)).flatMap ec).length = (l.length - (j + 1)) * sz := by rw [hfl _ (fun y hy => hall y (List.mem_of_mem_drop hy))]; simp
  have htot : ((l.take j).flatMap ec ++ ec x ++ (l.drop (j + 1)).flatMap ec).length = l.length * sz := by
    rw [List.length_append, List.length_append, hA, hx, hB]
    have : l.length = j + 1 + (l.length - (j + 1)) := by omega
    conv => rhs; rw [this, Nat.add_mul, Nat.add_mul, Nat.one_mul]
  rw [← List.append_assoc, List.take_left' htot, List.append_assoc]

variable {P : Program} {ops : Array Oper} {rest : List Oper} {o : Oper} {a : Act} {Q : Exit → Act → World → Prop}
/-- x[j], x a row of the call's own making. -/
theorem wpList_idxO (hgd : Region.wanted o (yielded ops a.tmps) = true) (t : TypeId) (x i : Operand) (ho : o.op = .indexAddr t x i) (et : TypeId) (ht : P.underlying t = some (.slice et)) (hsz : (P.info? et).map (·.size) = some sz)
    (g n cap : Nat) (hx : a.eval x = .slice (some ⟨g, 0, none⟩) n cap) (k : IntKind) (z : Int) (j : Nat) (hi : a.eval i = .int k z) (hz : z = (j : Int)) (hj : j < n)
    (h : wpList P ops Q rest (a.put o.dst (.pointer (some ⟨g, j * sz, none⟩))) w) : wpList P ops Q (o :: rest) a w := by
  refine wpList_wanted hgd fun K hK => ?_
  subst hz
  obtain ⟨ii, hinf, hsz'⟩ := Option.map_eq_some_iff.1 hsz
  have hrun : (Instr.indexAt t (.slice (some ⟨g, 0, none⟩) n cap) (.int k (j : Int))).run P w = .ok (.pointer (some ⟨g, j * sz, none⟩)) w := by
    have h1 : (0 : Int) ≤ (j : Int) ∧ (j : Int) < (n : Int) := by omega
    simp [Instr.indexAt, asIntOf, run_underlying ht, h1, sizeOf, typeInfo, hinf, hsz', go_sem, Addr.plain]
    omega
  unfold Oper.wp
  simp [execOp, ho, hx, hi, hrun, Result.andThen]
  exact hK _ _ h
theorem run_idxO (t et : TypeId) (ht : P.underlying t = some (.slice et)) (hsz : (P.info? et).map (·.size) = some sz) (g n cap : Nat) (k : IntKind) (j : Nat) (hj : j < n) :
    (Instr.indexAt t (.slice (some ⟨g, 0, none⟩) n cap) (.int k (j : Int))).run P w = .ok (.pointer (some ⟨g, j * sz, none⟩)) w := by
  obtain ⟨ii, hinf, hsz'⟩ := Option.map_eq_some_iff.1 hsz
  have h1 : (0 : Int) ≤ (j : Int) ∧ (j : Int) < (n : Int) := by omega
  simp [Instr.indexAt, asIntOf, run_underlying ht, h1, sizeOf, typeInfo, hinf, hsz', go_sem, Addr.plain]
  omega
/-- Where an element lies. -/
theorem OwnR.rangeK {g n cap : Nat} (hO : OwnR ec sz e w base (.slice (some ⟨g, 0, none⟩) n cap) l) (j : Nat) (hj : j < l.length) : w.rangeAt g (j * sz) (ec l[j]) := by
  obtain ⟨g', cap', cur, hv, h1, hB, h3, h4, h5⟩ := hO.bx (by omega)
  cases hv
  intro q u hq
  have hql : q < sz := by rw [← hO.1 l[j] (by simp)]; exact (List.getElem?_eq_some_iff.1 hq).1
  refine (hB.cell (j * sz + q) u ?_).1
  have hfl := flat_at ec sz l hO.1 j hj q hql
  rw [hq, ← h4, List.getElem?_take] at hfl
  split at hfl
  · exact hfl
  · cases hfl
theorem wp_stR {K : Act → World → Prop} (t : TypeId) (x y : Operand) (ho : o.op = .store t x y) (g n cap : Nat) (hO : OwnR ec sz e w base (.slice (some ⟨g, 0, none⟩) n cap) l) (j : Nat) (hj : j < l.length) (hx : a.eval x = .pointer (some ⟨g, j * sz, none⟩))
    (b : α) (hy : a.eval y = .agg (ec b).toArray) (hb : (ec b).length = sz) (hb1 : ∀ u ∈ ec b, u.oneCell' = true) (hi : (P.info? t).map (·.size) = some sz)
    (h : ∀ w', OwnR ec sz e w' base (.slice (some ⟨g, 0, none⟩) n cap) (l.set j b) → Fr (onB1 g) w w' → K (a.put o.dst undef) w') : o.wp P a w K Q := by
  obtain ⟨g', cap', cur, hv, h1, hB, h3, h4, h5⟩ := hO.bx (by omega)
  cases hv
  have hle : j * sz + sz ≤ cur.length := by
    have : (j + 1) * sz ≤ l.length * sz := Nat.mul_le_mul_right _ (by omega)
    rw [Nat.add_mul, Nat.one_mul] at this; omega
  refine wp_store_mid t x y ho g (j * sz) (ec b).toArray hx hy (by simpa using hB.thereR (j * sz) (ec b).length (by rw [hb]; exact hle)) (by rw [hi]; simp [hb]) (all_oneCell_toArray hb1) (h _ ?_ (setCells_fr1 w g _ _))
  have hB' := setCells_bx (ec b) (j * sz) w cur hB (by rw [hb]; exact hle)
  refine h5 _ _ _ hB' ?_ (by simp) ?_ (flat_put l hO.1 j hj b hb cur h3 h4)
  · unfold putAt; simp [hb]; omega
  · intro z hz
    rcases List.mem_or_eq_of_mem_set hz with hz | rfl
    · exact hO.1 z hz
    · exact hb
/-- x[j] = y, y a value of several cells. -/
theorem wpList_stR (hgd : o.guard = none) (t : TypeId) (x y : Operand) (ho : o.op = .store t x y) (g n cap : Nat) (hO : OwnR ec sz e w base (.slice (some ⟨g, 0, none⟩) n cap) l) (j : Nat) (hj : j < l.length) (hx : a.eval x = .pointer (some ⟨g, j * sz, none⟩))
    (b : α) (hy : a.eval y = .agg (ec b).toArray) (hb : (ec b).length = sz) (hb1 : ∀ u ∈ ec b, u.oneCell' = true) (hi : (P.info? t).map (·.size) = some sz)
    (h : ∀ w', OwnR ec sz e w' base (.slice (some ⟨g, 0, none⟩) n cap) (l.set j b) → Fr (onB1 g) w w' → wpList P ops Q rest (a.put o.dst undef) w') : wpList P ops Q (o :: rest) a w := by
  obtain ⟨g', cap', cur, hv, h1, hB, h3, h4, h5⟩ := hO.bx (by omega)
  cases hv
  have hle : j * sz + sz ≤ cur.length := by
    have : (j + 1) * sz ≤ l.length * sz := Nat.mul_le_mul_right _ (by omega)
    rw [Nat.add_mul, Nat.one_mul] at this; omega
  refine wpList_storeV hgd t x y ho g (j * sz) hx (ec b) hy e cur hB (by rw [hi, hb]) (by rw [hb]; exact hle) hb1 ?_
  intro w' hB' hf
  refine h w' (h5 w' _ _ hB' ?_ (by simp) ?_ (flat_put l hO.1 j hj b hb cur h3 h4)) hf
  · unfold putAt; simp [hb]; omega
  · intro z hz
    rcases List.mem_or_eq_of_mem_set hz with hz | rfl
    · exact hO.1 z hz
    · exact hb
/-- x[j] = y, y of one cell. -/
theorem wpList_stR1 {ec : α → List Value} {l : List α} (hgd : o.guard = none) (t : TypeId) (x y : Operand) (ho : o.op = .store t x y) (g n cap : Nat) (hO : OwnR ec 1 e w base (.slice (some ⟨g, 0, none⟩) n cap) l) (j : Nat) (hj : j < l.length) (hx : a.eval x = .pointer (some ⟨g, j, none⟩))
    (b : α) (u : Value) (hb : ec b = [u]) (hy : a.eval y = u) (hb1 : u.oneCell' = true) (hi : (P.info? t).map (·.size) = some 1)
    (h : ∀ w', OwnR ec 1 e w' base (.slice (some ⟨g, 0, none⟩) n cap) (l.set j b) → Fr (onB1 g) w w' → wpList P ops Q rest (a.put o.dst undef) w') : wpList P ops Q (o :: rest) a w := by
  obtain ⟨g', cap', cur, hv, h1, hB, h3, h4, h5⟩ := hO.bx (by omega)
  cases hv
  refine wpList_store1 hgd t x y ho g (j * 1) (by rw [Nat.mul_one]; exact hx) u hy hb1 e cur hB hi (by omega) ?_
  intro w' hB' hf
  have hp : cur.set (j * 1) u = putAt cur (j * 1) (ec b) := by
    rw [hb]; unfold putAt
    rw [List.set_eq_take_append_cons_drop, if_pos (by omega)]; simp
  rw [hp] at hB'
  refine h w' (h5 w' _ _ hB' ?_ (by simp) ?_ (flat_put l hO.1 j hj b (by rw [hb]; rfl) cur h3 h4)) hf
  · rw [← hp]; simp
  · intro z hz
    rcases List.mem_or_eq_of_mem_set hz with hz | rfl
    · exact hO.1 z hz
    · rw [hb]; rfl
/-- append(s, x...). -/
theorem wpList_appR (hgd : o.guard = none) (s x : Operand) (t : TypeId) (ho : o.op = .call { callee := .builtin .append, args := #[s, x], argTypes := #[t, t] })
    (base : Nat) (e : TypeId) (z : Value) (bytes : Nat) (ht : P.underlying t = some (.slice e)) (hinfo : (P.info? e).map (fun i => (i.zero, i.size, i.bytes)) = some (some z, sz, bytes)) (hzs : z.cells.size = sz) (hsz : 0 < sz)
    (v : Value) (l : List α) (hs : a.eval s = v) (hO : OwnR ec sz e w base v l) (vx : Value) (m : List α) (hx : a.eval x = vx) (hS : SlR ec sz w vx m) (h1 : ∀ y ∈ m, ∀ u ∈ ec y, u.oneCell' = true)
    (h63 : l.length + m.length ≤ maxLen) (hbytes : (l.length + m.length) * bytes ≤ 140737488355328) (hbase : base ≤ w.heap.size)
    (h : ∀ v' w', OwnR ec sz e w' base v' (l ++ m) → w.grownBy w' v.ownBlock → wpList P ops Q rest (a.put o.dst v') w') : wpList P ops Q (o :: rest) a w := by
  refine wpList_app hgd s x t ho base e z sz bytes ht hinfo hzs hsz v l.length (l.flatMap ec) hs hO.2 vx m.length (m.flatMap ec) hx hS.2 ?_ h63 hbytes hbase ?_
  · intro u hu
    obtain ⟨y, hy, hu⟩ := List.mem_flatMap.1 hu
    exact h1 y hy u hu
  · intro v' w' ho' hg
    refine h v' w' ⟨?_, by rw [List.length_append, List.flatMap_append]; exact ho'⟩ hg
    intro y hy
    rcases List.mem_append.1 hy with hy | hy
    · exact hO.1 y hy
    · exact hS.1 y hy
/-- []T{}: a row of no elements, its block a letter. -/
theorem wpList_mk0 (ec : α → List Value) (sz : Nat) (hgd : Region.wanted o (yielded ops a.tmps) = true) (t : TypeId) (ho : o.op = .buildSlice t 0 #[]) (e : TypeId) (ht : P.underlying t = some (.slice e)) (hsz : (P.info? e).map (·.size) = some sz)
    (h : ∀ g w', OwnR ec sz e w' w.heap.size (.slice (some ⟨g, 0, none⟩) 0 0) ([] : List α) → Fr noB w w' → w.heap.size ≤ g → g < w'.heap.size → wpList P ops Q rest (a.put o.dst (.slice (some ⟨g, 0, none⟩) 0 0)) w') : wpList P ops Q (o :: rest) a w := by
  refine wpList_wanted hgd fun K hK => ?_
  obtain ⟨ii, hinf, hsz'⟩ := Option.map_eq_some_iff.1 hsz
  have hrun : (execOp a.eval o).run P w = .ok (.value (.slice (some ⟨w.heap.size, 0, none⟩) 0 0)) (w.alloc (.cells #[] e)) := by
    simp only [execOp, ho]
    simp [go_sem, run_underlying ht, sizeOf, typeInfo, hinf, hsz']
  unfold Oper.wp
  rw [hrun]
  exact hK _ _ (h w.heap.size _ ⟨by simp, World.ownsRow_made w #[] 0 (Nat.le_refl _) (Nat.zero_le _) (by simp)⟩ ((Fr.refl _ _).alloc _) (Nat.le_refl _) (by simp))
theorem OwnR.empty (w : World) (e : TypeId) (hb : base ≤ w.heap.size) : OwnR ec sz e (w.alloc (.cells #[] e)) base (.slice (some ⟨w.heap.size, 0, none⟩) 0 0) ([] : List α) :=
  ⟨by simp, World.ownsRow_made w #[] 0 hb (Nat.zero_le _) (by simp)⟩
theorem OwnR.none (w : World) (e : TypeId) : OwnR ec sz e w base (.slice .none 0 0) ([] : List α) := ⟨by simp, by simp, Or.inl ⟨rfl, rfl⟩⟩
theorem OwnR.grown {S : Nat → Prop} {b0 : World} (h : OwnR ec sz e w base v l) (hf : Fr S b0 w) (hb : b0.heap.size ≤ base) (hg : w.grownBy w' v.ownBlock) : Fr S b0 w' :=
  hf.grown hg (fun k hk hlt => absurd (h.newB k hk).1 (by omega))
end
end Go.Proofs.U
/- The document's disk: Spoil and Put. -/
namespace Go.Proofs.Ytghkpeejogldkaa
open Go.RowKit Go.Proofs.U
set_option linter.unusedSimpArgs false
set_option linter.unusedVariables false

theorem info_bool : (Try.prog.info? 4).map (fun i => (i.zero, i.size, i.bytes)) = some (some (.bool false), 1, 1) := by kernel_rfl
theorem isSl_mk (a : Option Addr) (n c : Nat) : isSl (.slice a n c) := ⟨a, n, c, rfl⟩
/-- A slice that is the old one, or lies in new memory. -/
def nwB (w w' : World) (v v' : Value) : Prop := ∀ q, v'.ownBlock = some q → v.ownBlock = some q ∨ (w.heap.size ≤ q ∧ q < w'.heap.size)
def inR (n : Nat) (i : Int) : Bool := decide (0 ≤ i) && decide (i < (n : Int))

end Go.Proofs.Ytghkpeejogldkaa
/- Values of several cells, put together out of parts; a row of one of them; no condition. -/
namespace Go.Proofs.U
open Go.RowKit
set_option linter.unusedSimpArgs false
set_option linter.unusedVariables false

theorem zip_put (off : Nat) : ∀ (ds : List Value) (k : Nat) (cells : List Value), off + k + ds.length ≤ cells.length →
    (ds.zipIdx k).foldl (fun (cs : Array Value) x => cs.setIfInBounds (off + x.2) x.1) cells.toArray = (putAt cells (off + k) ds).toArray := by
  intro ds
  induction ds with
  | nil => intro k cells _; rw [putAt_nil]; rfl
  | cons d ds ih =>
    intro k cells h
    simp at h
    rw [List.zipIdx_cons, List.foldl_cons]
    simp only [List.setIfInBounds_toArray]
    rw [ih (k + 1) (cells.set (off + k) d) (by simp; omega), ← putAt_cons cells (off + k) d ds (by omega)]
    rfl
theorem fill_put (place : Nat → Option (Nat × Nat)) (cells : List Value) (k off sz : Nat) (v : Value) (ds : List Value) (hv : v.cells = ds.toArray) (hp : place k = some (off, sz)) (hs : ds.length = sz) (hl : off + sz ≤ cells.length) (rest : List (Nat × Value)) :
    Instr.fill place cells.toArray ((k, v) :: rest) = Instr.fill place (putAt cells off ds).toArray rest := by
  have hz : Array.foldl (fun (cs : Array Value) x => cs.setIfInBounds (off + x.2) x.1) cells.toArray ds.toArray.zipIdx = (putAt cells off ds).toArray := by
    have := zip_put off ds 0 cells (by omega)
    rw [Nat.add_zero] at this
    rw [← this]
    simp
  conv => lhs; unfold Instr.fill
  simp only [hp, hv]
  rw [if_neg (by simp; omega)]
  exact congrArg (fun z => Instr.fill place z rest) hz
theorem built_struct {P : Program} (t : TypeId) (fields : Array Field) (hu : P.underlying t = some (.struct fields)) (zs : List Value) (hz : (P.info? t).map (·.zero) = some (some (.agg zs.toArray))) (places : List (Nat × Nat))
    (hp : fields.toList.mapM (fun f => (P.info? f.type).map fun i => (f.offset, i.size)) = some places) (parts : List (Nat × Value)) : P.built t parts = Instr.fill (places.toArray[·]?) zs.toArray parts := by
  obtain ⟨i, hi, hz'⟩ := Option.map_eq_some_iff.1 hz
  unfold Program.built
  rw [hi, hu]
  simp only [hz', hp, Value.cells]

section
variable {α : Type} {ec : α → List Value} {sz : Nat} {w : World} {P : Program} {ops : Array Oper} {rest : List Oper} {o : Oper} {a : Act} {Q : Exit → Act → World → Prop}
/-- []T{y}: a row of one element, its block a letter. -/
theorem wpList_mk1 (hgd : Region.wanted o (yielded ops a.tmps) = true) (t : TypeId) (y : Operand) (ho : o.op = .buildSlice t 1 #[(0, y)]) (e : TypeId) (ht : P.underlying t = some (.slice e)) (z : Value) (hinfo : (P.info? e).map (fun i => (i.zero, i.size)) = some (some z, sz)) (hsz : 0 < sz) (hbig : sz ≤ 16777216)
    (x : α) (V : Value) (hy : a.eval y = V) (hV : V.cells = (ec x).toArray) (hx : (ec x).length = sz)
    (h : ∀ g w', SlR ec sz w' (.slice (some ⟨g, 0, none⟩) 1 1) [x] → Fr noB w w' → w.heap.size ≤ g → g < w'.heap.size → wpList P ops Q rest (a.put o.dst (.slice (some ⟨g, 0, none⟩) 1 1)) w') : wpList P ops Q (o :: rest) a w := by
  refine wpList_wanted hgd fun K hK => ?_
  obtain ⟨ii, hinf, hq⟩ := Option.map_eq_some_iff.1 hinfo
  simp only [Prod.mk.injEq] at hq
  have hfill : ∀ X : Array Value, X.size = sz → Instr.fill (fun i => some (i * sz, sz)) X [(0, V)] = some (ec x).toArray := by
    intro X hX
    have h1 := fill_put (fun i => some (i * sz, sz)) X.toList 0 0 sz V (ec x) hV (by simp) hx (by rw [Array.length_toList, hX]; omega) []
    have e1 : X.toList.toArray = X := by simp
    rw [e1] at h1
    rw [h1, putAt_all _ _ (by rw [hx, ← hX]; exact Array.length_toList.symm)]
    rfl
  have hbs : (Instr.buildSlice t 1 #[(0, V)]).run P w = .ok (.slice (some ⟨w.heap.size, 0, none⟩) 1 1) (w.alloc (.cells (ec x).toArray e)) := by
    have hne : ¬ sz = 0 := by omega
    have hnb : ¬ 16777216 < sz := by omega
    have hf := hfill ((Array.range sz).map (fun k => z.cells[k % z.cells.size]!)) (by simp)
    unfold Instr.buildSlice
    simp [run_underlying ht, sizeOf, typeInfo, zeroValue, hinf, hq.1, hq.2, hne, hnb, hf, Sem.run_bind, Result.andThen]
    simp [go_sem]
  have hrun : (execOp a.eval o).run P w = .ok (.value (.slice (some ⟨w.heap.size, 0, none⟩) 1 1)) (w.alloc (.cells (ec x).toArray e)) := by
    simp only [execOp, ho]
    simp [hy, hbs, Result.andThen]
  unfold Oper.wp
  rw [hrun]
  refine hK _ _ (h w.heap.size _ ⟨?_, ?_⟩ ((Fr.refl _ _).alloc _) (Nat.le_refl _) (by simp))
  · intro y hy; simp at hy; subst hy; exact hx
  · refine ⟨some ⟨w.heap.size, 0, none⟩, 1, rfl, Nat.le_refl _, by simp [hx], (fun h => by cases h), fun ad had j u hj => ?_⟩
    cases had
    have hj' : (ec x)[j]? = some u := by simpa using hj
    rw [Addr.plain, Nat.zero_add, World.cell?_alloc_new]
    simpa using hj'
end
end Go.Proofs.U
/- The document's disk: Put. -/
namespace Go.Proofs.Ytghkpeejogldkaa
open Go.RowKit Go.Proofs.U
set_option linter.unusedSimpArgs false
set_option linter.unusedVariables false

theorem encW_len (x : Int × List Int) (h : x.2.length = 256) : (encW x).length = 257 := by simp [encW, pgv_len, h]
theorem encW_one (x : Int × List Int) : ∀ u ∈ encW x, u.oneCell' = true := by
  intro u hu
  rcases List.mem_cons.1 hu with rfl | hu
  · rfl
  · exact pgv_one _ u hu
section
variable {w : World} {ops : Array Oper} {rest : List Oper} {o : Oper} {a : Act} {Q : Exit → Act → World → Prop}
end

end Go.Proofs.Ytghkpeejogldkaa
