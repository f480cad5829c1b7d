/- Values of several cells, put together out of parts; a row of one of them; no condition. -/
import Derived.Test.YtejjfpdcmaefiaaOR
import Derived.Laws.Tables
namespace Go.Proofs.U
open Go.RowKit
set_option linter.unusedSimpArgs false
set_option linter.unusedVariables false

theorem zip_put (off : Nat) : ∀ (ds : List Value) (k : Nat) (cells : List Value), off + k + ds.length ≤ cells.length →
    (ds.zipIdx k).foldl (fun (cs : Array Value) x => cs.setIfInBounds (off + x.2) x.1) cells.toArray = (putAt cells (off + k) ds).toArray := by
  intro ds
  induction ds with
  | nil => intro k cells _; rw [putAt_nil]; rfl
  | cons d ds ih =>
    intro k cells h
    simp at h
    rw [List.zipIdx_cons, List.foldl_cons]
    simp only [List.setIfInBounds_toArray]
    rw [ih (k + 1) (cells.set (off + k) d) (by simp; omega), ← putAt_cons cells (off + k) d ds (by omega)]
    rfl
theorem fill_put (place : Nat → Option (Nat × Nat)) (cells : List Value) (k off sz : Nat) (v : Value) (ds : List Value) (hv : v.cells = ds.toArray) (hp : place k = some (off, sz)) (hs : ds.length = sz) (hl : off + sz ≤ cells.length) (rest : List (Nat × Value)) :
    Instr.fill place cells.toArray ((k, v) :: rest) = Instr.fill place (putAt cells off ds).toArray rest := by
  have hz : Array.foldl (fun (cs : Array Value) x => cs.setIfInBounds (off + x.2) x.1) cells.toArray ds.toArray.zipIdx = (putAt cells off ds).toArray := by
    have := zip_put off ds 0 cells (by omega)
    rw [Nat.add_zero] at this
    rw [← this]
    simp
  conv => lhs; unfold Instr.fill
  simp only [hp, hv]
  rw [if_neg (by simp; omega)]
  exact congrArg (fun z => Instr.fill place z rest) hz
theorem built_struct {P : Program} (t : TypeId) (fields : Array Field) (hu : P.underlying t = some (.struct fields)) (zs : List Value) (hz : (P.info? t).map (·.zero) = some (some (.agg zs.toArray))) (places : List (Nat × Nat))
    (hp : fields.toList.mapM (fun f => (P.info? f.type).map fun i => (f.offset, i.size)) = some places) (parts : List (Nat × Value)) : P.built t parts = Instr.fill (places.toArray[·]?) zs.toArray parts := by
  obtain ⟨i, hi, hz'⟩ := Option.map_eq_some_iff.1 hz
  unfold Program.built
  rw [hi, hu]
  simp only [hz', hp, Value.cells]

section
variable {α : Type} {ec : α → List Value} {sz : Nat} {w : World} {P : Program} {ops : Array Oper} {rest : List Oper} {o : Oper} {a : Act} {Q : Exit → Act → World → Prop}
/-- []T{y}: a row of one element, its block a letter. -/
theorem wpList_mk1 (hgd : Region.wanted o (yielded ops a.tmps) = true) (t : TypeId) (y : Operand) (ho : o.op = .buildSlice t 1 #[(0, y)]) (e : TypeId) (ht : P.underlying t = some (.slice e)) (z : Value) (hinfo : (P.info? e).map (fun i => (i.zero, i.size)) = some (some z, sz)) (hsz : 0 < sz) (hbig : sz ≤ 16777216)
    (x : α) (V : Value) (hy : a.eval y = V) (hV : V.cells = (ec x).toArray) (hx : (ec x).length = sz)
    (h : ∀ g w', SlR ec sz w' (.slice (some ⟨g, 0, none⟩) 1 1) [x] → Fr noB w w' → w.heap.size ≤ g → g < w'.heap.size → wpList P ops Q rest (a.put o.dst (.slice (some ⟨g, 0, none⟩) 1 1)) w') : wpList P ops Q (o :: rest) a w := by
  refine wpList_wanted hgd fun K hK => ?_
  obtain ⟨ii, hinf, hq⟩ := Option.map_eq_some_iff.1 hinfo
  simp only [Prod.mk.injEq] at hq
  have hfill : ∀ X : Array Value, X.size = sz → Instr.fill (fun i => some (i * sz, sz)) X [(0, V)] = some (ec x).toArray := by
    intro X hX
    have h1 := fill_put (fun i => some (i * sz, sz)) X.toList 0 0 sz V (ec x) hV (by simp) hx (by rw [Array.length_toList, hX]; omega) []
    have e1 : X.toList.toArray = X := by simp
    rw [e1] at h1
    rw [h1, putAt_all _ _ (by rw [hx, ← hX]; exact Array.length_toList.symm)]
    rfl
  have hbs : (Instr.buildSlice t 1 #[(0, V)]).run P w = .ok (.slice (some ⟨w.heap.size, 0, none⟩) 1 1) (w.alloc (.cells (ec x).toArray e)) := by
    have hne : ¬ sz = 0 := by omega
    have hnb : ¬ 16777216 < sz := by omega
    have hf := hfill ((Array.range sz).map (fun k => z.cells[k % z.cells.size]!)) (by simp)
    unfold Instr.buildSlice
    simp [run_underlying ht, sizeOf, typeInfo, zeroValue, hinf, hq.1, hq.2, hne, hnb, hf, Sem.run_bind, Result.andThen]
    simp [go_sem]
  have hrun : (execOp a.eval o).run P w = .ok (.value (.slice (some ⟨w.heap.size, 0, none⟩) 1 1)) (w.alloc (.cells (ec x).toArray e)) := by
    simp only [execOp, ho]
    simp [hy, hbs, Result.andThen]
  unfold Oper.wp
  rw [hrun]
  refine hK _ _ (h w.heap.size _ ⟨?_, ?_⟩ ((Fr.refl _ _).alloc _) (Nat.le_refl _) (by simp))
  · intro y hy; simp at hy; subst hy; exact hx
  · refine ⟨some ⟨w.heap.size, 0, none⟩, 1, rfl, Nat.le_refl _, by simp [hx], (fun h => by cases h), fun ad had j u hj => ?_⟩
    cases had
    have hj' : (ec x)[j]? = some u := by simpa using hj
    rw [Addr.plain, Nat.zero_add, World.cell?_alloc_new]
    simpa using hj'
end
end Go.Proofs.U
