/- Texts X1, X2, X4, X5 of the proof of PruneTrims, one behind the other. -/
import Derived.Test.YtmkinaijkgkgiaaGreatBundlePruneTrims1
import Derived.Test.YtmkinaijkgkgiaaGreatBundlePruneTrims2
import Derived.Test.YtmkinaijkgkgiaaGreatBundlePruneTrims3
import Derived.Test.YtmkinaijkgkgiaaGreatBundlePruneTrims4
import Derived.Test.YtmkinaijkgkgiaaGreatBundlePruneTrims5
import Derived.Test.YtmkinaijkgkgiaaGreatBundlePruneTrims6
/- Nodes and entries in memory: how they are made, read, stored, handed back; no condition. -/
namespace Go.Proofs.U
open Go.RowKit
end Go.Proofs.U
namespace Go.Proofs.YtmkinaijkgkgiaaGreat
open Go.RowKit Go.Proofs.U
set_option linter.unusedSimpArgs false
set_option linter.unusedVariables false
/-- Nothing is turned. -/
def JQX (w0 : World) (_ : List Value) (W : World) : Prop := W = w0
/-- Memory only grows. -/
def JGX (w0 : World) (_ : List Value) (W : World) : Prop := Fr noB w0 W
theorem Fr.ownX {w w1 w2 : World} {g : Nat} (f : Fr noB w w1) (hg : w.heap.size ≤ g) (k : Fr (onB1 g) w1 w2) : Fr noB w w2 :=
  f.thenT k (fun i hi q => by unfold onB1 at q; omega)
/-- An entry's cells, an entry as a value, a variable that holds one. -/
abbrev enC (x : Int × Int) : List Value := pairC .i64 .i64 x
def enV (x : Int × Int) : Value := .agg (enC x).toArray
abbrev EnB (w : World) (g : Nat) (x : Int × Int) : Prop := BxV w g 40 (enC x)
theorem en_size : (Tryz.prog.info? 40).map (·.size) = some 2 := by kernel_rfl
theorem en_zero : (Tryz.prog.info? 40).map (·.zero) = some (some (.agg (enC (0, 0)).toArray)) := by kernel_rfl
theorem en_info : (Tryz.prog.info? 40).map (fun i => (i.zero, i.size, i.bytes)) = some (some (.agg (enC (0, 0)).toArray), 2, 16) := by kernel_rfl
theorem en_info2 : (Tryz.prog.info? 40).map (fun i => (i.zero, i.size)) = some (some (.agg (enC (0, 0)).toArray), 2) := by kernel_rfl
theorem en_struct : Tryz.prog.underlying 40 = some (.struct (Tryz.prog.fieldsOf 40)) := by kernel_rfl
theorem en_one (x : Int × Int) : ∀ u ∈ enC x, u.oneCell' = true := by intro u hu; simp [pairC] at hu; rcases hu with rfl | rfl <;> rfl
theorem en_eqg : Tryz.prog.eqGuardType Tryz.prog.depth 40 = false := by kernel_rfl
theorem en_places : (Tryz.prog.fieldsOf 40).toList.mapM (fun f => (Tryz.prog.info? f.type).map fun i => (f.offset, i.size)) = some [(0, 1), (1, 1)] := by kernel_rfl
theorem built_en (a b : Int) : Tryz.prog.built 40 [(0, .int .i64 a), (1, .int .i64 b)] = some (enC (a, b)).toArray := by
  rw [built_struct _ _ en_struct _ en_zero _ en_places]
  rw [fill_put _ _ 0 0 1 (.int .i64 a) [.int .i64 a] rfl rfl rfl (by decide)]
  rw [fill_put _ _ 1 1 1 (.int .i64 b) [.int .i64 b] rfl rfl rfl (by simp [putAt, pairC])]
  rfl
theorem EnB.all {w : World} {g : Nat} {x : Int × Int} (h : EnB w g x) : w.cell? ⟨g, 0, none⟩ = some (.int .i64 x.1) ∧ w.cell? ⟨g, 1, none⟩ = some (.int .i64 x.2) :=
  ⟨(h.cell 0 _ rfl).1, (h.cell 1 _ rfl).1⟩
theorem run_ldE (w : World) (b off : Nat) (x : Int × Int) (hc : ∀ q u, (enC x)[q]? = some u → w.cell? ⟨b, off + q, none⟩ = some u) : (Instr.loadAt 40 (.pointer (some ⟨b, off, none⟩))).run Tryz.prog w = .ok (enV x) w := by
  have := run_loadVar_mid (P := Tryz.prog) w b off 40 (enC x) _ (range_of fun j v hj => hc j v hj) en_struct rfl en_size
  simpa [Instr.loadAt, Instr.sureAddr, Result.andThen, enV] using this
theorem pair_beq (x y : Int × Int) : (x == y) = (x.1 == y.1 && x.2 == y.2) := by cases x; cases y; rfl
theorem run_neE (x y : Int × Int) (w : World) : (binOp .neq 40 (enV x) (enV y)).run Tryz.prog w = .ok (.bool (!(x == y))) w := by
  rw [pair_beq]
  unfold enV enC pairC
  rw [run_neq_struct]
  simp [go_sem, en_struct]
  by_cases h0 : x.1 = y.1 <;> by_cases h1 : x.2 = y.2 <;> simp [h0, h1]
/-- A node's cells, a node as a value, a variable that holds one. -/
def ndL (k : Int) (b : List Int) (v : Value) : List Value := .int .i64 k :: (pgv b ++ [v])
def ndV (k : Int) (b : List Int) (v : Value) : Value := .agg (ndL k b v).toArray
abbrev NdB (w : World) (g : Nat) (k : Int) (b : List Int) (v : Value) : Prop := BxV w g 72 (ndL k b v)
abbrev nilS : Value := .slice none 0 0
theorem nd_size : (Tryz.prog.info? 72).map (·.size) = some 18 := by kernel_rfl
theorem nd_zero : (Tryz.prog.info? 72).map (·.zero) = some (some (.agg (ndL 0 (zerB 16) nilS).toArray)) := by kernel_rfl
theorem nd_struct : Tryz.prog.underlying 72 = some (.struct (Tryz.prog.fieldsOf 72)) := by kernel_rfl
theorem nd_places : (Tryz.prog.fieldsOf 72).toList.mapM (fun f => (Tryz.prog.info? f.type).map fun i => (f.offset, i.size)) = some [(0, 1), (1, 16), (17, 1)] := by kernel_rfl
theorem arr_block : ArrT 70 16 := ⟨by kernel_rfl, by kernel_rfl, by kernel_rfl, by kernel_rfl, by kernel_rfl, by kernel_rfl, by kernel_rfl⟩
theorem arr1_block : Arr1 Tryz.prog 70 5 16 := ⟨by kernel_rfl, by kernel_rfl, by kernel_rfl, by kernel_rfl⟩
theorem sl_one {v : Value} (h : ∃ a n c, v = .slice a n c) : v.oneCell' = true := by obtain ⟨a, n, c, rfl⟩ := h; rfl
theorem ndL_len (k : Int) (b : List Int) (v : Value) (hb : b.length = 16) : (ndL k b v).length = 18 := by simp [ndL, pgv_len, hb]
theorem ndL_one (k : Int) (b : List Int) (v : Value) (h : ∃ a n c, v = .slice a n c) : ∀ u ∈ ndL k b v, u.oneCell' = true := by
  intro u hu
  simp only [ndL, List.mem_cons, List.mem_append, List.not_mem_nil, or_false] at hu
  rcases hu with rfl | hu | rfl
  · rfl
  · exact pgv_one b u hu
  · exact sl_one h
theorem built_nd0 : Tryz.prog.built 72 [] = some (ndL 0 (zerB 16) nilS).toArray := by kernel_rfl
theorem built_ndK (k : Int) : Tryz.prog.built 72 [(0, .int .i64 k)] = some (ndL k (zerB 16) nilS).toArray := by
  rw [built_struct _ _ nd_struct _ nd_zero _ nd_places]
  rw [fill_put _ _ 0 0 1 (.int .i64 k) [.int .i64 k] rfl rfl rfl (by decide)]
  rfl
theorem built_ndE (k : Int) (v : Value) (h : ∃ a n c, v = .slice a n c) : Tryz.prog.built 72 [(0, .int .i64 k), (2, v)] = some (ndL k (zerB 16) v).toArray := by
  obtain ⟨a, n, c, rfl⟩ := h
  rw [built_struct _ _ nd_struct _ nd_zero _ nd_places]
  rw [fill_put _ _ 0 0 1 (.int .i64 k) [.int .i64 k] rfl rfl rfl (by decide)]
  rw [fill_put _ _ 2 17 1 (.slice a n c) [.slice a n c] rfl rfl rfl (by simp [putAt, ndL, pgv, zerB])]
  rfl
theorem NdB.kind {w : World} {g : Nat} {k : Int} {b : List Int} {v : Value} (h : NdB w g k b v) : w.cell? ⟨g, 0, none⟩ = some (.int .i64 k) := (h.cell 0 _ rfl).1
theorem ndL_last (k : Int) (b : List Int) (v : Value) (hb : b.length = 16) : (ndL k b v)[17]? = some v := by
  unfold ndL
  rw [List.getElem?_cons_succ, List.getElem?_append_right (by rw [pgv_len, hb]; omega), pgv_len, hb]; rfl
theorem NdB.ents {w : World} {g : Nat} {k : Int} {b : List Int} {v : Value} (h : NdB w g k b v) (hb : b.length = 16) : w.cell? ⟨g, 17, none⟩ = some v := (h.cell 17 _ (ndL_last k b v hb)).1
theorem NdB.blk {w : World} {g : Nat} {k : Int} {b : List Int} {v : Value} (h : NdB w g k b v) : w.rangeAt g 1 (pgv b) :=
  h.range 1 (pgv b) (by unfold ndL; rw [List.drop_succ_cons, List.drop_zero, List.take_left' rfl])
theorem NdB.slI {w : World} {g : Nat} {k : Int} {b : List Int} {v : Value} (h : NdB w g k b v) (hb : b.length = 16) (hy : Byt b) : SlI .u8 w (.slice (some ⟨g, 1, none⟩) 16 16) b := by
  refine ⟨⟨some ⟨g, 1, none⟩, 16, by rw [hb], by omega, by simp, (fun h => by cases h), fun ad had j u hj => ?_⟩, hy⟩
  cases had
  rw [Addr.plain]
  exact h.blk j u hj
theorem run_ldN {w : World} {g : Nat} {k : Int} {b : List Int} {v : Value} (h : NdB w g k b v) (hb : b.length = 16) : (Instr.loadAt 72 (.pointer (some ⟨g, 0, none⟩))).run Tryz.prog w = .ok (ndV k b v) w := by
  have := run_loadVar_mid (P := Tryz.prog) w g 0 72 (ndL k b v) _ (h.range 0 _ (by rw [List.drop_zero, List.take_length])) nd_struct rfl (by rw [nd_size, ndL_len k b v hb])
  simpa [Instr.loadAt, Instr.sureAddr, Result.andThen, ndV] using this
theorem run_ldBlk {w : World} {g : Nat} {k : Int} {b : List Int} {v : Value} (h : NdB w g k b v) (hb : b.length = 16) : (Instr.loadAt 70 (.pointer (some ⟨g, 1, none⟩))).run Tryz.prog w = .ok (pgV b) w :=
  run_loadA arr_block w g 1 b h.blk hb
section
variable {w : World} {ops : Array Oper} {rest : List Oper} {o : Oper} {a : Act} {Q : Exit → Act → World → Prop}
theorem wpList_ldE (hgd : Region.wanted o (yielded ops a.tmps) = true) (y : Operand) (ho : o.op = .load 40 y) (b off : Nat) (hy : a.eval y = .pointer (some ⟨b, off, none⟩)) (x : Int × Int) (hc : ∀ q u, (enC x)[q]? = some u → w.cell? ⟨b, off + q, none⟩ = some u)
    (h : wpList Tryz.prog ops Q rest (a.put o.dst (enV x)) w) : wpList Tryz.prog ops Q (o :: rest) a w := by
  refine wpList_wanted hgd fun K hK => ?_
  have hr := run_ldE w b off x hc
  unfold Oper.wp execOp
  simp only [ho, hy, Sem.run_bind, hr, Result.andThen_ok]
  exact hK _ _ h
theorem wpList_allocE (hgd : Region.wanted o (yielded ops a.tmps) = true) (ho : o.op = .alloc 40)
    (h : ∀ g w', Hid (g = w.heap.size) → EnB w' g (0, 0) → Fr noB w w' → w.heap.size ≤ g → wpList Tryz.prog ops Q rest (a.put o.dst (.pointer (some ⟨g, 0, none⟩))) w') : wpList Tryz.prog ops Q (o :: rest) a w :=
  wpList_allocV hgd _ ho (enC (0, 0)) en_zero h
theorem wpList_stE (hgd : o.guard = none) (y z : Operand) (ho : o.op = .store 40 y z) (g : Nat) (hy : a.eval y = .pointer (some ⟨g, 0, none⟩)) (x x' : Int × Int) (hB : EnB w g x) (hz : a.eval z = enV x')
    (h : ∀ w', EnB w' g x' → Fr (onB1 g) w w' → wpList Tryz.prog ops Q rest (a.put o.dst undef) w') : wpList Tryz.prog ops Q (o :: rest) a w := by
  refine wpList_storeV hgd _ y z ho g 0 hy (enC x') hz _ (enC x) hB en_size (Nat.le_refl _) (en_one x') ?_
  intro w' h1 h2
  rw [putAt_all (enC x) (enC x') rfl] at h1
  exact h w' h1 h2
theorem wpList_bldE (hgd : Region.wanted o (yielded ops a.tmps) = true) (y z : Operand) (ho : o.op = .build 40 #[(0, y), (1, z)]) (p q : Int) (hy : a.eval y = .int .i64 p) (hz : a.eval z = .int .i64 q)
    (h : wpList Tryz.prog ops Q rest (a.put o.dst (enV (p, q))) w) : wpList Tryz.prog ops Q (o :: rest) a w := by
  refine wpList_wanted hgd fun K hK => ?_
  have hrun := run_build (P := Tryz.prog) w 40 #[(0, .int .i64 p), (1, .int .i64 q)] _ (built_en p q)
  unfold Oper.wp
  simp [execOp, ho, hy, hz, hrun, Result.andThen]
  exact hK _ _ h
theorem wpList_boxN (hgd : Region.wanted o (yielded ops a.tmps) = true) (y : Operand) (ho : o.op = .box 72 y) (k : Int) (b : List Int) (v : Value) (hy : a.eval y = ndV k b v)
    (h : ∀ g w', Hid (g = w.heap.size) → NdB w' g k b v → Fr noB w w' → w.heap.size ≤ g → wpList Tryz.prog ops Q rest (a.put o.dst (.pointer (some ⟨g, 0, none⟩))) w') : wpList Tryz.prog ops Q (o :: rest) a w :=
  wpList_boxV hgd _ y ho (ndL k b v) hy h
theorem wpList_allocN (hgd : Region.wanted o (yielded ops a.tmps) = true) (ho : o.op = .alloc 72)
    (h : ∀ g w', Hid (g = w.heap.size) → NdB w' g 0 (zerB 16) nilS → Fr noB w w' → w.heap.size ≤ g → wpList Tryz.prog ops Q rest (a.put o.dst (.pointer (some ⟨g, 0, none⟩))) w') : wpList Tryz.prog ops Q (o :: rest) a w :=
  wpList_allocV hgd _ ho (ndL 0 (zerB 16) nilS) nd_zero h
theorem wpList_ldN (hgd : Region.wanted o (yielded ops a.tmps) = true) (y : Operand) (ho : o.op = .load 72 y) (g : Nat) (hy : a.eval y = .pointer (some ⟨g, 0, none⟩)) (k : Int) (b : List Int) (v : Value) (hB : NdB w g k b v) (hb : b.length = 16)
    (h : wpList Tryz.prog ops Q rest (a.put o.dst (ndV k b v)) w) : wpList Tryz.prog ops Q (o :: rest) a w := by
  refine wpList_wanted hgd fun K hK => ?_
  have hr := run_ldN hB hb
  unfold Oper.wp execOp
  simp only [ho, hy, Sem.run_bind, hr, Result.andThen_ok]
  exact hK _ _ h
theorem wpList_stN (hgd : o.guard = none) (y z : Operand) (ho : o.op = .store 72 y z) (g : Nat) (hy : a.eval y = .pointer (some ⟨g, 0, none⟩)) (k : Int) (b : List Int) (v : Value) (hz : a.eval z = ndV k b v) (hb : b.length = 16) (hv : ∃ a n c, v = .slice a n c) (k0 : Int) (b0 : List Int) (v0 : Value) (hB : NdB w g k0 b0 v0) (hb0 : b0.length = 16)
    (h : ∀ w', NdB w' g k b v → Fr (onB1 g) w w' → wpList Tryz.prog ops Q rest (a.put o.dst undef) w') : wpList Tryz.prog ops Q (o :: rest) a w := by
  refine wpList_storeV hgd _ y z ho g 0 hy (ndL k b v) hz _ (ndL k0 b0 v0) hB (by rw [nd_size, ndL_len k b v hb]) (by rw [ndL_len k b v hb, ndL_len k0 b0 v0 hb0]; omega) (ndL_one k b v hv) ?_
  intro w' h1 h2
  rw [putAt_all _ _ (by rw [ndL_len k b v hb, ndL_len k0 b0 v0 hb0])] at h1
  exact h w' h1 h2
theorem wpList_ldBlk (hgd : Region.wanted o (yielded ops a.tmps) = true) (y : Operand) (ho : o.op = .load 70 y) (g : Nat) (hy : a.eval y = .pointer (some ⟨g, 1, none⟩)) (k : Int) (b : List Int) (v : Value) (hB : NdB w g k b v) (hb : b.length = 16)
    (h : wpList Tryz.prog ops Q rest (a.put o.dst (pgV b)) w) : wpList Tryz.prog ops Q (o :: rest) a w := by
  refine wpList_wanted hgd fun K hK => ?_
  have hr := run_ldBlk hB hb
  unfold Oper.wp execOp
  simp only [ho, hy, Sem.run_bind, hr, Result.andThen_ok]
  exact hK _ _ h
theorem wpList_bldN (hgd : Region.wanted o (yielded ops a.tmps) = true) (fs : Array (Nat × Operand)) (ho : o.op = .build 72 fs) (k : Int) (b : List Int) (v : Value) (ds : List (Nat × Value)) (hd : (fs.toList.map fun p => (p.1, a.eval p.2)) = ds) (hb : Tryz.prog.built 72 ds = some (ndL k b v).toArray)
    (h : wpList Tryz.prog ops Q rest (a.put o.dst (ndV k b v)) w) : wpList Tryz.prog ops Q (o :: rest) a w := by
  refine wpList_wanted hgd fun K hK => ?_
  subst hd
  have hrun := run_build (P := Tryz.prog) w 72 (fs.map fun p => (p.1, a.eval p.2)) _ (by rw [Array.toList_map]; exact hb)
  unfold Oper.wp
  simp [execOp, ho, hrun, Result.andThen]
  exact hK _ _ h
end
theorem results_nd {fn : Func} {q : Tmp} (h : fn.results = #[.cell q 72]) (tmps : Array Value) (w : World) (g : Nat) (k : Int) (b : List Int) (v : Value) (hq : tmps.getD q undef = .pointer (some ⟨g, 0, none⟩)) (hA : NdB w g k b v) (hb : b.length = 16) :
    (results fn tmps).run Tryz.prog w = .ok (ndV k b v) w :=
  results_cell_row h tmps w g 72 (ndL k b v).toArray (0, 0) _ hq hA nd_struct rfl (by rw [nd_size]; simp [ndL_len k b v hb])
theorem results_nd2 {fn : Func} {q u : Tmp} (h : fn.results = #[.cell q 72, .tmp u]) (tmps : Array Value) (w : World) (g : Nat) (k : Int) (b : List Int) (v : Value) (hq : tmps.getD q undef = .pointer (some ⟨g, 0, none⟩)) (hA : NdB w g k b v) (hb : b.length = 16) :
    (results fn tmps).run Tryz.prog w = .ok (.tuple #[ndV k b v, tmps.getD u undef]) w := by
  rw [results_cell_tmp h, hq]
  have hr := run_loadVar_mid (P := Tryz.prog) w g 0 72 (ndL k b v) _ (hA.range 0 _ (by rw [List.drop_zero, List.take_length])) nd_struct rfl (by rw [nd_size, ndL_len k b v hb])
  simp only [asAddr, Sem.run_pure, Result.andThen_ok, hr]
  rfl
/-- What lies in memory of a node that came in. -/
def NdS (w : World) (v : Value) (n : Nd) : Prop := SlP .i64 .i64 w v n.es ∧ n.ok ∧ n.es.length ≤ 1000 ∧ (Lit.int .i64 n.k).wf = true
theorem NdS.fr0 {w w' : World} {v : Value} {n : Nd} (h : NdS w v n) (f : Fr noB w w') : NdS w' v n := ⟨⟨h.1.1.fr0 f, h.1.2⟩, h.2⟩
theorem NdS.sl {w : World} {v : Value} {n : Nd} (h : NdS w v n) : ∃ a m c, v = .slice a m c := by
  obtain ⟨a, c, rfl, _⟩ := h.1.1.opn
  exact ⟨_, _, _, rfl⟩
theorem NdS.none (w : World) : NdS w nilS nd0 := ⟨⟨⟨by simp [nd0], Sl.nil w 2⟩, by simp [nd0]⟩, ⟨zerB_len 16, zerB_byt 16⟩, by simp [nd0], rfl⟩
end Go.Proofs.YtmkinaijkgkgiaaGreat
/- Which nodes can be: rightEntries, Right; slices.Equal of entries; Same: the program's and the document's. (Written by x2_gen.py.) -/
namespace Go.Proofs.YtmkinaijkgkgiaaGreat
open Go.RowKit Go.Proofs.U
set_option linter.unusedSimpArgs false
set_option linter.unusedVariables false
def entsR (l : List (Int × Int)) : Bool := decide (1 ≤ l.length) && decide (l.length ≤ 6) && rises (-1) l
theorem rises_p (m : Int) (x : Int × Int) (r : List (Int × Int)) : rises (m - 1) (x :: r) = (!decide (x.1 < m) && !decide (64 ≤ x.1) && !decide (x.2 < 0) && !decide (240 ≤ x.2) && rises x.1 r) := by
  obtain ⟨a, p⟩ := x
  have e1 : decide (m - 1 < a) = !decide (a < m) := by rw [← decide_not]; exact decide_eq_decide.2 (by omega)
  have e2 : decide (a ≤ 63) = !decide (64 ≤ a) := by rw [← decide_not]; exact decide_eq_decide.2 (by omega)
  have e3 : decide (0 ≤ p) = !decide (p < 0) := by rw [← decide_not]; exact decide_eq_decide.2 (by omega)
  have e4 : decide (p ≤ 239) = !decide (240 ≤ p) := by rw [← decide_not]; exact decide_eq_decide.2 (by omega)
  show (decide (m - 1 < a) && decide (a ≤ 63) && decide (0 ≤ p) && decide (p ≤ 239) && rises a r) = _
  rw [e1, e2, e3, e4]
theorem right_tree_eq (k : Int) (b : List Int) (es : List (Int × Int)) (hk : ¬ k = 1) : (Nd.mk k b es).right = ((k == 2 || k == 3) && (b == zerB 16) && entsR es) := by
  unfold Nd.right entsR
  simp only
  rw [if_neg hk]
  simp only [Bool.and_assoc]
theorem take_eq_succ {la lb : List (Int × Int)} {k : Nat} (h : la.take k = lb.take k) (ha : k < la.length) (hb : k < lb.length) (hx : la[k] = lb[k]) : la.take (k + 1) = lb.take (k + 1) := by
  rw [List.take_succ_eq_append_getElem ha, List.take_succ_eq_append_getElem hb, h, hx]

set_option maxRecDepth 100000 in
set_option maxHeartbeats 2000000 in
theorem rightE_any (v : Value) (l : List (Int × Int)) (w : World) (hs : SlP .i64 .i64 w v l) (hm : l.length ≤ 1000) :
    Calls Tryz.prog 88 #[v] w fun r w' => r = .returned (.bool (entsR l)) ∧ Fr noB w w' := by
  obtain ⟨a0, c0, rfl, hc0⟩ := hs.1.opn
  obtain ⟨R, hR0⟩ : ∃ R, Hid (rises (-1) l = R) := ⟨_, rfl⟩
  by_cases hl : l.length = 0
  · have hno : entsR l = false := by unfold entsR; simp [hl]
    rw [hno, hl]
    go_enter Tryz.func88, Tryz.ntmps88
    go_wp2
    go_ret
    exact ⟨rfl, Fr.refl _ _⟩
  have hl0 : ((l.length : Int) == 0) = false := by simp; exact fun h => hl (by rw [h]; rfl)
  by_cases h6 : 6 < l.length
  · have hno : entsR l = false := by unfold entsR; simp; intro _ h; omega
    have h6' : (6 : Int) < (l.length : Int) := by omega
    rw [hno]
    go_enter Tryz.func88, Tryz.ntmps88
    go_wp2
    go_ret
    exact ⟨rfl, Fr.refl _ _⟩
  have h6' : ¬ (6 : Int) < (l.length : Int) := by omega
  have hyes0 : entsR l = R := by unfold entsR; rw [hR0.out]; simp; intro _; omega
  rw [hyes0]
  clear hyes0
  go_enter Tryz.func88, Tryz.ntmps88
  go_wp2
  go_loopw [3, 16] (fun u i wr => ∃ (k : Nat) (m : Int), k ≤ l.length ∧ i = .int .i64 (k : Int) ∧ u = .int .i64 m ∧ 0 ≤ m ∧ m ≤ 64 ∧ Hid (rises (m - 1) (l.drop k) = R) ∧ Fr noB w wr) (fun _ i _ => l.length - (intOf i).toNat)
  case atStart => exact ⟨0, 0, by omega, rfl, rfl, by omega, by omega, by rw [List.drop_zero]; exact hR0, Fr.refl _ _⟩
  case round =>
    obtain ⟨k, m, hk, rfl, rfl, hm0, hm1, hR, hf⟩ := hrel
    have zf := hf.size
    by_cases hlt : k < l.length
    · have hlt' : (k : Int) < (l.length : Int) := by omega
      have hcons : Hid (rises (m - 1) (l.drop k) = (!decide (l[k].1 < m) && !decide (64 ≤ l[k].1) && !decide (l[k].2 < 0) && !decide (240 ≤ l[k].2) && rises l[k].1 (l.drop (k + 1)))) := by show _ = _; rw [List.drop_eq_getElem_cons hlt, rises_p]
      obtain ⟨x, Hx⟩ : ∃ x, Hid (l[k] = x) := ⟨l[k], (rfl : l[k] = l[k])⟩
      rw [Hx.out] at hcons
      by_cases h1 : x.1 < m
      · have hno : R = false := by rw [← hR.out, hcons.out]; simp [h1]
        subst hno
        go_wp2_with (first
          | (refine at_idx 31 _ _ rfl ?_; go_must (refine wpList_idxR rfl 31 _ _ rfl 40 Tryz.underlying31 2 en_size _ _ _ rfl (hs.1.fr0 hf) (by decide) _ _ k rfl rfl hlt ?_; rw [Hx.out]; intro ba oa hba hca))
          | (with_reducible refine at_wpP ?_; refine at_ld 40 _ rfl ?_; have q := hca; refine wpList_ldE rfl _ rfl ba oa rfl x hca ?_)
          | (with_reducible refine at_wpP ?_; refine wpList_allocE rfl rfl ?_; intro gl w1 hgl b1 f1 sl; have l1 := b1.lt; have F1 := hf.thenN f1; have z1 := f1.size)
          | (with_reducible refine at_wpP ?_; refine at_st 40 _ _ rfl ?_; go_must (refine wpList_stE rfl _ _ rfl gl rfl (0, 0) x b1 rfl ?_; intro w2 B2 f2; have F2 := Fr.ownX F1 (by omega) f2; have z2 := f2.size; obtain ⟨c0, c1⟩ := B2.all)))
        go_ret
        exact ⟨rfl, F2⟩
      · skip
        by_cases h2 : 64 ≤ x.1
        · have hno : R = false := by rw [← hR.out, hcons.out]; simp [h2]
          subst hno
          go_wp2_with (first
            | (refine at_idx 31 _ _ rfl ?_; go_must (refine wpList_idxR rfl 31 _ _ rfl 40 Tryz.underlying31 2 en_size _ _ _ rfl (hs.1.fr0 hf) (by decide) _ _ k rfl rfl hlt ?_; rw [Hx.out]; intro ba oa hba hca))
            | (with_reducible refine at_wpP ?_; refine at_ld 40 _ rfl ?_; have q := hca; refine wpList_ldE rfl _ rfl ba oa rfl x hca ?_)
            | (with_reducible refine at_wpP ?_; refine wpList_allocE rfl rfl ?_; intro gl w1 hgl b1 f1 sl; have l1 := b1.lt; have F1 := hf.thenN f1; have z1 := f1.size)
            | (with_reducible refine at_wpP ?_; refine at_st 40 _ _ rfl ?_; go_must (refine wpList_stE rfl _ _ rfl gl rfl (0, 0) x b1 rfl ?_; intro w2 B2 f2; have F2 := Fr.ownX F1 (by omega) f2; have z2 := f2.size; obtain ⟨c0, c1⟩ := B2.all)))
          go_ret
          exact ⟨rfl, F2⟩
        · skip
          by_cases h3 : x.2 < 0
          · have hno : R = false := by rw [← hR.out, hcons.out]; simp [h3]
            subst hno
            go_wp2_with (first
              | (refine at_idx 31 _ _ rfl ?_; go_must (refine wpList_idxR rfl 31 _ _ rfl 40 Tryz.underlying31 2 en_size _ _ _ rfl (hs.1.fr0 hf) (by decide) _ _ k rfl rfl hlt ?_; rw [Hx.out]; intro ba oa hba hca))
              | (with_reducible refine at_wpP ?_; refine at_ld 40 _ rfl ?_; have q := hca; refine wpList_ldE rfl _ rfl ba oa rfl x hca ?_)
              | (with_reducible refine at_wpP ?_; refine wpList_allocE rfl rfl ?_; intro gl w1 hgl b1 f1 sl; have l1 := b1.lt; have F1 := hf.thenN f1; have z1 := f1.size)
              | (with_reducible refine at_wpP ?_; refine at_st 40 _ _ rfl ?_; go_must (refine wpList_stE rfl _ _ rfl gl rfl (0, 0) x b1 rfl ?_; intro w2 B2 f2; have F2 := Fr.ownX F1 (by omega) f2; have z2 := f2.size; obtain ⟨c0, c1⟩ := B2.all)))
            go_ret
            exact ⟨rfl, F2⟩
          · skip
            by_cases h4 : 240 ≤ x.2
            · have hno : R = false := by rw [← hR.out, hcons.out]; simp [h4]
              subst hno
              go_wp2_with (first
                | (refine at_idx 31 _ _ rfl ?_; go_must (refine wpList_idxR rfl 31 _ _ rfl 40 Tryz.underlying31 2 en_size _ _ _ rfl (hs.1.fr0 hf) (by decide) _ _ k rfl rfl hlt ?_; rw [Hx.out]; intro ba oa hba hca))
                | (with_reducible refine at_wpP ?_; refine at_ld 40 _ rfl ?_; have q := hca; refine wpList_ldE rfl _ rfl ba oa rfl x hca ?_)
                | (with_reducible refine at_wpP ?_; refine wpList_allocE rfl rfl ?_; intro gl w1 hgl b1 f1 sl; have l1 := b1.lt; have F1 := hf.thenN f1; have z1 := f1.size)
                | (with_reducible refine at_wpP ?_; refine at_st 40 _ _ rfl ?_; go_must (refine wpList_stE rfl _ _ rfl gl rfl (0, 0) x b1 rfl ?_; intro w2 B2 f2; have F2 := Fr.ownX F1 (by omega) f2; have z2 := f2.size; obtain ⟨c0, c1⟩ := B2.all)))
              go_ret
              exact ⟨rfl, F2⟩
            · skip
              have hyes : Hid (rises x.1 (l.drop (k + 1)) = R) := by show _ = _; rw [← hR.out, hcons.out]; simp [h1, h2, h3, h4]
              go_wp2_with (first
                | (refine at_idx 31 _ _ rfl ?_; go_must (refine wpList_idxR rfl 31 _ _ rfl 40 Tryz.underlying31 2 en_size _ _ _ rfl (hs.1.fr0 hf) (by decide) _ _ k rfl rfl hlt ?_; rw [Hx.out]; intro ba oa hba hca))
                | (with_reducible refine at_wpP ?_; refine at_ld 40 _ rfl ?_; have q := hca; refine wpList_ldE rfl _ rfl ba oa rfl x hca ?_)
                | (with_reducible refine at_wpP ?_; refine wpList_allocE rfl rfl ?_; intro gl w1 hgl b1 f1 sl; have l1 := b1.lt; have F1 := hf.thenN f1; have z1 := f1.size)
                | (with_reducible refine at_wpP ?_; refine at_st 40 _ _ rfl ?_; go_must (refine wpList_stE rfl _ _ rfl gl rfl (0, 0) x b1 rfl ?_; intro w2 B2 f2; have F2 := Fr.ownX F1 (by omega) f2; have z2 := f2.size; obtain ⟨c0, c1⟩ := B2.all)))
              go_roundw
              case rel => exact ⟨k + 1, x.1 + 1, by omega, by go_num, by go_num, by omega, by omega, by rw [show x.1 + 1 - 1 = x.1 by omega]; exact hyes, F2⟩
              case measure => simp [intOf]; omega
    · obtain rfl : k = l.length := by omega
      have hR' : R = true := by rw [← hR.out, List.drop_length]; rfl
      subst hR'
      go_wp2
      go_ret
      exact ⟨rfl, hf⟩

set_option maxRecDepth 100000 in
set_option maxHeartbeats 2000000 in
theorem nright_any (n : Nd) (v : Value) (w : World) (h : NdS w v n) :
    Calls Tryz.prog 65 #[ndV n.k n.b v] w fun r w' => r = .returned (.bool n.right) ∧ Fr noB w w' := by
  obtain ⟨k, b, es⟩ := n
  obtain ⟨hs, ⟨hb, hy⟩, hm, hwf⟩ := h
  have hS := hs
  obtain ⟨a0, c0, rfl, hc0⟩ := hs.1.opn
  have Hb := show Hid _ from hb
  clear hb
  simp only at hS hs hc0 hwf Hb hy hm ⊢
  by_cases hk : k = 1
  · subst hk
    obtain ⟨R, HR⟩ : ∃ R, Hid (((es.length : Int) == 0) = R) := ⟨_, rfl⟩
    have hr : (Nd.mk 1 b es).right = R := by rw [← HR.out]; unfold Nd.right; simp; cases es <;> simp; omega
    rw [hr]
    clear hr
    go_enter Tryz.func65, Tryz.ntmps65
    go_wp2_with (first
      | (with_reducible refine at_wpP ?_; refine wpList_boxN rfl _ rfl 1 b (.slice a0 es.length c0) rfl ?_; intro g1 w1 hg1 b1 f1 s1; have q0 := b1.kind; have q2 := b1.ents Hb.out))
    go_ret
    exact ⟨by rw [HR.out]; rfl, f1⟩
  · rw [right_tree_eq k b es hk]
    have hk1 : (k == 1) = false := by simpa using hk
    by_cases hk23 : k = 2 ∨ k = 3
    · have hkk : (k == 2 || k == 3) = true := by simpa using hk23
      rw [hkk, Bool.true_and]
      obtain ⟨B, HB⟩ : ∃ B, Hid ((b == zerB 16) = B) := ⟨_, rfl⟩
      rw [HB.out]
      cases B with
      | false =>
        rcases hk23 with rfl | rfl
        all_goals
          go_enter Tryz.func65, Tryz.ntmps65
          go_wp2_with (first
            | (with_reducible refine at_wpP ?_; refine wpList_boxN rfl _ rfl _ b (.slice a0 es.length c0) rfl ?_; intro g1 w1 hg1 b1 f1 s1; have q0 := b1.kind; have q2 := b1.ents Hb.out)
            | (with_reducible refine at_wpP ?_; refine at_ld 70 _ rfl ?_; go_must (refine wpList_ldBlk rfl _ rfl g1 rfl _ b _ b1 Hb.out ?_))
            | (with_reducible refine at_wpP ?_; refine wpList_buildA arr_block rfl rfl ?_)
            | (with_reducible refine at_wpP ?_; refine wpList_eqlA arr_block rfl _ _ _ rfl b (zerB 16) rfl rfl Hb.out (zerB_len 16) ?_; rw [HB.out]))
          go_ret
          exact ⟨rfl, f1⟩
      | true =>
        rw [Bool.true_and]
        rcases hk23 with rfl | rfl
        all_goals
          go_enter Tryz.func65, Tryz.ntmps65
          go_wp2_with (first
            | (with_reducible refine at_wpP ?_; refine wpList_boxN rfl _ rfl _ b (.slice a0 es.length c0) rfl ?_; intro g1 w1 hg1 b1 f1 s1; have q0 := b1.kind; have q2 := b1.ents Hb.out)
            | (with_reducible refine at_wpP ?_; refine at_ld 70 _ rfl ?_; go_must (refine wpList_ldBlk rfl _ rfl g1 rfl _ b _ b1 Hb.out ?_))
            | (with_reducible refine at_wpP ?_; refine wpList_buildA arr_block rfl rfl ?_)
            | (with_reducible refine at_wpP ?_; refine wpList_eqlA arr_block rfl _ _ _ rfl b (zerB 16) rfl rfl Hb.out (zerB_len 16) ?_; rw [HB.out])
            | (go_at_call 88; go_must (refine (rightE_any _ es _ ⟨hS.1.fr0 f1, hS.2⟩ hm).mono ?_; rintro e w2 ⟨rfl, f2⟩)))
          go_ret
          exact ⟨rfl, f1.thenN f2⟩
    · have hkk : (k == 2 || k == 3) = false := by simp; exact ⟨fun h => hk23 (Or.inl h), fun h => hk23 (Or.inr h)⟩
      rw [hkk, Bool.false_and, Bool.false_and]
      have hk2 : (k == 2) = false := by simp at hkk; simpa using hkk.1
      have hk3 : (k == 3) = false := by simp at hkk; simpa using hkk.2
      clear hkk
      go_enter Tryz.func65, Tryz.ntmps65
      go_wp2_with (first
        | (with_reducible refine at_wpP ?_; refine wpList_boxN rfl _ rfl _ b (.slice a0 es.length c0) rfl ?_; intro g1 w1 hg1 b1 f1 s1; have q0 := b1.kind; have q2 := b1.ents Hb.out))
      go_ret
      exact ⟨rfl, f1⟩

end Go.Proofs.YtmkinaijkgkgiaaGreat
/- content of package leaf: the bytes of a node that can be. (Written by x4_gen.py.) -/
namespace Go.Proofs.U
open Go.RowKit
section
variable {P : Program} {w : World} {ops : Array Oper} {rest : List Oper} {o : Oper} {a : Act} {Q : Exit → Act → World → Prop}
theorem ownI_new (w : World) (k : IntKind) (e : TypeId) (xs : List Int) (hm : xs.length ≤ maxLen) : OwnI k e (w.alloc (.cells (xs.map (Value.int k)).toArray e)) w.heap.size (.slice (some ⟨w.heap.size, 0, none⟩) xs.length xs.length) xs :=
  ⟨by simp, .inr ⟨w.heap.size, xs.length, _, rfl, Nat.le_refl _, heap_alloc_new w _, Nat.le_refl _, hm, by simp, by rw [List.take_of_length_le (by simp)]⟩⟩
theorem wpList_mk1I (hgd : Region.wanted o (yielded ops a.tmps) = true) (t : TypeId) (y : Operand) (ho : o.op = .buildSlice t 1 #[(0, y)]) (e : TypeId) (k : IntKind) (x : Int) (hy : a.eval y = .int k x)
    (hrun : ∀ w, (Instr.buildSlice t 1 #[(0, .int k x)]).run P w = .ok (.slice (some ⟨w.heap.size, 0, none⟩) 1 1) (w.alloc (.cells #[.int k x] e)))
    (h : ∀ g w', OwnI k e w' w.heap.size (.slice (some ⟨g, 0, none⟩) 1 1) [x] → Fr noB w w' → w.heap.size ≤ g → g < w'.heap.size → wpList P ops Q rest (a.put o.dst (.slice (some ⟨g, 0, none⟩) 1 1)) w') : wpList P ops Q (o :: rest) a w := by
  refine wpList_wanted hgd fun K hK => ?_
  unfold Oper.wp
  simp [execOp, ho, hy, hrun, Result.andThen]
  exact hK _ _ (h w.heap.size _ (ownI_new w k e [x] (by unfold maxLen; simp)) ((Fr.refl _ _).alloc _) (Nat.le_refl _) (by simp))
theorem wpList_mk2I (hgd : Region.wanted o (yielded ops a.tmps) = true) (t : TypeId) (y z : Operand) (ho : o.op = .buildSlice t 2 #[(0, y), (1, z)]) (e : TypeId) (k : IntKind) (x x' : Int) (hy : a.eval y = .int k x) (hz : a.eval z = .int k x')
    (hrun : ∀ w, (Instr.buildSlice t 2 #[(0, .int k x), (1, .int k x')]).run P w = .ok (.slice (some ⟨w.heap.size, 0, none⟩) 2 2) (w.alloc (.cells #[.int k x, .int k x'] e)))
    (h : ∀ g w', OwnI k e w' w.heap.size (.slice (some ⟨g, 0, none⟩) 2 2) [x, x'] → Fr noB w w' → w.heap.size ≤ g → g < w'.heap.size → wpList P ops Q rest (a.put o.dst (.slice (some ⟨g, 0, none⟩) 2 2)) w') : wpList P ops Q (o :: rest) a w := by
  refine wpList_wanted hgd fun K hK => ?_
  unfold Oper.wp
  simp [execOp, ho, hy, hz, hrun, Result.andThen]
  exact hK _ _ (h w.heap.size _ (ownI_new w k e [x, x'] (by unfold maxLen; simp)) ((Fr.refl _ _).alloc _) (Nat.le_refl _) (by simp))
end
end Go.Proofs.U
namespace Go.Proofs.YtmkinaijkgkgiaaGreat
open Go.RowKit Go.Proofs.U
set_option linter.unusedSimpArgs false
set_option linter.unusedVariables false
theorem run_mk1_u64 (x : Int) (w : World) : (Instr.buildSlice 145 1 #[(0, .int .u64 x)]).run Tryz.prog w = .ok (.slice (some ⟨w.heap.size, 0, none⟩) 1 1) (w.alloc (.cells #[.int .u64 x] 144)) := by simp [go_sem]
theorem run_mk2_u64 (x y : Int) (w : World) : (Instr.buildSlice 145 2 #[(0, .int .u64 x), (1, .int .u64 y)]).run Tryz.prog w = .ok (.slice (some ⟨w.heap.size, 0, none⟩) 2 2) (w.alloc (.cells #[.int .u64 x, .int .u64 y] 144)) := by simp [go_sem]
theorem info_u64 : (Tryz.prog.info? 144).map (fun i => (i.zero, i.size, i.bytes)) = some (some (.int .u64 0), 1, 8) := by kernel_rfl
theorem wrap_u64_sm {x : Int} (h0 : 0 ≤ x) (h1 : x < 1000) : IntKind.u64.wrap x = x := by
  have : (0:Int) ≤ x ∧ x < 18446744073709551616 := by omega
  simp [IntKind.wrap, IntKind.bits, IntKind.signed, IntKind.min, IntKind.max]
  omega
theorem wf_u64_sm {x : Int} (h0 : 0 ≤ x) (h1 : x < 1000) : (Lit.int .u64 x).wf = true := by
  simp [Lit.wf, IntKind.min, IntKind.max, IntKind.signed, IntKind.bits]; omega
theorem putB_one {l : List Int} (h : Byt l) : ([] : List Int) ++ putB (1 : Int).toNat l = l := by
  rw [List.nil_append]
  show putB 1 l = l
  induction l with
  | nil => rfl
  | cons x l ih =>
    have hx := u8_bd (h x (by simp))
    have := ih (fun y hy => h y (by simp [hy]))
    simp [putB, leB] at this ⊢
    exact ⟨by omega, this⟩
theorem fits_one {l : List Int} (h : Byt l) : l.all (fits 1) = true := by
  rw [List.all_eq_true]
  intro x hx
  have hx := u8_bd (h x hx)
  simp [fits, lim]; omega
theorem byt_u64 {l : List Int} (h : Byt l) : ∀ n ∈ l, (Lit.int .u64 n).wf = true := fun n hn => by
  have := u8_bd (h n hn)
  exact wf_u64_sm this.1 (by omega)
theorem pairs_snoc (l : List (Int × Int)) (j : Nat) (h : j < l.length) : pairs (l.take (j + 1)) = pairs (l.take j) ++ [l[j].1, l[j].2] := by
  rw [List.take_succ_eq_append_getElem h]
  unfold pairs
  rw [List.flatMap_append]; rfl

set_option maxRecDepth 100000 in
set_option maxHeartbeats 2000000 in
theorem content_1 (n : Nd) (v : Value) (w : World) (h : NdS w v n) (hr : n.right = true) (hk : n.k = 1) :
    Calls Tryz.prog 67 #[ndV n.k n.b v] w fun r w' => ∃ u, r = .returned u ∧ OwnI .u8 5 w' w.heap.size u n.body ∧ Fr noB w w' := by
  have hbyt := body_byt hr h.2.1
  have hbl := body_len hr h.2.1.1
  have hes := right_data hr hk
  obtain ⟨k, b, es⟩ := n
  simp only at hk hes
  subst hk
  subst hes
  obtain ⟨hs, ⟨hb, hy⟩, hm, hwf⟩ := h
  simp only at hs hb hy hm hwf
  have Hb := show Hid _ from hb
  have hS := hs
  obtain ⟨a0, c0, rfl, hc0⟩ := hs.1.opn
  obtain ⟨es, Hes⟩ : ∃ es : List (Int × Int), Hid (es = []) := ⟨_, rfl⟩
  obtain ⟨Y, HY⟩ : ∃ Y, Hid ((Nd.mk 1 b []).body = Y) := ⟨_, rfl⟩
  have hY : Hid ([1] ++ b = Y) := by show _ = _; rw [← HY.out]; unfold Nd.body; simp
  simp only
  rw [HY.out]
  rw [← Hes.out] at hS ⊢
  have hel : Hid (es.length = 0) := by show _ = _; rw [Hes.out]; rfl
  have hes6 : es.length ≤ 6 := by rw [hel.out]; decide
  obtain ⟨L, HL⟩ : ∃ L : List Int, Hid (([1] : List Int) ++ pairs es = L) := ⟨_, rfl⟩
  have hL1 : Hid (L = [1]) := by show _ = _; rw [← HL.out, Hes.out]; rfl
  have hLb : Byt L := by rw [hL1.out]; intro x hx; simp at hx; subst hx; decide
  clear hbyt hbl hb hs HY
  have hLl0 : Hid (L.length ≤ 20) := by
    show _ ≤ _
    rw [← HL.out, List.length_append, pairs_len]; simp; omega
  have hLl : Hid (L.length ≤ 1000000000000) := Nat.le_trans hLl0.out (by decide)
  have hput : Hid (([] : List Int) ++ putB (1 : Int).toNat L = L) := putB_one hLb
  have hfit := fits_one hLb
  go_enter Tryz.func67, Tryz.ntmps67
  have hkw : IntKind.u64.wrap 1 = 1 := wrap_u64_sm (by decide) (by decide)
  go_wp2_with (first
    | (with_reducible refine at_wpP ?_; refine wpList_boxN rfl _ rfl _ b (.slice a0 es.length c0) rfl ?_; intro g1 w1 hg1 b1 f1 s1; have q0 := NdB.kind b1; have q2 := NdB.ents b1 Hb.out; have l1 := b1.lt; have z1 := f1.size)
    | (with_reducible refine at_wpP ?_; refine wpList_mk1I rfl 145 _ rfl 144 .u64 1 rfl (run_mk1_u64 1) ?_; intro g3 w2 o2 f2 r2 t2; have b2 := b1.fr0 f2; have q0 := NdB.kind b2; have q2 := NdB.ents b2 Hb.out))
  go_loopw [3, 25] (fun u i wr => ∃ (j : Nat), j ≤ es.length ∧ i = .int .i64 (j : Int) ∧ OwnI .u64 144 wr w1.heap.size u ([1] ++ pairs (es.take j)) ∧ Fr noB w1 wr) (fun _ i _ => es.length - (intOf i).toNat)
  case atStart => exact ⟨0, by omega, rfl, by rw [List.take_zero]; exact o2, f2⟩
  case round =>
    obtain ⟨j, hj, rfl, ho, hf⟩ := hrel
    have zf := hf.size
    by_cases hlt : j < es.length
    · exact absurd hlt (by rw [hel.out]; omega)
    · obtain rfl : j = es.length := by omega
      rw [List.take_length, HL.out] at ho
      have hosl := ho.sl (byt_u64 hLb)
      obtain ⟨a7, c7, rfl⟩ := ho.opn
      have hlt' : ¬ (es.length : Int) < (es.length : Int) := by omega
      have hLl1 : Hid (L.length = 1) := by show _ = _; rw [hL1.out]; rfl
      have hblk0 := fun W (f : Fr noB w1 W) => NdB.slI (b1.fr0 f) Hb.out hy
      go_wp2_with (first
        | (go_at_call 90; go_must (refine (put_yes 1 rfl _ _ [] L _ (SlI.nil _ _) hosl (by simp) hLl.out hfit).mono ?_; rw [hput.out]; rintro e w9 ⟨v9, rfl, o9, f9⟩; have F9 := hf.thenN f9; have b9 := b1.fr0 F9; have q0 := NdB.kind b9; have hblk := hblk0 _ F9; obtain ⟨a9, c9, rfl⟩ := o9.opn))
        | (refine at_cut 70 _ none none none rfl ?_; go_must (refine wpList_allOff arr1_block (by decide) rfl _ rfl g1 1 rfl ?_))
        | (at_builtin; go_must (refine wpList_app rfl _ _ 120 rfl wr.heap.size 5 _ 1 1 Tryz.underlying120 info5 rfl (by decide) _ _ _ rfl o9 _ _ _ rfl hblk.1 (ones _ _) (by rw [hLl1.out, Hb.out]; unfold maxLen; decide) (by rw [hLl1.out, Hb.out]; decide) f9.size ?_; intro v10 w10 hown10 hgr10)))
      go_ret
      have o10 : OwnI .u8 5 w10 wr.heap.size v10 (L ++ b) := OwnI.mk _ hown10 (by simp)
      rw [hL1.out, hY.out] at o10
      exact ⟨_, rfl, o10.rebase (by omega), f1.thenN (F9.grown hgr10 (fun k hk hlt => by have := (o9.newB k hk).1; omega))⟩

set_option maxRecDepth 100000 in
set_option maxHeartbeats 2000000 in
theorem content_2 (n : Nd) (v : Value) (w : World) (h : NdS w v n) (hr : n.right = true) (hk : ¬ n.k = 1) :
    Calls Tryz.prog 67 #[ndV n.k n.b v] w fun r w' => ∃ u, r = .returned u ∧ OwnI .u8 5 w' w.heap.size u n.body ∧ Fr noB w w' := by
  have hbyt := body_byt hr h.2.1
  have hbl := body_len hr h.2.1.1
  obtain ⟨hkk, hbz, he1, he6, hri⟩ := right_tree hr hk
  have hall := rises_all hri (by decide)
  obtain ⟨k, b, es⟩ := n
  obtain ⟨hs, ⟨hb, hy⟩, hm, hwf⟩ := h
  simp only at hs hb hy hm hwf hk hkk hbz he1 he6 hri hall hbyt hbl
  have Hb := show Hid _ from hb
  have hS := hs
  obtain ⟨a0, c0, rfl, hc0⟩ := hs.1.opn
  have hes6 : es.length ≤ 6 := he6
  obtain ⟨L, HL⟩ : ∃ L : List Int, Hid ([k, (es.length : Int)] ++ pairs es = L) := ⟨_, rfl⟩
  have hL1 : Hid ((Nd.mk k b es).body = L) := by show _ = _; rw [← HL.out]; unfold Nd.body; simp only; rw [if_neg hk]; rfl
  have hLb : Byt L := by rw [← hL1.out]; exact hbyt
  simp only
  rw [hL1.out]
  have hk0 : 0 ≤ k ∧ k < 1000 := by omega
  have hkw : IntKind.u64.wrap k = k := wrap_u64_sm hk0.1 hk0.2
  have hnw : IntKind.u64.wrap (es.length : Int) = (es.length : Int) := wrap_u64_sm (by omega) (by omega)
  have hnwf : ∀ n ∈ [(es.length : Int)], (Lit.int .u64 n).wf = true := by intro n hn; simp at hn; subst hn; exact wf_u64_sm (by omega) (by omega)
  have hk1 : (k == 1) = false := by simpa using hk
  clear hbyt hbl hb hs hbz hri hkk hm he1 he6
  have hLl0 : Hid (L.length ≤ 20) := by
    show _ ≤ _
    rw [← HL.out, List.length_append, pairs_len]; simp; omega
  have hLl : Hid (L.length ≤ 1000000000000) := Nat.le_trans hLl0.out (by decide)
  have hput : Hid (([] : List Int) ++ putB (1 : Int).toNat L = L) := putB_one hLb
  have hfit := fits_one hLb
  go_enter Tryz.func67, Tryz.ntmps67
  go_wp2_with (first
    | (with_reducible refine at_wpP ?_; refine wpList_boxN rfl _ rfl _ b (.slice a0 es.length c0) rfl ?_; intro g1 w1 hg1 b1 f1 s1; have q0 := NdB.kind b1; have q2 := NdB.ents b1 Hb.out; have l1 := b1.lt; have z1 := f1.size)
    | (with_reducible refine at_wpP ?_; have q := o2; refine wpList_mk1I rfl 145 _ rfl 144 .u64 (es.length : Int) rfl (run_mk1_u64 _) ?_; intro g4 w3 o3 f3 r3 t3; have p3 := o2.fr f3 (fun _ _ q => q))
    | (with_reducible refine at_wpP ?_; refine wpList_mk1I rfl 145 _ rfl 144 .u64 k rfl (run_mk1_u64 k) ?_; intro g3 w2 o2 f2 r2 t2; have b2 := b1.fr0 f2; have q0 := NdB.kind b2; have q2 := NdB.ents b2 Hb.out)
    | (at_builtin; go_must (refine wpList_app rfl _ _ 145 rfl w1.heap.size 144 _ 1 8 Tryz.underlying145 info_u64 rfl (by decide) _ _ _ rfl p3 _ _ _ rfl (o3.sl hnwf).1 (ones _ _) (by unfold maxLen; simp) (by simp) ?hz ?_; rotate_left 1; intro v4 w4 hown4 hgr4; have F4 : Fr noB w1 w4 := (f2.thenN f3).grown hgr4 (owns_new p3); have b4 := b1.fr0 F4; have q0 := NdB.kind b4; have q2 := NdB.ents b4 Hb.out)))
  case hz => have := f2.size; have := f3.size; omega
  have o4 : OwnI .u64 144 w4 w1.heap.size v4 [k, (es.length : Int)] := OwnI.mk _ hown4 rfl
  go_loopw [3, 25] (fun u i wr => ∃ (j : Nat), j ≤ es.length ∧ i = .int .i64 (j : Int) ∧ OwnI .u64 144 wr w1.heap.size u ([k, (es.length : Int)] ++ pairs (es.take j)) ∧ Fr noB w1 wr) (fun _ i _ => es.length - (intOf i).toNat)
  case atStart => exact ⟨0, by omega, rfl, by rw [List.take_zero]; exact o4, F4⟩
  case round =>
    obtain ⟨j, hj, rfl, ho, hf⟩ := hrel
    have zf := hf.size
    by_cases hlt : j < es.length
    · have hlt' : (j : Int) < (es.length : Int) := by omega
      have hps := show Hid _ from pairs_snoc es j hlt
      have hxa := hall es[j] (List.getElem_mem hlt)
      obtain ⟨x, Hx⟩ : ∃ x, Hid (es[j] = x) := ⟨es[j], (rfl : es[j] = es[j])⟩
      rw [Hx.out] at hxa hps
      have hx1 : IntKind.u64.wrap x.1 = x.1 := wrap_u64_sm hxa.1.1 (by omega)
      have hx2 : IntKind.u64.wrap x.2 = x.2 := wrap_u64_sm hxa.2.1 (by omega)
      have hxwf : ∀ n ∈ [x.1, x.2], (Lit.int .u64 n).wf = true := by
        intro n hn
        simp at hn
        rcases hn with rfl | rfl
        · exact wf_u64_sm hxa.1.1 (by omega)
        · exact wf_u64_sm hxa.2.1 (by omega)
      obtain ⟨M, HM⟩ : ∃ M, Hid ([k, (es.length : Int)] ++ pairs (es.take j) = M) := ⟨_, rfl⟩
      have hMl : Hid (M.length ≤ 20) := by
        show _ ≤ _
        rw [← HM.out, List.length_append, pairs_len, List.length_take]; simp; omega
      rw [HM.out] at ho
      obtain ⟨a7, c7, rfl⟩ := ho.opn
      go_wp2_with (first
        | (refine at_idx 31 _ _ rfl ?_; go_must (refine wpList_idxR rfl 31 _ _ rfl 40 Tryz.underlying31 2 en_size _ _ _ rfl (hS.1.fr0 (f1.thenN hf)) (by decide) _ _ j rfl rfl hlt ?_; rw [Hx.out]; intro ba oa hba hca))
        | (with_reducible refine at_wpP ?_; refine at_ld 40 _ rfl ?_; have q := hca; refine wpList_ldE rfl _ rfl ba oa rfl x hca ?_)
        | (with_reducible refine at_wpP ?_; refine wpList_allocE rfl rfl ?_; intro gl w5 hgl b5 f5 sl; have l5 := b5.lt; have F5 := hf.thenN f5; have z5 := f5.size)
        | (with_reducible refine at_wpP ?_; refine at_st 40 _ _ rfl ?_; go_must (refine wpList_stE rfl _ _ rfl gl rfl (0, 0) x b5 rfl ?_; intro w6 B6 f6; have F6 := Fr.ownX F5 (by omega) f6; have z6 := f6.size; obtain ⟨c0, c1⟩ := B6.all; have o6 := (ho.fr f5 (fun _ _ q => q)).fr f6 (fun q hq e => by have := (ho.newB q hq).2; unfold onB1 at e; omega)))
        | (with_reducible refine at_wpP ?_; refine wpList_mk2I rfl 145 _ _ rfl 144 .u64 x.1 x.2 rfl rfl (run_mk2_u64 x.1 x.2) ?_; intro g7 w7 s7 f7 r7 t7; have o7 := o6.fr f7 (fun _ _ q => q); have F7 := F6.thenN f7)
        | (at_builtin; go_must (refine wpList_app rfl _ _ 145 rfl w1.heap.size 144 _ 1 8 Tryz.underlying145 info_u64 rfl (by decide) _ _ _ rfl o7 _ _ _ rfl (s7.sl hxwf).1 (ones _ _) ?hq1 ?hq2 ?hq3 ?_; rotate_left 3; intro v8 w8 hown8 hgr8)))
      case hq1 => have := hMl.out; unfold maxLen; simp; omega
      case hq2 => have := hMl.out; simp; omega
      case hq3 => have := F7.size; omega
      go_roundw
      case rel => exact ⟨j + 1, by omega, by go_num, OwnI.mk _ hown8 (by rw [hps.out, ← List.append_assoc, HM.out]; simp), F7.grown hgr8 (owns_new o7)⟩
      case measure => simp [intOf]; omega
    · obtain rfl : j = es.length := by omega
      rw [List.take_length, HL.out] at ho
      have hosl := ho.sl (byt_u64 hLb)
      obtain ⟨a7, c7, rfl⟩ := ho.opn
      have hlt' : ¬ (es.length : Int) < (es.length : Int) := by omega
      go_wp2_with (first
        | (go_at_call 90; go_must (refine (put_yes 1 rfl _ _ [] L _ (SlI.nil _ _) hosl (by simp) hLl.out hfit).mono ?_; rw [hput.out]; rintro e w9 ⟨v9, rfl, o9, f9⟩; have F9 := hf.thenN f9; have b9 := b1.fr0 F9; have q0 := NdB.kind b9; obtain ⟨a9, c9, rfl⟩ := o9.opn)))
      go_ret
      exact ⟨_, rfl, o9.rebase (by omega), f1.thenN F9⟩

theorem content_any (n : Nd) (v : Value) (w : World) (h : NdS w v n) (hr : n.right = true) :
    Calls Tryz.prog 67 #[ndV n.k n.b v] w fun r w' => ∃ u, r = .returned u ∧ OwnI .u8 5 w' w.heap.size u n.body ∧ Fr noB w w' := by
  by_cases hk : n.k = 1
  · exact content_1 n v w h hr hk
  · exact content_2 n v w h hr hk
end Go.Proofs.YtmkinaijkgkgiaaGreat
/- Page of package leaf. (Written by x5_gen.py.) -/
namespace Go.Proofs.YtmkinaijkgkgiaaGreat
open Go.RowKit Go.Proofs.U
set_option linter.unusedSimpArgs false
set_option linter.unusedVariables false
/-- While a node's page is laid. -/
def JPN (w0 : World) (g : Nat) (D S R : List Int) : List Value → World → Prop
  | [], W => W = w0
  | [v], W => SlI .u8 W v D ∧ Fr noB w0 W
  | [_, v], W => SlB W v [D] ∧ Fr noB w0 W
  | [_, _, u], W => SlI .u8 W u S ∧ Fr noB w0 W
  | [_, _, _, _], W => ∃ W1, Fr noB w0 W1 ∧ BxV W g 96 (pgv R) ∧ Fr (onB1 g) W1 W
  | _, _ => False
theorem JPN.nd {w0 : World} {g g1 : Nat} {D S R : List Int} {hv : List Value} {W : World} {k : Int} {b : List Int} {v : Value} (h : JPN w0 g D S R hv W) (hB : NdB w0 g1 k b v) (hne : g1 ≠ g) : NdB W g1 k b v := by
  match hv, h with
  | [], h => cases h; exact hB
  | [_], h => exact hB.fr0 h.2
  | [_, _], h => exact hB.fr0 h.2
  | [_, _, _], h => exact hB.fr0 h.2
  | [_, _, _, _], h => obtain ⟨W1, f1, _, f2⟩ := h; exact (hB.fr0 f1).ne f2 hne
theorem page_put {n : Nd} (h : n.right = true) (hb : n.b.length = 16) : putI (zerB 256) 0 ((sealI n.body).take 256) = n.page := by
  have hl := body_len h hb
  have hs := sealI_length n.body
  rw [List.take_of_length_le (by omega)]
  unfold putI Nd.page
  rw [List.take_zero, List.nil_append, hs]
  unfold zerB
  rw [List.drop_replicate, Nat.zero_add]

set_option maxRecDepth 100000 in
set_option maxHeartbeats 2000000 in
theorem page_ok (n : Nd) (vs : Value) (w : World) (h : NdS w vs n) (hr : n.right = true) :
    Calls Tryz.prog 45 #[ndV n.k n.b vs] w fun r w' => r = .returned (.tuple #[pgV n.page, .int .i64 0]) ∧ Fr noB w w' := by
  have Hb := show Hid _ from h.2.1.1
  obtain ⟨Z, HZ⟩ : ∃ Z, Hid (zerB 256 = Z) := ⟨_, rfl⟩
  have hZl : Hid (Z.length = 256) := by show _ = _; rw [← HZ.out]; exact zerB_len 256
  obtain ⟨D, HD⟩ : ∃ D, Hid (n.body = D) := ⟨_, rfl⟩
  have hDb : Byt D := by rw [← HD.out]; exact body_byt hr h.2.1
  have hDl1 : D.length ≤ 1000000000000 := by rw [← HD.out]; exact Nat.le_trans (body_len hr Hb.out) (by decide)
  obtain ⟨S, HS⟩ : ∃ S, Hid (sealI D = S) := ⟨_, rfl⟩
  have hSb : Byt S := by rw [← HS.out]; exact sealI_wf _ hDb
  obtain ⟨R, HR⟩ : ∃ R, Hid (n.page = R) := ⟨_, rfl⟩
  have hRl : Hid (R.length = 256) := by show _ = _; rw [← HR.out, page_len hr Hb.out]
  have hput : Hid (putI Z 0 (S.take 256) = R) := by show _ = _; rw [← HZ.out, ← HS.out, ← HD.out, page_put hr Hb.out]; exact HR.out
  rw [HR.out]
  go_enter Tryz.func45, Tryz.ntmps45
  go_wp2_with (first
    | (with_reducible refine at_wpP ?_; refine wpList_boxN rfl _ rfl n.k n.b vs rfl ?_; intro g1 w1 hg1 b1 f1 s1; have l1 := b1.lt; have z1 := f1.size)
    | (with_reducible refine at_wpP ?_; have q := f3; refine wpList_allocA arr_page rfl rfl ?_; rw [HZ.out]; intro g4 w4 hg4 b4 f4 s4; have l4 := b4.lt; have z4 := f4.size)
    | (with_reducible refine at_wpP ?_; have q := b1; refine wpList_allocA arr_page rfl rfl ?_; rw [HZ.out]; intro g2 w2 hg2 b2 f2 s2; have l2 := b2.lt; have z2 := f2.size)
    | (with_reducible refine at_wpP ?_; refine at_ld 72 _ rfl ?_; go_must (refine wpList_ldN rfl _ rfl g1 rfl n.k n.b vs (b1.fr0 f2) Hb.out ?_))
    | (go_at_call 65; go_must (refine (nright_any n vs _ (h.fr0 (f1.thenN f2))).mono ?_; rw [hr]; rintro e w3 ⟨rfl, f3⟩; have z3 := f3.size)))
  obtain ⟨w0, HW⟩ : ∃ w0, Hid (w4.drew = w0) := ⟨_, rfl⟩
  have f0 : Fr noB w4 w0 := by rw [← HW.out]; exact (Fr.refl _ _).drew
  have B1 : NdB w0 g1 n.k n.b vs := (((b1.fr0 f2).fr0 f3).fr0 f4).fr0 f0
  have B2 := ((b2.fr0 f3).fr0 f4).fr0 f0
  have B4 := b4.fr0 f0
  have F0 : Fr noB w w0 := (((f1.thenN f2).thenN f3).thenN f4).thenN f0
  have h0 := h.fr0 F0
  have z0 := f0.size
  refine wp_region_chain_lay (by kernel_rfl) [2, 3, 4, 5] [none, none, some 0, some 1, some 2, some 3]
    [fun v => v = .slice (some ⟨g4, 0, none⟩) 256 256, fun v => v = ndV n.k n.b vs, fun _ => True, fun _ => True, fun _ => True, fun _ => True]
    (JPN w0 g4 D S R) (HW.out) (by kernel_rfl) (by kernel_rfl) (by decide) ⟨?o0, ?o1, ?o2, ?o3, ?o4, ?o5, trivial⟩ ?oe
  case o0 =>
    intro A W hv hlen hJ hbase hdL hdH
    have e4 : A.eval (.tmp 4) = .pointer (some ⟨g4, 0, none⟩) := hbase 4 (by kernel_rfl)
    have f4 : A.tmps[4]?.getD undef = .pointer (some ⟨g4, 0, none⟩) := by simpa [Act.eval] using e4
    have hr := run_allA arr_page (by decide) W g4
    exact light_val rfl (v := .slice (some ⟨g4, 0, none⟩) 256 256) (by simp [execOp, e4, hr, Result.andThen]) hJ rfl
  case o1 =>
    intro A W hv hlen hJ hbase hdL hdH
    have e1 : A.eval (.tmp 1) = .pointer (some ⟨g1, 0, none⟩) := hbase 1 (by kernel_rfl)
    have f1 : A.tmps[1]?.getD undef = .pointer (some ⟨g1, 0, none⟩) := by simpa [Act.eval] using e1
    have hr := run_ldN (JPN.nd hJ B1 (by omega)) Hb.out
    exact light_val rfl (v := ndV n.k n.b vs) (by simp [execOp, e1, hr, Result.andThen]) hJ rfl
  case o2 =>
    intro A W hv hlen hJ hbase hdL hdH
    have e10 : A.eval (.tmp 10) = ndV n.k n.b vs := hdL 1 10 (by kernel_rfl) (by kernel_rfl) (by kernel_rfl)
    have f10 : A.tmps[10]?.getD undef = ndV n.k n.b vs := by simpa [Act.eval] using e10
    obtain rfl : hv = [] := List.eq_nil_of_length_eq_zero hlen
    cases hJ
    refine heavy_call rfl (args := #[ndV n.k n.b vs]) (f := 67) (by simp [execOp, resolve, invoke, go_sem, e10, f10]) ?_
    refine (content_any n vs _ h0 hr).mono ?_
    rw [HD.out]
    rintro e w' ⟨u, rfl, o5, f5⟩
    exact ⟨_, rfl, o5.sl hDb, f5⟩
  case o3 =>
    intro A W hv hlen hJ hbase hdL hdH
    match hv, hlen with
    | [t], _ =>
      obtain ⟨hS, hf⟩ := hJ
      have e11 : A.eval (.tmp 11) = t := by have := hdH 2 11 0 (by kernel_rfl) rfl (by kernel_rfl); simpa using this.symm
      have f11 : A.tmps[11]?.getD undef = t := by simpa [Act.eval] using e11
      obtain ⟨a5, c5, rfl, _⟩ := hS.opn
      refine heavy_val rfl (v := .slice (some ⟨W.heap.size, 0, none⟩) 1 1) (w' := W.alloc (.cells #[.slice a5 D.length c5] 120)) (by simp [execOp, go_sem, e11, f11]) ?_
      exact ⟨SlB.one W 120 _ D hS, hf.alloc _⟩
  case o4 =>
    intro A W hv hlen hJ hbase hdL hdH
    match hv, hlen with
    | [x0, t], _ =>
      obtain ⟨hB, hf⟩ := hJ
      have e12 : A.eval (.tmp 12) = t := by have := hdH 3 12 1 (by kernel_rfl) rfl (by kernel_rfl); simpa using this.symm
      have f12 : A.tmps[12]?.getD undef = t := by simpa [Act.eval] using e12
      refine heavy_call rfl (args := #[t]) (f := 66) (by simp [execOp, resolve, invoke, go_sem, e12, f12]) ?_
      refine (seal_any _ [D] D (by simp) _ hB (by simp) hDl1).mono ?_
      rw [HS.out]
      rintro e w' ⟨v5, rfl, o5, f5⟩
      exact ⟨_, rfl, o5.sl hSb, hf.thenN f5⟩
  case o5 =>
    intro A W hv hlen hJ hbase hdL hdH
    have e9 : A.eval (.tmp 9) = .slice (some ⟨g4, 0, none⟩) 256 256 := hdL 0 9 (by kernel_rfl) (by kernel_rfl) (by kernel_rfl)
    have f9 : A.tmps[9]?.getD undef = .slice (some ⟨g4, 0, none⟩) 256 256 := by simpa [Act.eval] using e9
    match hv, hlen with
    | [x0, x1, u], _ =>
      obtain ⟨hS, hf⟩ := hJ
      have e13 : A.eval (.tmp 13) = u := by have := hdH 4 13 2 (by kernel_rfl) rfl (by kernel_rfl); simpa using this.symm
      obtain ⟨W1, hrr, h1, h2⟩ := run_cpyB (t := 96) (B4.fr0 hf) 0 256 256 (by rw [hZl.out]; decide) 3 _ _ hS _ rfl
      rw [hput.out] at h1
      refine heavy_wp rfl ?_
      refine Lib.wp_copy_run _ (.tmp 9) (.tmp 13) 120 120 rfl _ _ e9 e13 hrr ?_
      exact ⟨_, rfl, W, hf, h1, h2⟩
  case oe =>
    intro vz W' hv hlen hJ hL hH
    match hv, hlen with
    | [x0, x1, x2, x3], _ =>
      obtain ⟨W1, fW1, hB', hf'⟩ := hJ
      simp only [layL, Nat.reduceAdd, Act.put, List.setIfInBounds_toArray, List.set_cons_zero, List.set_cons_succ]
      clear hL hH
      generalize vz 0 = y100 at *
      generalize vz 1 = y101 at *
      generalize vz 2 = y102 at *
      generalize vz 3 = y103 at *
      generalize vz 4 = y104 at *
      generalize vz 5 = y105 at *
      have zW := fW1.size
      have zW' := hf'.size
      have B2' := (B2.fr0 fW1).ne hf' (by omega)
      have FW : Fr noB w W' := (F0.thenN fW1).thenT hf' (fun i hi q => by unfold onB1 at q; omega)
      go_wp2_with (first
        | (with_reducible refine at_wpP ?_; refine at_ld 96 _ rfl ?_; go_must (refine wpList_loadA arr_page rfl _ rfl g4 rfl R hB' hRl.out ?_))
        | (with_reducible refine at_wpP ?_; refine at_st 96 _ _ rfl ?_; go_must (refine wpList_storeA arr_page rfl _ _ rfl g2 rfl R rfl _ B2' hRl.out hZl.out ?_; intro w9 b9 f9)))
      refine bodyPost_ret (results_arr2 arr_page Tryz.results45 _ w9 g2 R rfl b9 hRl.out) rfl ⟨rfl, ?_⟩
      exact FW.thenT f9 (fun i hi q => by unfold onB1 at q; omega)

set_option maxRecDepth 100000 in
set_option maxHeartbeats 2000000 in
theorem page_no (n : Nd) (vs : Value) (w : World) (h : NdS w vs n) (hr : n.right = false) :
    Calls Tryz.prog 45 #[ndV n.k n.b vs] w fun r w' => r = .returned (.tuple #[pgV (zerB 256), .int .i64 81]) ∧ Fr noB w w' := by
  have Hb := show Hid _ from h.2.1.1
  obtain ⟨Z, HZ⟩ : ∃ Z, Hid (zerB 256 = Z) := ⟨_, rfl⟩
  have hZl : Hid (Z.length = 256) := by show _ = _; rw [← HZ.out]; exact zerB_len 256
  rw [HZ.out]
  go_enter Tryz.func45, Tryz.ntmps45
  go_wp2_with (first
    | (with_reducible refine at_wpP ?_; refine wpList_boxN rfl _ rfl n.k n.b vs rfl ?_; intro g1 w1 hg1 b1 f1 s1; have l1 := b1.lt; have z1 := f1.size)
    | (with_reducible refine at_wpP ?_; have q := b1; refine wpList_allocA arr_page rfl rfl ?_; rw [HZ.out]; intro g2 w2 hg2 b2 f2 s2; have l2 := b2.lt; have z2 := f2.size)
    | (with_reducible refine at_wpP ?_; refine at_ld 72 _ rfl ?_; go_must (refine wpList_ldN rfl _ rfl g1 rfl n.k n.b vs (b1.fr0 f2) Hb.out ?_))
    | (go_at_call 65; go_must (refine (nright_any n vs _ (h.fr0 (f1.thenN f2))).mono ?_; rw [hr]; rintro e w3 ⟨rfl, f3⟩; have z3 := f3.size))
    | (with_reducible refine at_wpP ?_; refine wpList_buildA arr_page rfl rfl ?_; rw [HZ.out])
    | (with_reducible refine at_wpP ?_; refine at_st 96 _ _ rfl ?_; go_must (refine wpList_storeA arr_page rfl _ _ rfl g2 rfl Z rfl _ (b2.fr0 f3) hZl.out hZl.out ?_; intro w9 b9 f9)))
  refine bodyPost_ret (results_arr2 arr_page Tryz.results45 _ w9 g2 Z rfl b9 hZl.out) rfl ⟨rfl, ?_⟩
  exact ((f1.thenN f2).thenN f3).thenT f9 (fun i hi q => by unfold onB1 at q; omega)
end Go.Proofs.YtmkinaijkgkgiaaGreat
