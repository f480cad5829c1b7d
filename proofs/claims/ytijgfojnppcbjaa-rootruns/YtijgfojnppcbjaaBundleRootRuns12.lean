/- Texts B5a, C3, C4, E0, E1, CM3, CV, D3a, E2, E3, D6, E4 of the proof of RootRuns, one behind the other. -/
import Derived.Lib.SlBytesConst
import Derived.Deep.MidRow
import Derived.Test.YtijgfojnppcbjaaRows
import Derived.Deep.RegionHeld3
import Derived.Test.YtijgfojnppcbjaaBundleRootRuns1
import Derived.Test.YtijgfojnppcbjaaBundleRootRuns2
import Derived.Test.YtijgfojnppcbjaaBundleRootRuns3
import Derived.Test.YtijgfojnppcbjaaBundleRootRuns4
import Derived.Test.YtijgfojnppcbjaaBundleRootRuns5
import Derived.Test.YtijgfojnppcbjaaBundleRootRuns6
import Derived.Test.YtijgfojnppcbjaaBundleRootRuns7
import Derived.Test.YtijgfojnppcbjaaBundleRootRuns8
import Derived.Test.YtijgfojnppcbjaaBundleRootRuns9
import Derived.Test.YtijgfojnppcbjaaBundleRootRuns10
import Derived.Test.YtijgfojnppcbjaaBundleRootRuns11
/- Rows of the call's own making: one element read, one stored; no condition. -/
namespace Go.Proofs.U
open Go.RowKit

theorem OwnI.some {k : IntKind} {e : TypeId} {w : World} {base : Nat} {v : Value} {l : List Int} (h : OwnI k e w base v l) (hl : 0 < l.length) :
    ∃ g cap cur, v = .slice (Option.some ⟨g, 0, none⟩) l.length cap ∧ base ≤ g ∧ w.heap[g]? = Option.some (.cells cur e (0, 0)) ∧ l.length ≤ cap ∧ cap ≤ maxLen ∧ cur.size = cap ∧ cur.toList.take l.length = l.map (Value.int k) := by
  rcases h.2 with ⟨_, hn⟩ | ⟨g, cap, cur, hv, h1, h2, h3, h4, h5, h6⟩
  · omega
  · exact ⟨g, cap, cur, hv, h1, h2, h3, h4, by simpa using h5, by simpa using h6⟩

/-- Its cells, one by one. -/
theorem OwnI.cellK {k : IntKind} {e : TypeId} {w : World} {base g n cap : Nat} {l : List Int} (h : OwnI k e w base (.slice (Option.some ⟨g, 0, none⟩) n cap) l) (j : Nat) (hj : j < l.length) :
    w.cell? ⟨g, j, none⟩ = Option.some (.int k (l.getD j 0)) ∧ w.frozen? ⟨g, j, none⟩ = false := by
  obtain ⟨g', cap', cur, hv, h1, h2, h3, h4, h5, h6⟩ := h.some (by omega)
  cases hv
  have hc : cur[j]? = Option.some (.int k (l.getD j 0)) := by
    have h7 : (cur.toList.take l.length)[j]? = Option.some (.int k (l.getD j 0)) := by rw [h6]; simp [List.getD, hj]
    rw [List.getElem?_take, if_pos hj] at h7
    simpa using h7
  simp [World.cell?, World.frozen?, h2, hc]

/-- One element stored. -/
theorem OwnI.setK {k : IntKind} {e : TypeId} {w : World} {base g n cap : Nat} {l : List Int} (h : OwnI k e w base (.slice (Option.some ⟨g, 0, none⟩) n cap) l) (j : Nat) (hj : j < l.length) (y : Int) :
    OwnI k e (w.setCell ⟨g, j, none⟩ (.int k y)) base (.slice (Option.some ⟨g, 0, none⟩) n cap) (l.set j y) := by
  obtain ⟨g', cap', cur, hv, h1, h2, h3, h4, h5, h6⟩ := h.some (by omega)
  cases hv
  have hlt : g < w.heap.size := (Array.getElem?_eq_some_iff.1 h2).1
  have hv2 : w.heap[g] = .cells cur e (0, 0) := (Array.getElem?_eq_some_iff.1 h2).2
  refine ⟨by simp, Or.inr ⟨g, cap, cur.setIfInBounds j (.int k y), by simp, h1, ?_, by simpa using h3, h4, by simpa using h5, ?_⟩⟩
  · simp [World.setCell, Array.getElem?_modify, h2]
  · simp only [List.length_set, Nat.mul_one, Array.toList_setIfInBounds, List.map_set]
    rw [List.take_set, h6]
end Go.Proofs.U
/- Contracts of Open and Turn of package crc, and of crcAlive. -/
namespace Go.Proofs.Ytijgfojnppcbjaa
open Go.RowKit Go.Proofs.U

def okI (l : List Int) : Bool := decide (4 ≤ l.length) && decide (sealI (l.take (l.length - 4)) = l)
def opnI (l : List Int) : List Int := if okI l then l.take (l.length - 4) else []

end Go.Proofs.Ytijgfojnppcbjaa
/- Contracts of Turn of package crc, and of crcAlive. -/
namespace Go.Proofs.Ytijgfojnppcbjaa
open Go.RowKit Go.Proofs.U

def xI (a b : Int) : Int := ((a.toNat ^^^ b.toNat : Nat) : Int)
def turnI (l : List Int) (at' m : Int) : List Int := if 0 ≤ at' ∧ at' < (l.length : Int) then l.set at'.toNat (xI (l.getD at'.toNat 0) m) else l
theorem xI_bd {a b : Int} (ha : 0 ≤ a ∧ a < 256) (hb : 0 ≤ b ∧ b < 256) : 0 ≤ xI a b ∧ xI a b < 256 := by
  have : a.toNat ^^^ b.toNat < 2 ^ 8 := Nat.xor_lt_two_pow (by omega) (by omega)
  unfold xI; omega
theorem turnI_wf (l : List Int) (at' m : Int) (hl : ∀ n ∈ l, (Lit.int .u8 n).wf = true) (hm : 0 ≤ m ∧ m < 256) : ∀ n ∈ turnI l at' m, (Lit.int .u8 n).wf = true := by
  unfold turnI
  split
  · rename_i h
    intro n hn
    rcases List.mem_or_eq_of_mem_set hn with h1 | h1
    · exact hl n h1
    · subst h1
      have hj : at'.toNat < l.length := by omega
      have hd : l.getD at'.toNat 0 = l[at'.toNat] := by simp [List.getD, hj]
      have := xI_bd (u8_bd (hl l[at'.toNat] (by simp))) hm
      rw [hd]; exact wf_byte this.1 this.2
  · exact hl
theorem turnI_length (l : List Int) (at' m : Int) : (turnI l at' m).length = l.length := by unfold turnI; split <;> simp
theorem made_ints (n : Nat) : (madeCells (Value.int IntKind.u8 0).cells (n * 1)).toList = (List.replicate n 0).map (Value.int .u8) := by
  rw [Nat.mul_one]; show (madeCells #[Value.int IntKind.u8 0] n).toList = _; rw [toList_madeCells_one, List.map_replicate]

theorem cpy_all (l : List Int) : (l.map (Value.int .u8)).take l.length ++ ((madeCells (Value.int IntKind.u8 0).cells (l.length * 1)).toList).drop l.length = l.map (Value.int .u8) := by
  rw [made_ints, List.take_of_length_le (by simp), List.drop_of_length_le (by simp), List.append_nil]

theorem sum9 : crcI [49, 50, 51, 52, 53, 54, 55, 56, 57] = 58124007 := by decide +kernel
theorem seal0 : sealI [] = [255, 255, 255, 255] := by decide +kernel
theorem str255 : ((strOfNums [255, 255, 255, 255]).toList == [255, 255, 255, 255]) = true := by decide +kernel

theorem SlB3 (w : World) (t : TypeId) (v1 v2 v3 : Value) (l1 l2 l3 : List Int) (b : Nat) (hb : w.heap.size = b) (h1 : SlI .u8 w v1 l1) (h2 : SlI .u8 w v2 l2) (h3 : SlI .u8 w v3 l3) : SlB (w.alloc (.cells #[v1, v2, v3] t)) (.slice (some ⟨b, 0, none⟩) 3 3) [l1, l2, l3] := by
  refine ⟨[v1, v2, v3], Sl_made w t #[v1, v2, v3] 3 b rfl hb, fun j hj u hu => ?_⟩
  have hf : Fr noB w (w.alloc (.cells #[v1, v2, v3] t)) := (Fr.refl _ _).alloc _
  have hj' : j = 0 ∨ j = 1 ∨ j = 2 := by simp at hj; omega
  rcases hj' with rfl | rfl | rfl <;> simp at hu <;> subst hu
  · exact h1.fr0 hf
  · exact h2.fr0 hf
  · exact h3.fr0 hf
theorem SlI_made (w : World) (t : TypeId) (l : List Int) (cs : Array Value) (n b : Nat) (hn : cs.size = n) (hb : w.heap.size = b) (hc : cs.toList = l.map (Value.int .u8)) (hl : ∀ n ∈ l, (Lit.int .u8 n).wf = true) : SlI .u8 (w.alloc (.cells cs t)) (.slice (some ⟨b, 0, none⟩) n n) l := by
  have hnl : n = l.length := by rw [← hn, ← Array.length_toList, hc]; simp
  subst hnl
  refine ⟨?_, hl⟩
  rw [← hc]; exact Sl_made w t cs _ b hn hb

theorem SlI_marked (w : World) (t : TypeId) (l : List Int) (cs : Array Value) (n b : Nat) (fz : Nat × Nat) (hn : cs.size = n) (hb : w.heap.size = b) (hc : cs.toList = l.map (Value.int .u8)) (hl : ∀ n ∈ l, (Lit.int .u8 n).wf = true) : SlI .u8 (w.alloc (.cells cs t fz)) (.slice (some ⟨b, 0, none⟩) n n) l := by
  subst hb
  have hnl : n = l.length := by rw [← hn, ← Array.length_toList, hc]; simp
  subst hnl
  refine ⟨?_, hl⟩
  rw [← hc]
  refine ⟨_, _, rfl, Nat.le_refl _, by simp [hn], (fun h => by cases h), fun x hx => ?_⟩
  cases hx
  intro j u hj
  rw [Addr.plain, Nat.zero_add]
  have h1 : cs[j]? = some u := by simpa using hj
  have h2 : (w.alloc (.cells cs t fz)).heap[w.heap.size]? = some (.cells cs t fz) := by
    show (w.heap.push _)[w.heap.size]? = _
    simp
  unfold World.cell?
  rw [h2]
  exact h1

section
variable {w0 : World} {ops : Array Oper} {rest : List Oper} {o : Oper} {a : Act} {Q : Exit → Act → World → Prop}
/-- []byte of a constant. -/
theorem wpList_const (hgd : Region.wanted o (yielded ops a.tmps) = true) (x : Operand) (ho : o.op = .convert 24 24 x) (w : World) (cs : Array Value) (n b : Nat) (l : List Int) (hx : a.eval x = .slice (some ⟨b, 0, none⟩) n n) (hn : cs.size = n) (hb : w.heap.size = b)
    (hc : cs.toList = l.map (Value.int .u8)) (hl : ∀ n ∈ l, (Lit.int .u8 n).wf = true) (hw0 : w0 = w.alloc (.cells cs 5))
    (h : ∀ w', Fr noB w w' → SlI .u8 w' (.slice (some ⟨b, 0, none⟩) n n) l → wpList Try.prog ops Q rest (a.put o.dst (.slice (some ⟨b, 0, none⟩) n n)) w') : wpList Try.prog ops Q (o :: rest) a w0 := by
  subst hw0 hb
  refine wpList_wanted hgd fun K hK => ?_
  have hrun := Go.Lib.run_convert_bytes_const (P := Try.prog) w 24 5 cs n n Try.underlying24 Try.underlying5
  unfold Oper.wp
  simp [execOp, ho, hx, hrun, Result.andThen]
  exact hK _ _ (h _ ((Fr.refl _ _).alloc _) (SlI_marked w _ l cs n _ _ hn rfl hc hl))
end

end Go.Proofs.Ytijgfojnppcbjaa
/- Arrays of 32 bools in memory: laws of the walk; no condition. -/
namespace Go.Proofs.Ytijgfojnppcbjaa
open Go.RowKit Go.Proofs.U
set_option linter.unusedSimpArgs false
set_option linter.unusedVariables false

def bv (bs : List Bool) : Array Value := (bs.map Value.bool).toArray
/-- block g holds the bools bs. -/
def Arr (w : World) (g : Nat) (bs : List Bool) : Prop := ∃ t, w.heap[g]? = some (.cells (bv bs) t (0, 0))
def onG (g : Nat) : Nat → Prop := fun k => k = g

theorem bv_size (bs : List Bool) : (bv bs).size = bs.length := by simp [bv]
theorem Arr.fr {S : Nat → Prop} {w w' : World} {g : Nat} {bs : List Bool} (h : Arr w g bs) (hf : Fr S w w') (hs : ¬ S g) : Arr w' g bs := by
  obtain ⟨t, ht⟩ := h
  exact ⟨t, (hf.block g (Array.getElem?_eq_some_iff.1 ht).1 hs).trans ht⟩
theorem Arr.lt {w : World} {g : Nat} {bs : List Bool} (h : Arr w g bs) : g < w.heap.size := by obtain ⟨t, ht⟩ := h; exact (Array.getElem?_eq_some_iff.1 ht).1
theorem Arr.cell {w : World} {g : Nat} {bs : List Bool} (h : Arr w g bs) (i : Nat) (hi : i < bs.length) : w.cell? ⟨g, i, none⟩ = some (.bool (bs.getD i false)) ∧ w.frozen? ⟨g, i, none⟩ = false := by
  obtain ⟨t, ht⟩ := h
  have hc : (bv bs)[i]? = some (.bool (bs.getD i false)) := by simp [bv, List.getD, hi]
  constructor
  · unfold World.cell?; rw [ht]; exact hc
  · simp [World.frozen?, ht]
theorem Arr.set {w : World} {g : Nat} {bs : List Bool} (h : Arr w g bs) (i : Nat) (b : Bool) : Arr (w.setCell ⟨g, i, none⟩ (.bool b)) g (bs.set i b) := by
  obtain ⟨t, ht⟩ := h
  refine ⟨t, ?_⟩
  rw [heap_setCell_same w g i (bv bs) t (.bool b) ht]
  congr 2
  apply Array.ext'
  simp [bv, List.map_set]
theorem Fr.setG {S : Nat → Prop} {a w : World} (h : Fr S a w) (g i : Nat) (v : Value) (hg : g < a.heap.size → S g) : Fr S a (w.setCell ⟨g, i, none⟩ v) := h.setCell _ _ hg
theorem setCells_fr (w : World) (g : Nat) (vs : List Value) : ∀ o, Fr (onG g) w (w.setCells g o vs) := by
  induction vs generalizing w with
  | nil => intro o; exact Fr.refl _ _
  | cons v vs ih =>
    intro o
    exact ((Fr.refl (onG g) w).setCell ⟨g, o, none⟩ v (fun _ => rfl)).trans (ih (w.setCell ⟨g, o, none⟩ v) (o + 1))
theorem setCells_heap (g : Nat) (t : TypeId) (vs : List Value) : ∀ (o : Nat) (w : World) (C : Array Value), w.heap[g]? = some (.cells C t (0, 0)) → o + vs.length = C.size →
    (w.setCells g o vs).heap[g]? = some (.cells ((C.toList.take o) ++ vs).toArray t (0, 0)) := by
  induction vs with
  | nil => intro o w C h hs; rw [World.setCells, h]; simp at hs; rw [List.append_nil, List.take_of_length_le (by simp; omega)]
  | cons v vs ih =>
    intro o w C h hs
    simp at hs
    rw [World.setCells, ih (o + 1) _ (C.setIfInBounds o v) (heap_setCell_same w g o C t v h) (by simp; omega)]
    congr 3
    rw [Array.toList_setIfInBounds, List.take_succ_eq_append_getElem (by simp; omega)]
    simp
    rw [List.take_set_of_le (by omega)]

section
variable {w : World} {ops : Array Oper} {rest : List Oper} {o : Oper} {a : Act} {Q : Exit → Act → World → Prop}

theorem info39 : (Try.prog.info? 125).map (·.size) = some 32 := by kernel_rfl
theorem built39 : Try.prog.built 125 [] = some (bv (List.replicate 32 false)) := by kernel_rfl
theorem zero39 : (Try.prog.info? 125).map (·.zero) = some (some (.agg (bv (List.replicate 32 false)))) := by kernel_rfl

theorem wpList_build32 (hgd : Region.wanted o (yielded ops a.tmps) = true) (ho : o.op = .build 125 #[])
    (h : ∀ bs, Hid (bs = List.replicate 32 false) → wpList Try.prog ops Q rest (a.put o.dst (.agg (bv bs))) w) : wpList Try.prog ops Q (o :: rest) a w := by
  refine wpList_wanted hgd fun K hK => ?_
  have hrun := run_build (P := Try.prog) w 125 #[] _ built39
  unfold Oper.wp
  simp [execOp, ho, hrun, Result.andThen]
  exact hK _ _ (h _ rfl)

theorem wpList_load32 (hgd : o.guard = none) (x : Operand) (ho : o.op = .load 125 x) (g : Nat) (hx : a.eval x = .pointer (some ⟨g, 0, none⟩)) (bs : List Bool) (hA : Arr w g bs) (hl : bs.length = 32)
    (h : wpList Try.prog ops Q rest (a.put o.dst (.agg (bv bs))) w) : wpList Try.prog ops Q (o :: rest) a w := by
  refine wpList_load_mid hgd 125 x ho g 0 hx (bs.map Value.bool) _ ?_ Try.underlying125 rfl (by rw [info39]; simp [hl]) h
  intro j v hj
  rw [Nat.zero_add]
  have hjl : j < bs.length := by have := (List.getElem?_eq_some_iff.1 hj).1; simpa using this
  rw [(hA.cell j hjl).1]
  simp [hjl] at hj
  simp [List.getD, hjl, hj]

theorem wpList_store32 (hgd : o.guard = none) (x y : Operand) (ho : o.op = .store 125 x y) (g : Nat) (hx : a.eval x = .pointer (some ⟨g, 0, none⟩)) (bs cs : List Bool) (hy : a.eval y = .agg (bv cs)) (hA : Arr w g bs) (hl : bs.length = 32) (hc : cs.length = 32)
    (h : ∀ w', Arr w' g cs → Fr (onG g) w w' → w'.heap.size = w.heap.size → wpList Try.prog ops Q rest (a.put o.dst undef) w') : wpList Try.prog ops Q (o :: rest) a w := by
  refine wpList_store_mid hgd 125 x y ho g 0 (bv cs) hx hy ?_ (by rw [info39, bv_size, hc]) ?_ (h _ ?_ (setCells_fr w g _ 0) ?_)
  · intro j hj
    rw [bv_size] at hj
    have := hA.cell j (by omega)
    rw [Nat.zero_add, this.1]
    exact ⟨rfl, this.2⟩
  · unfold bv
    refine all_oneCell_toArray ?_
    intro v hv
    simp at hv
    rcases hv with ⟨_, rfl⟩ | ⟨_, rfl⟩ <;> rfl
  · obtain ⟨t, ht⟩ := hA
    refine ⟨t, ?_⟩
    rw [setCells_heap g t _ 0 w _ ht (by simp [bv, hl, hc])]
    simp [bv]
  · have : ∀ (vs : List Value) (o : Nat) (w : World), (w.setCells g o vs).heap.size = w.heap.size := by
      intro vs
      induction vs with
      | nil => intro o w; rfl
      | cons v vs ih => intro o w; rw [World.setCells, ih]; simp [World.setCell]
    exact this _ _ _

theorem wpList_index32 (hgd : o.guard = none) (x y : Operand) (ho : o.op = .index 125 x y) (bs : List Bool) (hx : a.eval x = .agg (bv bs)) (hl : bs.length = 32) (i : Nat) (hy : a.eval y = .int .i64 (i : Int)) (hi : i < 32)
    (h : wpList Try.prog ops Q rest (a.put o.dst (.bool (bs.getD i false))) w) : wpList Try.prog ops Q (o :: rest) a w := by
  refine wpList_plain hgd fun K hK => ?_
  have hc : (bv bs)[i]? = some (.bool (bs.getD i false)) := by simp [bv, List.getD, hl, hi]
  have hrun : (Instr.index 125 (.agg (bv bs)) (.int .i64 (i : Int))).run Try.prog w = .ok (.bool (bs.getD i false)) w := by
    have a4 := Try.isAgg4
    have z4 := Try.sizeOf4
    have h2 : (0 : Int) ≤ (i : Int) ∧ (i : Int) < (32 : Nat) := by omega
    simp [Instr.index, asIntOf, run_underlying Try.underlying125, h2, z4, part, a4, hc, go_sem]
    intro hh; omega
  unfold Oper.wp
  simp [execOp, ho, hx, hy, hrun, Result.andThen]
  exact hK _ _ h

theorem wpList_alloc32 (hgd : Region.wanted o (yielded ops a.tmps) = true) (ho : o.op = .alloc 125) (g : Nat) (hg : w.heap.size = g)
    (h : ∀ w', Arr w' g (List.replicate 32 false) → Fr noB w w' → wpList Try.prog ops Q rest (a.put o.dst (.pointer (some ⟨g, 0, none⟩))) w') : wpList Try.prog ops Q (o :: rest) a w := by
  refine wpList_wanted hgd fun K hK => ?_
  subst hg
  obtain ⟨i, hi, hz⟩ := Option.map_eq_some_iff.1 zero39
  have hrun : (Instr.alloc 125 true (.tuple #[])).run Try.prog w = .ok (.pointer (some ⟨w.heap.size, 0, none⟩)) (w.alloc (.cells (bv (List.replicate 32 false)) 125)) := by
    simp [Instr.alloc, zeroValue, typeInfo, hi, hz, newVar, go_sem]
  unfold Oper.wp
  simp [execOp, ho, hrun, Result.andThen]
  refine hK _ _ (h _ ⟨125, ?_⟩ ((Fr.refl _ _).alloc _))
  show (w.heap.push _)[w.heap.size]? = _
  simp
end
end Go.Proofs.Ytijgfojnppcbjaa
/- Contract of the document's own polynomial. -/
namespace Go.Proofs.Ytijgfojnppcbjaa
open Go.RowKit Go.Proofs.U
set_option linter.unusedSimpArgs false
set_option linter.unusedVariables false

def pbits : List Bool := (List.range 32).map (fun i => polyB.getMsbD i)
theorem pbits_at : ∀ k : Fin 32, ((79764919 : Int) / 2 ^ k.val % 2 == 1) = pbits.getD (31 - k.val) false := by decide
def pdone (k : Nat) : List Bool := List.replicate (32 - k) false ++ pbits.drop (32 - k)
theorem pdone_set : ∀ k : Fin 32, (pdone k.val).set (31 - k.val) (pbits.getD (31 - k.val) false) = pdone (k.val + 1) := by decide
theorem pdone_len : ∀ k : Fin 33, (pdone k.val).length = 32 := by decide
theorem pdone_end : pdone 32 = pbits := by decide
theorem pdone_0 : pdone 0 = List.replicate 32 false := by decide
theorem pbits_len : pbits.length = 32 := by decide

theorem load32_run {w : World} {g : Nat} {bs : List Bool} (hA : Arr w g bs) (hl : bs.length = 32) : (loadVar 125 ⟨g, 0, none⟩).run Try.prog w = .ok (.agg (bv bs)) w := by
  refine run_loadVar_mid (P := Try.prog) w g 0 125 (bs.map Value.bool) _ ?_ Try.underlying125 rfl (by rw [info39]; simp [hl])
  intro j v hj
  rw [Nat.zero_add]
  have hjl : j < bs.length := by have := (List.getElem?_eq_some_iff.1 hj).1; simpa using this
  rw [(hA.cell j hjl).1]
  simp [hjl] at hj
  simp [List.getD, hjl, hj]

set_option maxHeartbeats 2000000 in
theorem poly_any (w : World) : Calls Try.prog 65 #[] w fun e w' => e = .returned (.agg (bv pbits)) ∧ Fr noB w w' := by
  go_enter Try.func65, Try.ntmps65
  go_wp2_with (first
    | (refine wpList_alloc32 rfl rfl w.heap.size rfl ?_; intro w1 hA1 hf1)
    | (refine wpList_alloc32 rfl rfl w1.heap.size rfl ?_; intro w2 hA2 hf2)
    | (refine wpList_build32 rfl rfl ?_; intro zs Hzs)
    | (refine wpList_store32 rfl _ _ rfl _ rfl _ _ rfl hA2 (by simp) (by rw [Hzs.out]; simp) ?_; intro w3 hA3 hf3 hs3))
  have g3 : Fr noB w w3 := (hf1.thenN hf2).thenT hf3 (fun i hi q => by have := hf1.size; unfold onG at q; omega)
  have hlt1 := hA1.lt
  have hA13 : Arr w3 w.heap.size (List.replicate 32 false) := (hA1.fr hf2 (fun q => q)).fr hf3 (fun q => by unfold onG at q; omega)
  rw [Hzs.out, ← pdone_0] at hA3
  clear hA1 hA2
  generalize hG : w1.heap.size = G at *
  clear hG
  go_loopw [2, 3] (fun n i wr => ∃ k : Nat, k ≤ 32 ∧ n = .int .u32 (79764919 / 2 ^ k) ∧ i = .int .i64 (31 - (k : Int)) ∧ Arr wr G (pdone k) ∧ Arr wr w.heap.size (List.replicate 32 false) ∧ Fr noB w wr) (fun _ i _ => (intOf i + 1).toNat)
  case atStart => exact ⟨0, by omega, by simp, by simp, hA3, hA13, g3⟩
  case round =>
    obtain ⟨k, hk, rfl, rfl, hA, hB, hf⟩ := hrel
    by_cases hlt : k < 32
    · have hpos : (0 : Int) ≤ 79764919 / 2 ^ k := Int.ediv_nonneg (by decide) (Int.le_of_lt (Int.pow_pos (by decide)))
      have hle : (79764919 : Int) / 2 ^ k ≤ 79764919 := Int.ediv_le_self _ (by decide)
      have Hst := Hid.mk (Int.ediv_ediv_of_nonneg (x := (79764919 : Int)) (y := 2 ^ k) (z := 2) (Int.le_of_lt (Int.pow_pos (by decide))))
      have Hb := Hid.mk (pbits_at ⟨k, hlt⟩)
      have Hs := Hid.mk (pdone_set ⟨k, hlt⟩)
      have Hl := Hid.mk (pdone_len ⟨k, by omega⟩)
      simp only at Hb Hs Hl
      obtain ⟨N, HN⟩ : ∃ N, Hid ((79764919 : Int) / 2 ^ k = N) := ⟨_, rfl⟩
      rw [HN.out] at hpos hle Hst Hb ⊢
      obtain ⟨j, hj⟩ : ∃ j : Nat, (31 : Int) - (k : Int) = (j : Int) := ⟨31 - k, by omega⟩
      have hj31 : j = 31 - k := by omega
      have HJ := Hid.mk hj
      rw [hj]
      have hj32 : (j : Int) < 32 := by omega
      obtain ⟨z1, z2⟩ := hA.cell j (by rw [Hl.out]; omega)
      rw [← hj31] at Hb Hs
      clear hj hj31
      go_wp2
      go_roundw
      case rel =>
        refine ⟨k + 1, by omega, by rw [Int.pow_succ, ← Hst.out], by have := HJ.out; congr 1; omega, ?_, hB.fr ((Fr.refl (onG G) wr).setCell _ _ (fun _ => rfl)) (fun q => by unfold onG at q; omega), hf.setCell _ _ (fun q => by simp only at q; omega)⟩
        rw [Hb.out, ← Hs.out]
        exact hA.set j _
      case measure => simp [intOf]
    · obtain rfl : k = 32 := by omega
      rw [pdone_end] at hA
      go_wp2_with (first
        | (refine wpList_load32 rfl _ rfl _ rfl _ hA pbits_len ?_)
        | (refine wpList_store32 rfl _ _ rfl _ rfl _ _ rfl hB (by simp) pbits_len ?_; intro w4 hA4 hf4 hs4))
      obtain ⟨t4, ht4⟩ := hA4
      refine bodyPost_ret (v := .agg (bv pbits)) ?_ rfl ⟨rfl, hf.thenT hf4 (fun i hi q => by unfold onG at q; omega)⟩
      exact results_cell_row Try.results65 _ w4 w.heap.size t4 (bv pbits) (0, 0) _ rfl ht4 Try.underlying125 rfl (by rw [info39, bv_size, pbits_len])
end Go.Proofs.Ytijgfojnppcbjaa
/- A sum bit by bit, as the document has it; no condition but what each states. -/
namespace Go.Proofs.U
set_option linter.unusedSimpArgs false
set_option linter.unusedVariables false

def bitsM (s : BitVec 32) : List Bool := (List.range 32).map (fun i => s.getMsbD i)
def topB (b : Bool) : BitVec 32 := if b then 0x80000000#32 else 0#32
def rstep (s : BitVec 32) (b : Bool) : BitVec 32 := stp (s ^^^ topB b)
theorem bitsM_len (s : BitVec 32) : (bitsM s).length = 32 := by simp [bitsM]
theorem bitsM_get (s : BitVec 32) (i : Nat) (h : i < 32) : (bitsM s).getD i false = s.getMsbD i := by simp [bitsM, List.getD, h]
theorem bitsM_ones : bitsM ones32 = List.replicate 32 true := by decide
theorem bitsM_shift (s : BitVec 32) : (bitsM s).drop 1 ++ [false] = bitsM (s <<< 1) := by
  apply List.ext_getElem
  · simp [bitsM]
  · intro i h1 h2
    have hi : i < 32 := by simpa [bitsM] using h2
    simp only [bitsM, List.getElem_append, List.getElem_drop, List.getElem_map, List.getElem_range, List.length_drop, List.length_map, List.length_range]
    by_cases h31 : i < 32 - 1
    · rw [dif_pos h31]
      simp only [BitVec.getMsbD_shiftLeft]
      rw [Nat.add_comm]
    · rw [dif_neg h31]
      obtain rfl : i = 31 := by omega
      simp
theorem top_shift (b : Bool) : topB b <<< 1 = 0#32 := by cases b <;> decide
theorem rstep_bit (s : BitVec 32) (b : Bool) (i : Nat) (h : i < 32) : (rstep s b).getMsbD i = ((s <<< 1).getMsbD i != ((s.getMsbD 0 != b) && polyB.getMsbD i)) := by
  unfold rstep stp
  rw [BitVec.shiftLeft_xor_distrib, top_shift, BitVec.xor_zero, BitVec.getMsbD_xor, BitVec.msb_xor]
  have e1 : s.msb = s.getMsbD 0 := rfl
  have e2 : (topB b).msb = b := by cases b <;> decide
  rw [e1, e2]
  have e3 : (s.getMsbD 0 ^^ b) = (s.getMsbD 0 != b) := rfl
  rw [e3]
  cases (s.getMsbD 0 != b) <;> simp
/-- so far the new bits, behind them the old ones moved on. -/
def nx (s : BitVec 32) (b : Bool) (i : Nat) : List Bool := (bitsM (rstep s b)).take i ++ (bitsM (s <<< 1)).drop i
theorem nx_len (s : BitVec 32) (b : Bool) (i : Nat) (h : i ≤ 32) : (nx s b i).length = 32 := by simp [nx, bitsM_len]; omega
theorem nx_zero (s : BitVec 32) (b : Bool) : nx s b 0 = bitsM (s <<< 1) := by simp [nx]
theorem nx_end (s : BitVec 32) (b : Bool) : nx s b 32 = bitsM (rstep s b) := by
  simp [nx, List.take_of_length_le, List.drop_of_length_le, bitsM_len]
theorem nx_get (s : BitVec 32) (b : Bool) (i : Nat) (h : i < 32) : (nx s b i).getD i false = (s <<< 1).getMsbD i := by
  have hl : ((bitsM (rstep s b)).take i).length = i := by simp [bitsM_len]; omega
  unfold nx
  rw [List.getD, List.getElem?_append_right (by omega), hl, Nat.sub_self, List.getElem?_drop, Nat.add_zero]
  exact bitsM_get _ i h
theorem nx_set (s : BitVec 32) (b : Bool) (i : Nat) (h : i < 32) : (nx s b i).set i ((rstep s b).getMsbD i) = nx s b (i + 1) := by
  have hl : ((bitsM (rstep s b)).take i).length = i := by simp [bitsM_len]; omega
  have hr : i < (bitsM (rstep s b)).length := by rw [bitsM_len]; exact h
  have hq : i < (bitsM (s <<< 1)).length := by rw [bitsM_len]; exact h
  unfold nx
  rw [List.set_append_right _ _ (by omega), hl, Nat.sub_self, List.drop_eq_getElem_cons hq, List.set_cons_zero, List.take_succ_eq_append_getElem hr, List.append_assoc]
  congr 2
  simp [bitsM]
theorem nx_same (s : BitVec 32) (b : Bool) (i : Nat) (h : i < 32) (hq : (rstep s b).getMsbD i = (s <<< 1).getMsbD i) : nx s b i = nx s b (i + 1) := by
  rw [← nx_set s b i h, hq, ← nx_get s b i h]
  have hl : i < (nx s b i).length := by rw [nx_len s b i (by omega)]; exact h
  have : (nx s b i).getD i false = (nx s b i)[i] := by simp [List.getD, hl]
  rw [this, List.set_getElem_self]

/-- a byte bit by bit. -/
theorem stp_byte : ∀ c : BitVec 8, stp (byt c) = stp (topB c.msb) ^^^ byt (c <<< 1) := by decide +kernel
theorem stpN_byte (n : Nat) (s : BitVec 32) (c : BitVec 8) : stpN (n + 1) (s ^^^ byt c) = stpN n (rstep s c.msb ^^^ byt (c <<< 1)) := by
  rw [stpN]; congr 1
  rw [stp_xor, stp_byte, rstep, stp_xor, BitVec.xor_assoc]
theorem byt0 : byt 0#8 = 0#32 := by decide
theorem wb_bits (s : BitVec 32) (c : BitVec 8) : wb s c = (List.range 8).foldl (fun t r => rstep t (c.getLsbD (7 - r))) s := by
  have key : ∀ r, r ≤ 8 → stpN 8 (s ^^^ byt c) = stpN (8 - r) ((List.range r).foldl (fun t r => rstep t (c.getLsbD (7 - r))) s ^^^ byt (c <<< r)) := by
    intro r
    induction r with
    | zero => intro _; simp
    | succ r ih =>
      intro h
      rw [ih (by omega), show 8 - r = (8 - (r + 1)) + 1 by omega, stpN_byte, List.range_succ, List.foldl_append]
      simp only [List.foldl_cons, List.foldl_nil]
      have e1 : (c <<< r).msb = c.getLsbD (7 - r) := by
        rw [BitVec.msb_eq_getLsbD_last, BitVec.getLsbD_shiftLeft]
        have : r < 8 := by omega
        simp; omega
      rw [e1, ← BitVec.shiftLeft_add]
  unfold wb
  rw [key 8 (by omega)]
  have e8 : c <<< 8 = 0#8 := by simp
  rw [e8, byt0, BitVec.xor_zero]; rfl
/-- number of the bits so far. -/
theorem num_step (s : BitVec 32) (i : Nat) (h : i < 32) : s.toNat / 2 ^ (31 - i) = s.toNat / 2 ^ (32 - i) * 2 + (if s.getMsbD i then 1 else 0) := by
  have e : 32 - i = (31 - i) + 1 := by omega
  rw [e, Nat.pow_succ, ← Nat.div_div_eq_div_mul]
  have hb : s.getMsbD i = decide (s.toNat / 2 ^ (31 - i) % 2 = 1) := by
    have : s.getMsbD i = s.getLsbD (31 - i) := by
      rw [BitVec.getMsbD_eq_getLsbD]; simp [h]
    rw [this, BitVec.getLsbD, Nat.testBit_eq_decide_div_mod_eq]
  rw [hb]
  by_cases hc : s.toNat / 2 ^ (31 - i) % 2 = 1
  · simp [hc]; omega
  · simp [hc]; omega
end Go.Proofs.U
/- How bytes become a string. -/
namespace Go.Proofs.Ytijgfojnppcbjaa
open Go.RowKit Go.Proofs.U

theorem conv_run {w : World} {v : Value} {l : List Int} (hS : SlI .u8 w v l) : (convert 24 9 v).run Try.prog w = .ok (.string (strOfNums l)) w := by
  obtain ⟨⟨ao, cap, rfl, hcap, hlen, hnone, hsome⟩, hwf⟩ := hS
  cases ao with
  | none =>
    obtain rfl := hnone rfl
    obtain rfl : l = [] := List.eq_nil_of_length_eq_zero (by omega)
    rw [run_convert_bytes_nil (P := Try.prog) w 24 5 Try.underlying24 Try.underlying5 _ _ 9 Try.underlying9]; rfl
  | some ad =>
    have hcell := hsome _ rfl
    by_cases hl0 : l.length = 0
    · obtain rfl : l = [] := List.eq_nil_of_length_eq_zero hl0
      have hl : (loadCells ad 0).run Try.prog w = .ok #[] w := by simpa using run_loadCells_list (P := Try.prog) w ad [] (by simp)
      rw [run_convert_bytes_string w 24 9 5 _ _ cap Try.underlying24 Try.underlying5 Try.underlying9]
      exact run_bytesToString w ad 0 cap [] hl
    obtain ⟨b, off, sp⟩ := ad
    have hsp : sp = none := by
      have := hcell 0 _ (List.getElem?_eq_getElem (by simp; omega))
      simpa [Addr.add] using World.cell?_spot this
    subst hsp
    refine run_convert_bytes_arg (P := Try.prog) w 24 5 Try.underlying24 Try.underlying5 b off l.length cap l rfl ?_ 9 Try.underlying9
    intro i hi
    have := hcell i (.int .u8 (l.getD i 0)) (by simp [List.getD, hi])
    have hadd : (⟨b, off, none⟩ : Addr).add i = ⟨b, off + i, none⟩ := by unfold Addr.add; split <;> simp_all
    rwa [hadd] at this
end Go.Proofs.Ytijgfojnppcbjaa
/- How bytes become a string; what is turned twice. -/
namespace Go.Proofs.Ytijgfojnppcbjaa
open Go.RowKit Go.Proofs.U

theorem xI_twice {a m : Int} (ha : 0 ≤ a) : xI (xI a m) m = a := by
  unfold xI
  rw [Int.toNat_natCast, Nat.xor_assoc, Nat.xor_self, Nat.xor_zero]; omega
theorem turn_twice (l : List Int) (at' m : Int) (hl : ∀ n ∈ l, (Lit.int .u8 n).wf = true) : turnI (turnI l at' m) at' m = l := by
  by_cases h : 0 ≤ at' ∧ at' < (l.length : Int)
  · have hj : at'.toNat < l.length := by omega
    have e1 : turnI l at' m = l.set at'.toNat (xI (l.getD at'.toNat 0) m) := by unfold turnI; rw [if_pos h]
    have hd : l.getD at'.toNat 0 = l[at'.toNat] := by simp [List.getD, hj]
    rw [e1, turnI, if_pos (by simpa using h), List.set_set]
    have e2 : (l.set at'.toNat (xI (l.getD at'.toNat 0) m)).getD at'.toNat 0 = xI (l.getD at'.toNat 0) m := by simp [List.getD, hj]
    rw [e2, hd, xI_twice (u8_bd (hl _ (by simp))).1]
    simp
  · have e1 : turnI l at' m = l := by unfold turnI; rw [if_neg h]
    rw [e1, e1]
end Go.Proofs.Ytijgfojnppcbjaa
/- Contract of the document's own sum. -/
namespace Go.Proofs.Ytijgfojnppcbjaa
open Go.RowKit Go.Proofs.U
set_option linter.unusedSimpArgs false
set_option linter.unusedVariables false

def crcBit (l : List Int) (n : Nat) : Bool := l.getD (n / 8) 0 / 2 ^ (7 - n % 8) % 2 == 1
def sN (l : List Int) : Nat → BitVec 32
  | 0 => ones32
  | n + 1 => rstep (sN l n) (crcBit l n)
theorem bit_of (c : Int) (h : 0 ≤ c ∧ c < 256) (r : Nat) : (c / 2 ^ r % 2 == 1) = (BitVec.ofInt 8 c).getLsbD r := by
  obtain ⟨C, rfl⟩ := Int.eq_ofNat_of_zero_le h.1
  rw [BitVec.ofInt_natCast, BitVec.getLsbD, BitVec.toNat_ofNat, Nat.mod_eq_of_lt (by omega), Nat.testBit_eq_decide_div_mod_eq]
  have e : (C : Int) / 2 ^ r % 2 = ((C / 2 ^ r % 2 : Nat) : Int) := by simp
  rw [e]
  by_cases hc : C / 2 ^ r % 2 = 1
  · rw [hc]; rfl
  · have : C / 2 ^ r % 2 = 0 := by omega
    rw [this]; rfl
theorem sN_bytes (l : List Int) (hw : ∀ n ∈ l, (Lit.int .u8 n).wf = true) (q : Nat) (hq : q ≤ l.length) : sN l (8 * q) = crcF ones32 ((l.take q).map (BitVec.ofInt 8)) := by
  induction q with
  | zero => rfl
  | succ q ih =>
    have hlt : q < l.length := by omega
    have hc := u8_bd (hw l[q] (by simp))
    have hd : l.getD q 0 = l[q] := by simp [List.getD, hlt]
    rw [List.take_succ_eq_append_getElem hlt, List.map_append, crcF_append, ← ih (by omega)]
    show sN l (8 * q + 8) = wb (sN l (8 * q)) (BitVec.ofInt 8 l[q])
    rw [wb_bits]
    have key : ∀ r, r ≤ 8 → sN l (8 * q + r) = (List.range r).foldl (fun t r => rstep t ((BitVec.ofInt 8 l[q]).getLsbD (7 - r))) (sN l (8 * q)) := by
      intro r
      induction r with
      | zero => intro _; rfl
      | succ r ihr =>
        intro h
        rw [List.range_succ, List.foldl_append, ← ihr (by omega)]
        show rstep (sN l (8 * q + r)) (crcBit l (8 * q + r)) = rstep _ _
        congr 1
        unfold crcBit
        rw [show (8 * q + r) / 8 = q by omega, show (8 * q + r) % 8 = r by omega, hd]
        exact bit_of _ hc _
    exact key 8 (by omega)
theorem sN_all (l : List Int) (hw : ∀ n ∈ l, (Lit.int .u8 n).wf = true) : ((sN l (8 * l.length)).toNat : Int) = crcI l := by
  rw [sN_bytes l hw l.length (Nat.le_refl _), List.take_length]; rfl

theorem size4 : (Try.prog.info? 4).map (·.size) = some 1 := by kernel_rfl
section
variable {w : World} {ops : Array Oper} {o : Oper} {a : Act} {K : Act → World → Prop} {Q : Exit → Act → World → Prop} {E : Prop}
set_option maxRecDepth 100000 in
theorem step_copy32 (hgd : o.guard = none) (d s : Operand) (ho : o.op = .call { callee := .builtin .copy, args := #[d, s], argTypes := #[36, 36] })
    (g g2 : Nat) (hd : a.eval d = .slice (some ⟨g, 0, none⟩) 32 32) (hs : a.eval s = .slice (some ⟨g2, 1, none⟩) 31 31) (zs bs : List Bool) (hA : Arr w g zs) (hB : Arr w g2 bs) (hz : zs.length = 32) (hb : bs.length = 32)
    (h : ∀ w', Arr w' g (bs.drop 1 ++ zs.drop 31) → Fr (onG g) w w' → w'.heap.size = w.heap.size → K (a.put o.dst (goInt 31)) w') : if Region.wanted o (yielded ops a.tmps) = true then Oper.wp Try.prog o a w K Q else E := by
  have hw : Region.wanted o (yielded ops a.tmps) = true := by simp [Region.wanted, hgd]
  rw [if_pos hw]
  obtain ⟨t, ht⟩ := hA
  have hcl : ((bs.drop 1).map Value.bool).length = 31 := by simp [hb]
  have hrun := run_copy_row (P := Try.prog) w 36 36 o.type 4 g 0 32 32 ⟨g2, 1, none⟩ 31 31 (bv zs) t ((bs.drop 1).map Value.bool) Try.underlying36 size4 ht (by rw [hcl]; decide) (fun j v hv => by
      rw [Addr.plain]
      have hj : j < 31 := by have := (List.getElem?_eq_some_iff.1 hv).1; omega
      have hj2 : 1 + j < bs.length := by omega
      rw [(hB.cell (1 + j) hj2).1]
      rw [List.getElem?_map, List.getElem?_drop, List.getElem?_eq_getElem hj2] at hv
      simp only [Option.map_some, Option.some.injEq] at hv
      rw [← hv]; simp [List.getD, hj2]) (by rw [hcl, bv_size]; omega) (by
      intro v hv; obtain ⟨x, _, rfl⟩ := List.mem_map.1 hv; rfl)
  rw [hcl] at hrun
  unfold Oper.wp
  simp only [execOp, ho]
  simp [resolve, invoke, builtin, hd, hs, hrun, Result.andThen]
  refine h _ ⟨t, ?_⟩ ?_ (by simp [World.setRow])
  · rw [setRow_heap w g _ _ t _ ht]
    congr 2
    simp [bv]
  · exact ⟨rfl, rfl, rfl, by simp [World.setRow], fun k hk hn => setRow_other w g k _ (fun q => hn q)⟩
end
end Go.Proofs.Ytijgfojnppcbjaa
/- Contract of the document's own sum. -/
namespace Go.Proofs.Ytijgfojnppcbjaa
open Go.RowKit Go.Proofs.U
set_option linter.unusedSimpArgs false
set_option linter.unusedVariables false

def ones (k : Nat) : List Bool := List.replicate k true ++ List.replicate (32 - k) false
theorem ones_set : ∀ k : Fin 32, (ones k.val).set k.val true = ones (k.val + 1) := by decide
theorem ones_len : ∀ k : Fin 33, (ones k.val).length = 32 := by decide
theorem ones_0 : ones 0 = List.replicate 32 false := by decide
theorem ones_end : ones 32 = bitsM ones32 := by decide

set_option maxHeartbeats 4000000 in
theorem rof_any (v : Value) (l : List Int) (w : World) (h : SlI .u8 w v l) (hb : l.length ≤ 1000000000000) :
    Calls Try.prog 54 #[v] w fun e w' => e = .returned (.int .u32 (crcI l)) ∧ Fr noB w w' := by
  obtain ⟨a1, c1, rfl, hc1⟩ := h.opn
  have Hall := Hid.mk (sN_all l h.2)
  go_enter Try.func54, Try.ntmps54
  go_wp2_with (first
    | (refine wpList_alloc32 rfl rfl w.heap.size rfl ?_; intro w1 hA1 hf1)
    | (refine wpList_build32 rfl rfl ?_; intro zs Hzs)
    | (refine wpList_store32 rfl _ _ rfl _ rfl _ _ rfl hA1 (by simp) (by rw [Hzs.out]; simp) ?_; intro w2 hA2 hf2 hs2))
  rw [Hzs.out, ← ones_0] at hA2
  have g2 : Fr noB w w2 := hf1.thenT hf2 (fun i hi q => by unfold onG at q; omega)
  generalize hG : w.heap.size = G at *
  have HG := Hid.mk hG
  clear hG hA1 hs2
  go_loopw [15] (fun i wr => ∃ k : Nat, k ≤ 32 ∧ i = .int .i64 k ∧ Arr wr G (ones k) ∧ Fr noB w wr) (fun i _ => 32 - (intOf i).toNat)
  case atStart => exact ⟨0, by omega, rfl, hA2, g2⟩
  case round =>
    obtain ⟨k, hk, rfl, hA, hf⟩ := hrel
    by_cases hlt : k < 32
    · have Hs := Hid.mk (ones_set ⟨k, hlt⟩)
      have Hl := Hid.mk (ones_len ⟨k, by omega⟩)
      simp only at Hs Hl
      obtain ⟨z1, z2⟩ := hA.cell k (by rw [Hl.out]; omega)
      go_wp2
      go_roundw
      case rel => exact ⟨k + 1, by omega, by go_num, by rw [← Hs.out]; exact hA.set k _, hf.setCell _ _ (fun q => by have := HG.out; simp only at q; omega)⟩
      case measure => simp [intOf]; omega
    · obtain rfl : k = 32 := by omega
      rw [ones_end] at hA
      go_wp2_with (first
        | (go_at_call 65; go_must (refine (poly_any _).mono ?_; rintro e w3 ⟨rfl, hf3⟩; have hA3 := hA.fr hf3 (fun q => q)))
        | (refine wpList_alloc32 rfl rfl w3.heap.size rfl ?_; intro w4 hP4 hf4; have hA4 := hA3.fr hf4 (fun q => q))
        | (refine wpList_store32 rfl _ _ rfl _ rfl _ _ rfl hP4 (by simp) pbits_len ?_; intro w5 hP5 hf5 hs5))
      have hne : G ≠ w3.heap.size := by have := hA3.lt; omega
      have hA5 := hA4.fr hf5 (fun q => by unfold onG at q; omega)
      have g5 : Fr noB w w5 := ((hf.thenN hf3).thenN hf4).thenT hf5 (fun i hi q => by have := hf.size; have := hf3.size; unfold onG at q; omega)
      have hwH : w.heap.size ≤ w3.heap.size := by have := hf.size; have := hf3.size; omega
      generalize hH : w3.heap.size = H at *
      clear hH hP4 hA3 hA4 hs5 hf5 hf4 hf3
      have e0 : bitsM ones32 = bitsM (sN l 0) := rfl
      rw [e0] at hA5
      go_loopw [6] (fun i wr => ∃ n : Nat, n ≤ 8 * l.length ∧ i = .int .i64 n ∧ Arr wr G (bitsM (sN l n)) ∧ Arr wr H pbits ∧ Fr noB w wr) (fun i _ => 8 * l.length - (intOf i).toNat)
      case atStart => exact ⟨0, by omega, rfl, hA5, hP5, g5⟩
      case round =>
        obtain ⟨n, hn, rfl, hA, hP, hf⟩ := hrel
        by_cases hlt : n < 8 * l.length
        · have hq : n / 8 < l.length := by omega
          have hS := (h.fr0 hf).1
          have hcb := u8_bd (h.2 l[n / 8] (by simp))
          have hd : l.getD (n / 8) 0 = l[n / 8] := by simp [List.getD, hq]
          have Hbit : Hid (crcBit l n = (l[n / 8] / 2 ^ (7 - n % 8) % 2 == 1)) := by show _ = _; unfold crcBit; rw [hd]
          have hi1 : (n : Int) < 8 * (l.length : Int) := by omega
          obtain ⟨z1, z2⟩ := hA.cell 0 (by rw [bitsM_len]; omega)
          rw [bitsM_get _ 0 (by omega)] at z1
          generalize l[n / 8] = c at *
          go_wp2_with (first
            | (refine wpList_idx1 rfl 24 _ _ rfl 5 Try.underlying24 size5 _ _ _ rfl hS _ _ (n / 8) rfl (by omega) hq ?_; intro p u hu hc; obtain rfl := getu _ _ _ _ hu; rw [hd] at hc)
            | (refine wpList_alloc32 rfl rfl wr.heap.size rfl ?_; intro w6 hN6 hf6)
            | (refine wpList_build32 rfl rfl ?_; intro zs2 Hzs2)
            | (refine wpList_store32 rfl _ _ rfl _ rfl _ _ rfl hN6 (by simp) (by rw [Hzs2.out]; simp) ?_; intro w7 hN7 hf7 hs7))
          have hx0 : 0 ≤ c / 2 ^ (7 - n % 8) := Int.ediv_nonneg hcb.1 (Int.le_of_lt (Int.pow_pos (by decide)))
          have hBt : ((c / 2 ^ (7 - n % 8)).tmod 2 == 1) = crcBit l n := by rw [Hbit.out, Int.tmod_eq_emod_of_nonneg hx0]
          rw [hBt]
          clear hBt
          have Hstep : Hid (sN l (n + 1) = rstep (sN l n) (crcBit l n)) := rfl
          generalize crcBit l n = B at *
          generalize sN l n = s at *
          have hT : (!(s.getMsbD 0 == B)) = (s.getMsbD 0 != B) := rfl
          rw [hT]
          generalize hTT : (s.getMsbD 0 != B) = T at *
          have HT := Hid.mk hTT
          clear hTT hT
          have hG7 : G < w7.heap.size := by have := hA.lt; have := hf6.size; omega
          have hA7 : Arr w7 G (bitsM s) := (hA.fr hf6 (fun q => q)).fr hf7 (fun q => by have := hA.lt; unfold onG at q; omega)
          have hP7 : Arr w7 H pbits := (hP.fr hf6 (fun q => q)).fr hf7 (fun q => by have := hP.lt; unfold onG at q; omega)
          have g7 : Fr noB w w7 := (hf.thenN hf6).thenT hf7 (fun i hi q => by have := hf.size; unfold onG at q; omega)
          have hnG : G ≠ wr.heap.size := by have := hA.lt; omega
          have hnH : H ≠ wr.heap.size := by have := hP.lt; omega
          have hwN : w.heap.size ≤ wr.heap.size := hf.size
          generalize hNN : wr.heap.size = N at *
          clear hNN hN6 hf6 hf7 z1 z2
          have dr : Fr noB w7 w7.drew := (Fr.refl _ _).drew
          have hN7d := hN7.fr dr (fun q => q)
          have hA7d := hA7.fr dr (fun q => q)
          go_region_held3 (fun _ => True) (trivial) ((refine step_copy32 rfl _ _ rfl N G rfl rfl zs2 (bitsM s) hN7d hA7d (by rw [Hzs2.out]; simp) (bitsM_len _) ?_; intro w8 hN8 hf8 hs8))
          have e31 : (bitsM s).drop 1 ++ zs2.drop 31 = nx s B 0 := by rw [Hzs2.out, nx_zero, ← bitsM_shift]; rfl
          rw [e31] at hN8
          have hA8 := hA7d.fr hf8 (fun q => by unfold onG at q; omega)
          have hP8 := (hP7.fr dr (fun q => q)).fr hf8 (fun q => by unfold onG at q; omega)
          have g8 : Fr noB w w8 := (g7.thenN dr).thenT hf8 (fun i hi q => by unfold onG at q; omega)
          clear hN7d hA7d hN7 hA7 hP7 e31
          have Hrb := Hid.mk (rstep_bit s B)
          rw [HT.out] at Hrb
          go_wp2_with fail
          go_loopw [48] (fun i wr' => ∃ k : Nat, k ≤ 32 ∧ i = .int .i64 k ∧ Arr wr' N (nx s B k) ∧ Arr wr' G (bitsM s) ∧ Arr wr' H pbits ∧ Fr noB w wr') (fun i _ => 32 - (intOf i).toNat)
          case atStart => exact ⟨0, by omega, rfl, hN8, hA8, hP8, g8⟩
          case round =>
            obtain ⟨k, hk, rfl, hN, hA, hP, hf⟩ := hrel
            by_cases hk32 : k < 32
            · have Hg := Hid.mk (nx_get s B k hk32)
              have Hl := Hid.mk (nx_len s B k hk)
              have Hr := Hid.mk (Hrb.out k hk32)
              have Hset := Hid.mk (nx_set s B k hk32)
              have Hsame := Hid.mk (nx_same s B k hk32)
              have hki : (k : Int) < 32 := by omega
              have hpk : pbits.getD k false = polyB.getMsbD k := by simp [pbits, List.getD, hk32]
              obtain ⟨p1, p2⟩ := hP.cell k (by rw [pbits_len]; omega)
              obtain ⟨n1, n2⟩ := hN.cell k (by rw [Hl.out]; omega)
              rw [Hg.out] at n1
              rw [hpk] at p1
              generalize polyB.getMsbD k = pk at *
              generalize (s <<< 1).getMsbD k = bk at *
              cases T with
              | false =>
                go_wp2
                go_roundw
                case rel => exact ⟨k + 1, by omega, by go_num, by rw [← Hsame.out (by rw [Hr.out]; simp)]; exact hN, hA, hP, hf⟩
                case measure => simp [intOf]; omega
              | true =>
                cases pk with
                | false =>
                  go_wp2
                  go_roundw
                  case rel => exact ⟨k + 1, by omega, by go_num, by rw [← Hsame.out (by rw [Hr.out]; simp)]; exact hN, hA, hP, hf⟩
                  case measure => simp [intOf]; omega
                | true =>
                  go_wp2
                  go_roundw
                  case rel =>
                    refine ⟨k + 1, by omega, by go_num, ?_, hA.fr ((Fr.refl (onG N) _).setCell _ _ (fun _ => rfl)) (fun q => by unfold onG at q; omega), hP.fr ((Fr.refl (onG N) _).setCell _ _ (fun _ => rfl)) (fun q => by unfold onG at q; omega), hf.setCell _ _ (fun q => by simp only at q; omega)⟩
                    rw [← Hset.out, Hr.out]
                    have e9 : (bk != (true && true)) = !bk := by cases bk <;> rfl
                    rw [e9]
                    exact hN.set k _
                  case measure => simp [intOf]; omega
            · obtain rfl : k = 32 := by omega
              rw [nx_end] at hN
              go_wp2_with (first
                | (refine wpList_load32 rfl _ rfl _ rfl _ hN (bitsM_len _) ?_)
                | (refine wpList_store32 rfl _ _ rfl _ rfl _ _ rfl hA (bitsM_len _) (bitsM_len _) ?_; intro w9 hA9 hf9 hs9))
              go_roundw
              case rel => exact ⟨n + 1, by omega, by go_num, by rw [Hstep.out]; exact hA9, hP.fr hf9 (fun q => by unfold onG at q; omega), hf.thenT hf9 (fun i hi q => by have := HG.out; unfold onG at q; omega)⟩
              case measure => simp [intOf]; omega
        · obtain rfl : n = 8 * l.length := by omega
          go_wp2_with (refine wpList_load32 rfl _ rfl _ rfl _ hA (bitsM_len _) ?_)
          generalize sN l (8 * l.length) = s at *
          have hs32 := s.isLt
          go_loop [11, 66] (fun x i => ∃ k : Nat, k ≤ 32 ∧ i = .int .i64 k ∧ x = .int .u32 ((s.toNat / 2 ^ (32 - k) : Nat) : Int)) (fun _ i => 32 - (intOf i).toNat)
          case atStart => exact ⟨0, by omega, rfl, by rw [Nat.div_eq_of_lt (by simpa using hs32)]; rfl⟩
          case round =>
            obtain ⟨k, hk, rfl, rfl⟩ := hrel
            by_cases hk32 : k < 32
            · have Hns := Hid.mk (num_step s k hk32)
              have hle : s.toNat / 2 ^ (31 - k) ≤ s.toNat := Nat.div_le_self _ _
              have hb2 : s.toNat / 2 ^ (32 - k) * 2 < 4294967296 := by
                have := Hns.out
                split at this <;> omega
              have hgb := bitsM_get s k hk32
              generalize hX : s.toNat / 2 ^ (32 - k) = X at *
              cases hbb : s.getMsbD k with
              | false =>
                rw [hbb] at hgb Hns
                have Hn2 := Hns
                clear hX hbb Hns
                go_wp2_with (refine wpList_index32 rfl _ _ rfl _ rfl (bitsM_len _) k rfl hk32 ?_; rw [hgb])
                go_round
                case rel => exact ⟨k + 1, by omega, by go_num, by have := Hn2.out; rw [show 32 - (k + 1) = 31 - k by omega, this]; simp⟩
                case measure => simp [intOf]; omega
              | true =>
                rw [hbb] at hgb Hns
                have Hn2 := Hns
                clear hX hbb Hns
                go_wp2_with (refine wpList_index32 rfl _ _ rfl _ rfl (bitsM_len _) k rfl hk32 ?_; rw [hgb])
                go_round
                case rel => exact ⟨k + 1, by omega, by go_num, by have := Hn2.out; rw [show 32 - (k + 1) = 31 - k by omega, this]; simp⟩
                case measure => simp [intOf]; omega
            · obtain rfl : k = 32 := by omega
              go_wp2
              go_ret
              refine ⟨?_, hf⟩
              rw [← Hall.out]; simp
end Go.Proofs.Ytijgfojnppcbjaa
/- The walk of CrcTwice: it answers true for all bytes. -/
namespace Go.Proofs.Ytijgfojnppcbjaa
open Go.RowKit Go.Proofs.U
set_option linter.unusedSimpArgs false
set_option linter.unusedVariables false

theorem seal_take (l : List Int) : (sealI l).take ((sealI l).length - 4) = l := by
  rw [sealI_length, sealI, Nat.add_sub_cancel, List.take_append, Nat.sub_self, List.take_zero, List.append_nil, List.take_length]
theorem ok_seal (l : List Int) : okI (sealI l) = true := by
  unfold okI; rw [seal_take, sealI_length]; simp
theorem opn_seal (l : List Int) : opnI (sealI l) = l := by
  unfold opnI; rw [ok_seal, if_pos rfl, seal_take]
theorem opn_len (l : List Int) : (opnI l).length ≤ l.length := by
  unfold opnI; split <;> simp

end Go.Proofs.Ytijgfojnppcbjaa
/- Contracts of the document's own Seal and Open; the walk of CrcOpens: it answers true for all bytes. -/
namespace Go.Proofs.Ytijgfojnppcbjaa
open Go.RowKit Go.Proofs.U
set_option linter.unusedSimpArgs false
set_option linter.unusedVariables false

set_option maxHeartbeats 2000000 in
theorem rseal_any (v : Value) (l : List Int) (w : World) (h : SlI .u8 w v l) (hb : l.length ≤ 1000000000000) :
    Calls Try.prog 36 #[v] w fun e w' => ∃ v', e = .returned v' ∧ OwnI .u8 5 w' w.heap.size v' (sealI l) ∧ Fr noB w w' := by
  obtain ⟨a1, c1, rfl, hc1⟩ := h.opn
  have hcb := crcI_bd l
  obtain ⟨N, HN⟩ : ∃ N, Hid (crcI l = N) := ⟨_, rfl⟩
  rw [HN.out] at hcb
  go_enter Try.func36, Try.ntmps36
  go_wp2_with (first
    | (go_at_call 54; go_must (refine (rof_any _ _ _ h hb).mono ?_; rintro e w1 ⟨rfl, hf1⟩; rw [HN.out]; have s1 := h.fr0 hf1))
    | (at_builtin; first
      | (refine wpList_app rfl (.tmp 7) (.tmp 8) 24 rfl w1.heap.size 5 _ 1 1 Try.underlying24 info5 rfl (by decide) _ _ _ rfl (World.ownsRow_made _ #[] 0 (Nat.le_refl _) (Nat.zero_le _) rfl) _ _ _ rfl (s1.1.fr0 ((Fr.refl _ _).alloc _)) (U.ones _ _) ?hq1 ?hq2 ?hq3 ?_; rotate_left 3; intro v2 w2 hown2 hgr2; have hf2 := ((Fr.refl noB w1).alloc _).grown hgr2 (owns_new (World.ownsRow_made (e := 5) (size := 1) w1 #[] 0 (Nat.le_refl _) (Nat.zero_le _) rfl)); have ho2 : OwnI .u8 5 w2 w1.heap.size v2 l := OwnI.mk _ hown2 (by simp); obtain ⟨a2, c2, rfl⟩ := ho2.opn)
      | go_must (refine wpList_app rfl (.tmp 10) (.tmp 25) 24 rfl w1.heap.size 5 _ 1 1 Try.underlying24 info5 rfl (by decide) _ _ _ rfl (owns_alloc ho2 _) _ _ _ rfl (Sl_made _ _ _ 4 _ rfl (by simp)) ?h1 ?hr1 ?hr2 ?hr3 ?_; rotate_left 4; intro v4 w4 hown4 hgr4)))
  case h1 => simp [Value.oneCell']
  case hr1 => unfold maxLen; omega
  case hr2 => omega
  case hr3 => have := hf2.size; simp; omega
  case hq1 => unfold maxLen; omega
  case hq2 => omega
  case hq3 => simp
  go_ret
  exact ⟨_, rfl, (OwnI.mk _ hown4 (by simp [sealI, be4I, HN.out]) : OwnI .u8 5 w4 w1.heap.size v4 (sealI l)).rebase hf1.size, hf1.thenN ((hf2.alloc _).grown hgr4 (owns_new ho2))⟩

end Go.Proofs.Ytijgfojnppcbjaa
