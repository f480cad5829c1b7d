/- Texts E0, E1, CM3, E2, E3, E4, W2, T7 of the proof of TallyPages, one behind the other. -/
import Derived.Deep.MidRow
import Derived.Deep.RegionHeld3
import Derived.Test.YtdfffbbdeaefeaaBundleTallyPages1
import Derived.Test.YtdfffbbdeaefeaaBundleTallyPages2
import Derived.Test.YtdfffbbdeaefeaaBundleTallyPages3
import Derived.Test.YtdfffbbdeaefeaaBundleTallyPages4
import Derived.Test.YtdfffbbdeaefeaaBundleTallyPages5
import Derived.Test.YtdfffbbdeaefeaaBundleTallyPages6
import Derived.Test.YtdfffbbdeaefeaaBundleTallyPages7
import Derived.Test.YtdfffbbdeaefeaaBundleTallyPages8
import Derived.Test.YtdfffbbdeaefeaaBundleTallyPages9
/- Arrays of 32 bools in memory: laws of the walk; no condition. -/
namespace Go.Proofs.Ytdfffbbdeaefeaa
open Go.RowKit Go.Proofs.U
set_option linter.unusedSimpArgs false
set_option linter.unusedVariables false

def bv (bs : List Bool) : Array Value := (bs.map Value.bool).toArray
/-- block g holds the bools bs. -/
def Arr (w : World) (g : Nat) (bs : List Bool) : Prop := ∃ t, w.heap[g]? = some (.cells (bv bs) t (0, 0))
def onG (g : Nat) : Nat → Prop := fun k => k = g

theorem bv_size (bs : List Bool) : (bv bs).size = bs.length := by simp [bv]
theorem Arr.fr {S : Nat → Prop} {w w' : World} {g : Nat} {bs : List Bool} (h : Arr w g bs) (hf : Fr S w w') (hs : ¬ S g) : Arr w' g bs := by
  obtain ⟨t, ht⟩ := h
  exact ⟨t, (hf.block g (Array.getElem?_eq_some_iff.1 ht).1 hs).trans ht⟩
theorem Arr.lt {w : World} {g : Nat} {bs : List Bool} (h : Arr w g bs) : g < w.heap.size := by obtain ⟨t, ht⟩ := h; exact (Array.getElem?_eq_some_iff.1 ht).1
theorem Arr.cell {w : World} {g : Nat} {bs : List Bool} (h : Arr w g bs) (i : Nat) (hi : i < bs.length) : w.cell? ⟨g, i, none⟩ = some (.bool (bs.getD i false)) ∧ w.frozen? ⟨g, i, none⟩ = false := by
  obtain ⟨t, ht⟩ := h
  have hc : (bv bs)[i]? = some (.bool (bs.getD i false)) := by simp [bv, List.getD, hi]
  constructor
  · unfold World.cell?; rw [ht]; exact hc
  · simp [World.frozen?, ht]
theorem Arr.set {w : World} {g : Nat} {bs : List Bool} (h : Arr w g bs) (i : Nat) (b : Bool) : Arr (w.setCell ⟨g, i, none⟩ (.bool b)) g (bs.set i b) := by
  obtain ⟨t, ht⟩ := h
  refine ⟨t, ?_⟩
  rw [heap_setCell_same w g i (bv bs) t (.bool b) ht]
  congr 2
  apply Array.ext'
  simp [bv, List.map_set]
theorem Fr.setG {S : Nat → Prop} {a w : World} (h : Fr S a w) (g i : Nat) (v : Value) (hg : g < a.heap.size → S g) : Fr S a (w.setCell ⟨g, i, none⟩ v) := h.setCell _ _ hg
theorem setCells_fr (w : World) (g : Nat) (vs : List Value) : ∀ o, Fr (onG g) w (w.setCells g o vs) := by
  induction vs generalizing w with
  | nil => intro o; exact Fr.refl _ _
  | cons v vs ih =>
    intro o
    exact ((Fr.refl (onG g) w).setCell ⟨g, o, none⟩ v (fun _ => rfl)).trans (ih (w.setCell ⟨g, o, none⟩ v) (o + 1))
theorem setCells_heap (g : Nat) (t : TypeId) (vs : List Value) : ∀ (o : Nat) (w : World) (C : Array Value), w.heap[g]? = some (.cells C t (0, 0)) → o + vs.length = C.size →
    (w.setCells g o vs).heap[g]? = some (.cells ((C.toList.take o) ++ vs).toArray t (0, 0)) := by
  induction vs with
  | nil => intro o w C h hs; rw [World.setCells, h]; simp at hs; rw [List.append_nil, List.take_of_length_le (by simp; omega)]
  | cons v vs ih =>
    intro o w C h hs
    simp at hs
    rw [World.setCells, ih (o + 1) _ (C.setIfInBounds o v) (heap_setCell_same w g o C t v h) (by simp; omega)]
    congr 3
    rw [Array.toList_setIfInBounds, List.take_succ_eq_append_getElem (by simp; omega)]
    simp
    rw [List.take_set_of_le (by omega)]

section
variable {w : World} {ops : Array Oper} {rest : List Oper} {o : Oper} {a : Act} {Q : Exit → Act → World → Prop}

theorem info39 : (Try.prog.info? 81).map (·.size) = some 32 := by kernel_rfl
theorem built39 : Try.prog.built 81 [] = some (bv (List.replicate 32 false)) := by kernel_rfl
theorem zero39 : (Try.prog.info? 81).map (·.zero) = some (some (.agg (bv (List.replicate 32 false)))) := by kernel_rfl

theorem wpList_build32 (hgd : Region.wanted o (yielded ops a.tmps) = true) (ho : o.op = .build 81 #[])
    (h : ∀ bs, Hid (bs = List.replicate 32 false) → wpList Try.prog ops Q rest (a.put o.dst (.agg (bv bs))) w) : wpList Try.prog ops Q (o :: rest) a w := by
  refine wpList_wanted hgd fun K hK => ?_
  have hrun := run_build (P := Try.prog) w 81 #[] _ built39
  unfold Oper.wp
  simp [execOp, ho, hrun, Result.andThen]
  exact hK _ _ (h _ rfl)

theorem wpList_load32 (hgd : o.guard = none) (x : Operand) (ho : o.op = .load 81 x) (g : Nat) (hx : a.eval x = .pointer (some ⟨g, 0, none⟩)) (bs : List Bool) (hA : Arr w g bs) (hl : bs.length = 32)
    (h : wpList Try.prog ops Q rest (a.put o.dst (.agg (bv bs))) w) : wpList Try.prog ops Q (o :: rest) a w := by
  refine wpList_load_mid hgd 81 x ho g 0 hx (bs.map Value.bool) _ ?_ Try.underlying81 rfl (by rw [info39]; simp [hl]) h
  intro j v hj
  rw [Nat.zero_add]
  have hjl : j < bs.length := by have := (List.getElem?_eq_some_iff.1 hj).1; simpa using this
  rw [(hA.cell j hjl).1]
  simp [hjl] at hj
  simp [List.getD, hjl, hj]

theorem wpList_store32 (hgd : o.guard = none) (x y : Operand) (ho : o.op = .store 81 x y) (g : Nat) (hx : a.eval x = .pointer (some ⟨g, 0, none⟩)) (bs cs : List Bool) (hy : a.eval y = .agg (bv cs)) (hA : Arr w g bs) (hl : bs.length = 32) (hc : cs.length = 32)
    (h : ∀ w', Arr w' g cs → Fr (onG g) w w' → w'.heap.size = w.heap.size → wpList Try.prog ops Q rest (a.put o.dst undef) w') : wpList Try.prog ops Q (o :: rest) a w := by
  refine wpList_store_mid hgd 81 x y ho g 0 (bv cs) hx hy ?_ (by rw [info39, bv_size, hc]) ?_ (h _ ?_ (setCells_fr w g _ 0) ?_)
  · intro j hj
    rw [bv_size] at hj
    have := hA.cell j (by omega)
    rw [Nat.zero_add, this.1]
    exact ⟨rfl, this.2⟩
  · unfold bv
    refine all_oneCell_toArray ?_
    intro v hv
    simp at hv
    rcases hv with ⟨_, rfl⟩ | ⟨_, rfl⟩ <;> rfl
  · obtain ⟨t, ht⟩ := hA
    refine ⟨t, ?_⟩
    rw [setCells_heap g t _ 0 w _ ht (by simp [bv, hl, hc])]
    simp [bv]
  · have : ∀ (vs : List Value) (o : Nat) (w : World), (w.setCells g o vs).heap.size = w.heap.size := by
      intro vs
      induction vs with
      | nil => intro o w; rfl
      | cons v vs ih => intro o w; rw [World.setCells, ih]; simp [World.setCell]
    exact this _ _ _

theorem wpList_index32 (hgd : o.guard = none) (x y : Operand) (ho : o.op = .index 81 x y) (bs : List Bool) (hx : a.eval x = .agg (bv bs)) (hl : bs.length = 32) (i : Nat) (hy : a.eval y = .int .i64 (i : Int)) (hi : i < 32)
    (h : wpList Try.prog ops Q rest (a.put o.dst (.bool (bs.getD i false))) w) : wpList Try.prog ops Q (o :: rest) a w := by
  refine wpList_plain hgd fun K hK => ?_
  have hc : (bv bs)[i]? = some (.bool (bs.getD i false)) := by simp [bv, List.getD, hl, hi]
  have hrun : (Instr.index 81 (.agg (bv bs)) (.int .i64 (i : Int))).run Try.prog w = .ok (.bool (bs.getD i false)) w := by
    have a4 := Try.isAgg4
    have z4 := Try.sizeOf4
    have h2 : (0 : Int) ≤ (i : Int) ∧ (i : Int) < (32 : Nat) := by omega
    simp [Instr.index, asIntOf, run_underlying Try.underlying81, h2, z4, part, a4, hc, go_sem]
    intro hh; omega
  unfold Oper.wp
  simp [execOp, ho, hx, hy, hrun, Result.andThen]
  exact hK _ _ h

theorem wpList_alloc32 (hgd : Region.wanted o (yielded ops a.tmps) = true) (ho : o.op = .alloc 81) (g : Nat) (hg : w.heap.size = g)
    (h : ∀ w', Arr w' g (List.replicate 32 false) → Fr noB w w' → wpList Try.prog ops Q rest (a.put o.dst (.pointer (some ⟨g, 0, none⟩))) w') : wpList Try.prog ops Q (o :: rest) a w := by
  refine wpList_wanted hgd fun K hK => ?_
  subst hg
  obtain ⟨i, hi, hz⟩ := Option.map_eq_some_iff.1 zero39
  have hrun : (Instr.alloc 81 true (.tuple #[])).run Try.prog w = .ok (.pointer (some ⟨w.heap.size, 0, none⟩)) (w.alloc (.cells (bv (List.replicate 32 false)) 81)) := by
    simp [Instr.alloc, zeroValue, typeInfo, hi, hz, newVar, go_sem]
  unfold Oper.wp
  simp [execOp, ho, hrun, Result.andThen]
  refine hK _ _ (h _ ⟨81, ?_⟩ ((Fr.refl _ _).alloc _))
  show (w.heap.push _)[w.heap.size]? = _
  simp
end
end Go.Proofs.Ytdfffbbdeaefeaa
/- Contract of the document's own polynomial. -/
namespace Go.Proofs.Ytdfffbbdeaefeaa
open Go.RowKit Go.Proofs.U
set_option linter.unusedSimpArgs false
set_option linter.unusedVariables false

def pbits : List Bool := (List.range 32).map (fun i => polyB.getMsbD i)
theorem pbits_at : ∀ k : Fin 32, ((79764919 : Int) / 2 ^ k.val % 2 == 1) = pbits.getD (31 - k.val) false := by decide
def pdone (k : Nat) : List Bool := List.replicate (32 - k) false ++ pbits.drop (32 - k)
theorem pdone_set : ∀ k : Fin 32, (pdone k.val).set (31 - k.val) (pbits.getD (31 - k.val) false) = pdone (k.val + 1) := by decide
theorem pdone_len : ∀ k : Fin 33, (pdone k.val).length = 32 := by decide
theorem pdone_end : pdone 32 = pbits := by decide
theorem pdone_0 : pdone 0 = List.replicate 32 false := by decide
theorem pbits_len : pbits.length = 32 := by decide

theorem load32_run {w : World} {g : Nat} {bs : List Bool} (hA : Arr w g bs) (hl : bs.length = 32) : (loadVar 81 ⟨g, 0, none⟩).run Try.prog w = .ok (.agg (bv bs)) w := by
  refine run_loadVar_mid (P := Try.prog) w g 0 81 (bs.map Value.bool) _ ?_ Try.underlying81 rfl (by rw [info39]; simp [hl])
  intro j v hj
  rw [Nat.zero_add]
  have hjl : j < bs.length := by have := (List.getElem?_eq_some_iff.1 hj).1; simpa using this
  rw [(hA.cell j hjl).1]
  simp [hjl] at hj
  simp [List.getD, hjl, hj]

set_option maxHeartbeats 2000000 in
theorem poly_any (w : World) : Calls Try.prog 35 #[] w fun e w' => e = .returned (.agg (bv pbits)) ∧ Fr noB w w' := by
  go_enter Try.func35, Try.ntmps35
  go_wp2_with (first
    | (refine wpList_alloc32 rfl rfl w.heap.size rfl ?_; intro w1 hA1 hf1)
    | (refine wpList_alloc32 rfl rfl w1.heap.size rfl ?_; intro w2 hA2 hf2)
    | (refine wpList_build32 rfl rfl ?_; intro zs Hzs)
    | (refine wpList_store32 rfl _ _ rfl _ rfl _ _ rfl hA2 (by simp) (by rw [Hzs.out]; simp) ?_; intro w3 hA3 hf3 hs3))
  have g3 : Fr noB w w3 := (hf1.thenN hf2).thenT hf3 (fun i hi q => by have := hf1.size; unfold onG at q; omega)
  have hlt1 := hA1.lt
  have hA13 : Arr w3 w.heap.size (List.replicate 32 false) := (hA1.fr hf2 (fun q => q)).fr hf3 (fun q => by unfold onG at q; omega)
  rw [Hzs.out, ← pdone_0] at hA3
  clear hA1 hA2
  generalize hG : w1.heap.size = G at *
  clear hG
  go_loopw [2, 3] (fun n i wr => ∃ k : Nat, k ≤ 32 ∧ n = .int .u32 (79764919 / 2 ^ k) ∧ i = .int .i64 (31 - (k : Int)) ∧ Arr wr G (pdone k) ∧ Arr wr w.heap.size (List.replicate 32 false) ∧ Fr noB w wr) (fun _ i _ => (intOf i + 1).toNat)
  case atStart => exact ⟨0, by omega, by simp, by simp, hA3, hA13, g3⟩
  case round =>
    obtain ⟨k, hk, rfl, rfl, hA, hB, hf⟩ := hrel
    by_cases hlt : k < 32
    · have hpos : (0 : Int) ≤ 79764919 / 2 ^ k := Int.ediv_nonneg (by decide) (Int.le_of_lt (Int.pow_pos (by decide)))
      have hle : (79764919 : Int) / 2 ^ k ≤ 79764919 := Int.ediv_le_self _ (by decide)
      have Hst := Hid.mk (Int.ediv_ediv_of_nonneg (x := (79764919 : Int)) (y := 2 ^ k) (z := 2) (Int.le_of_lt (Int.pow_pos (by decide))))
      have Hb := Hid.mk (pbits_at ⟨k, hlt⟩)
      have Hs := Hid.mk (pdone_set ⟨k, hlt⟩)
      have Hl := Hid.mk (pdone_len ⟨k, by omega⟩)
      simp only at Hb Hs Hl
      obtain ⟨N, HN⟩ : ∃ N, Hid ((79764919 : Int) / 2 ^ k = N) := ⟨_, rfl⟩
      rw [HN.out] at hpos hle Hst Hb ⊢
      obtain ⟨j, hj⟩ : ∃ j : Nat, (31 : Int) - (k : Int) = (j : Int) := ⟨31 - k, by omega⟩
      have hj31 : j = 31 - k := by omega
      have HJ := Hid.mk hj
      rw [hj]
      have hj32 : (j : Int) < 32 := by omega
      obtain ⟨z1, z2⟩ := hA.cell j (by rw [Hl.out]; omega)
      rw [← hj31] at Hb Hs
      clear hj hj31
      go_wp2
      go_roundw
      case rel =>
        refine ⟨k + 1, by omega, by rw [Int.pow_succ, ← Hst.out], by have := HJ.out; congr 1; omega, ?_, hB.fr ((Fr.refl (onG G) wr).setCell _ _ (fun _ => rfl)) (fun q => by unfold onG at q; omega), hf.setCell _ _ (fun q => by simp only at q; omega)⟩
        rw [Hb.out, ← Hs.out]
        exact hA.set j _
      case measure => simp [intOf]
    · obtain rfl : k = 32 := by omega
      rw [pdone_end] at hA
      go_wp2_with (first
        | (refine wpList_load32 rfl _ rfl _ rfl _ hA pbits_len ?_)
        | (refine wpList_store32 rfl _ _ rfl _ rfl _ _ rfl hB (by simp) pbits_len ?_; intro w4 hA4 hf4 hs4))
      obtain ⟨t4, ht4⟩ := hA4
      refine bodyPost_ret (v := .agg (bv pbits)) ?_ rfl ⟨rfl, hf.thenT hf4 (fun i hi q => by unfold onG at q; omega)⟩
      exact results_cell_row Try.results35 _ w4 w.heap.size t4 (bv pbits) (0, 0) _ rfl ht4 Try.underlying81 rfl (by rw [info39, bv_size, pbits_len])
end Go.Proofs.Ytdfffbbdeaefeaa
/- A sum bit by bit, as the document has it; no condition but what each states. -/
namespace Go.Proofs.U
set_option linter.unusedSimpArgs false
set_option linter.unusedVariables false

def bitsM (s : BitVec 32) : List Bool := (List.range 32).map (fun i => s.getMsbD i)
def topB (b : Bool) : BitVec 32 := if b then 0x80000000#32 else 0#32
def rstep (s : BitVec 32) (b : Bool) : BitVec 32 := stp (s ^^^ topB b)
theorem bitsM_len (s : BitVec 32) : (bitsM s).length = 32 := by simp [bitsM]
theorem bitsM_get (s : BitVec 32) (i : Nat) (h : i < 32) : (bitsM s).getD i false = s.getMsbD i := by simp [bitsM, List.getD, h]
theorem bitsM_ones : bitsM ones32 = List.replicate 32 true := by decide
theorem bitsM_shift (s : BitVec 32) : (bitsM s).drop 1 ++ [false] = bitsM (s <<< 1) := by
  apply List.ext_getElem
  · simp [bitsM]
  · intro i h1 h2
    have hi : i < 32 := by simpa [bitsM] using h2
    simp only [bitsM, List.getElem_append, List.getElem_drop, List.getElem_map, List.getElem_range, List.length_drop, List.length_map, List.length_range]
    by_cases h31 : i < 32 - 1
    · rw [dif_pos h31]
      simp only [BitVec.getMsbD_shiftLeft]
      rw [Nat.add_comm]
    · rw [dif_neg h31]
      obtain rfl : i = 31 := by omega
      simp
theorem top_shift (b : Bool) : topB b <<< 1 = 0#32 := by cases b <;> decide
theorem rstep_bit (s : BitVec 32) (b : Bool) (i : Nat) (h : i < 32) : (rstep s b).getMsbD i = ((s <<< 1).getMsbD i != ((s.getMsbD 0 != b) && polyB.getMsbD i)) := by
  unfold rstep stp
  rw [BitVec.shiftLeft_xor_distrib, top_shift, BitVec.xor_zero, BitVec.getMsbD_xor, BitVec.msb_xor]
  have e1 : s.msb = s.getMsbD 0 := rfl
  have e2 : (topB b).msb = b := by cases b <;> decide
  rw [e1, e2]
  have e3 : (s.getMsbD 0 ^^ b) = (s.getMsbD 0 != b) := rfl
  rw [e3]
  cases (s.getMsbD 0 != b) <;> simp
/-- so far the new bits, behind them the old ones moved on. -/
def nx (s : BitVec 32) (b : Bool) (i : Nat) : List Bool := (bitsM (rstep s b)).take i ++ (bitsM (s <<< 1)).drop i
theorem nx_len (s : BitVec 32) (b : Bool) (i : Nat) (h : i ≤ 32) : (nx s b i).length = 32 := by simp [nx, bitsM_len]; omega
theorem nx_zero (s : BitVec 32) (b : Bool) : nx s b 0 = bitsM (s <<< 1) := by simp [nx]
theorem nx_end (s : BitVec 32) (b : Bool) : nx s b 32 = bitsM (rstep s b) := by
  simp [nx, List.take_of_length_le, List.drop_of_length_le, bitsM_len]
theorem nx_get (s : BitVec 32) (b : Bool) (i : Nat) (h : i < 32) : (nx s b i).getD i false = (s <<< 1).getMsbD i := by
  have hl : ((bitsM (rstep s b)).take i).length = i := by simp [bitsM_len]; omega
  unfold nx
  rw [List.getD, List.getElem?_append_right (by omega), hl, Nat.sub_self, List.getElem?_drop, Nat.add_zero]
  exact bitsM_get _ i h
theorem nx_set (s : BitVec 32) (b : Bool) (i : Nat) (h : i < 32) : (nx s b i).set i ((rstep s b).getMsbD i) = nx s b (i + 1) := by
  have hl : ((bitsM (rstep s b)).take i).length = i := by simp [bitsM_len]; omega
  have hr : i < (bitsM (rstep s b)).length := by rw [bitsM_len]; exact h
  have hq : i < (bitsM (s <<< 1)).length := by rw [bitsM_len]; exact h
  unfold nx
  rw [List.set_append_right _ _ (by omega), hl, Nat.sub_self, List.drop_eq_getElem_cons hq, List.set_cons_zero, List.take_succ_eq_append_getElem hr, List.append_assoc]
  congr 2
  simp [bitsM]
theorem nx_same (s : BitVec 32) (b : Bool) (i : Nat) (h : i < 32) (hq : (rstep s b).getMsbD i = (s <<< 1).getMsbD i) : nx s b i = nx s b (i + 1) := by
  rw [← nx_set s b i h, hq, ← nx_get s b i h]
  have hl : i < (nx s b i).length := by rw [nx_len s b i (by omega)]; exact h
  have : (nx s b i).getD i false = (nx s b i)[i] := by simp [List.getD, hl]
  rw [this, List.set_getElem_self]

/-- a byte bit by bit. -/
theorem stp_byte : ∀ c : BitVec 8, stp (byt c) = stp (topB c.msb) ^^^ byt (c <<< 1) := by decide +kernel
theorem stpN_byte (n : Nat) (s : BitVec 32) (c : BitVec 8) : stpN (n + 1) (s ^^^ byt c) = stpN n (rstep s c.msb ^^^ byt (c <<< 1)) := by
  rw [stpN]; congr 1
  rw [stp_xor, stp_byte, rstep, stp_xor, BitVec.xor_assoc]
theorem byt0 : byt 0#8 = 0#32 := by decide
theorem wb_bits (s : BitVec 32) (c : BitVec 8) : wb s c = (List.range 8).foldl (fun t r => rstep t (c.getLsbD (7 - r))) s := by
  have key : ∀ r, r ≤ 8 → stpN 8 (s ^^^ byt c) = stpN (8 - r) ((List.range r).foldl (fun t r => rstep t (c.getLsbD (7 - r))) s ^^^ byt (c <<< r)) := by
    intro r
    induction r with
    | zero => intro _; simp
    | succ r ih =>
      intro h
      rw [ih (by omega), show 8 - r = (8 - (r + 1)) + 1 by omega, stpN_byte, List.range_succ, List.foldl_append]
      simp only [List.foldl_cons, List.foldl_nil]
      have e1 : (c <<< r).msb = c.getLsbD (7 - r) := by
        rw [BitVec.msb_eq_getLsbD_last, BitVec.getLsbD_shiftLeft]
        have : r < 8 := by omega
        simp; omega
      rw [e1, ← BitVec.shiftLeft_add]
  unfold wb
  rw [key 8 (by omega)]
  have e8 : c <<< 8 = 0#8 := by simp
  rw [e8, byt0, BitVec.xor_zero]; rfl
/-- number of the bits so far. -/
theorem num_step (s : BitVec 32) (i : Nat) (h : i < 32) : s.toNat / 2 ^ (31 - i) = s.toNat / 2 ^ (32 - i) * 2 + (if s.getMsbD i then 1 else 0) := by
  have e : 32 - i = (31 - i) + 1 := by omega
  rw [e, Nat.pow_succ, ← Nat.div_div_eq_div_mul]
  have hb : s.getMsbD i = decide (s.toNat / 2 ^ (31 - i) % 2 = 1) := by
    have : s.getMsbD i = s.getLsbD (31 - i) := by
      rw [BitVec.getMsbD_eq_getLsbD]; simp [h]
    rw [this, BitVec.getLsbD, Nat.testBit_eq_decide_div_mod_eq]
  rw [hb]
  by_cases hc : s.toNat / 2 ^ (31 - i) % 2 = 1
  · simp [hc]; omega
  · simp [hc]; omega
end Go.Proofs.U
/- Contract of the document's own sum. -/
namespace Go.Proofs.Ytdfffbbdeaefeaa
open Go.RowKit Go.Proofs.U
set_option linter.unusedSimpArgs false
set_option linter.unusedVariables false

def crcBit (l : List Int) (n : Nat) : Bool := l.getD (n / 8) 0 / 2 ^ (7 - n % 8) % 2 == 1
def sN (l : List Int) : Nat → BitVec 32
  | 0 => ones32
  | n + 1 => rstep (sN l n) (crcBit l n)
theorem bit_of (c : Int) (h : 0 ≤ c ∧ c < 256) (r : Nat) : (c / 2 ^ r % 2 == 1) = (BitVec.ofInt 8 c).getLsbD r := by
  obtain ⟨C, rfl⟩ := Int.eq_ofNat_of_zero_le h.1
  rw [BitVec.ofInt_natCast, BitVec.getLsbD, BitVec.toNat_ofNat, Nat.mod_eq_of_lt (by omega), Nat.testBit_eq_decide_div_mod_eq]
  have e : (C : Int) / 2 ^ r % 2 = ((C / 2 ^ r % 2 : Nat) : Int) := by simp
  rw [e]
  by_cases hc : C / 2 ^ r % 2 = 1
  · rw [hc]; rfl
  · have : C / 2 ^ r % 2 = 0 := by omega
    rw [this]; rfl
theorem sN_bytes (l : List Int) (hw : ∀ n ∈ l, (Lit.int .u8 n).wf = true) (q : Nat) (hq : q ≤ l.length) : sN l (8 * q) = crcF ones32 ((l.take q).map (BitVec.ofInt 8)) := by
  induction q with
  | zero => rfl
  | succ q ih =>
    have hlt : q < l.length := by omega
    have hc := u8_bd (hw l[q] (by simp))
    have hd : l.getD q 0 = l[q] := by simp [List.getD, hlt]
    rw [List.take_succ_eq_append_getElem hlt, List.map_append, crcF_append, ← ih (by omega)]
    show sN l (8 * q + 8) = wb (sN l (8 * q)) (BitVec.ofInt 8 l[q])
    rw [wb_bits]
    have key : ∀ r, r ≤ 8 → sN l (8 * q + r) = (List.range r).foldl (fun t r => rstep t ((BitVec.ofInt 8 l[q]).getLsbD (7 - r))) (sN l (8 * q)) := by
      intro r
      induction r with
      | zero => intro _; rfl
      | succ r ihr =>
        intro h
        rw [List.range_succ, List.foldl_append, ← ihr (by omega)]
        show rstep (sN l (8 * q + r)) (crcBit l (8 * q + r)) = rstep _ _
        congr 1
        unfold crcBit
        rw [show (8 * q + r) / 8 = q by omega, show (8 * q + r) % 8 = r by omega, hd]
        exact bit_of _ hc _
    exact key 8 (by omega)
theorem sN_all (l : List Int) (hw : ∀ n ∈ l, (Lit.int .u8 n).wf = true) : ((sN l (8 * l.length)).toNat : Int) = crcI l := by
  rw [sN_bytes l hw l.length (Nat.le_refl _), List.take_length]; rfl

theorem size4 : (Try.prog.info? 4).map (·.size) = some 1 := by kernel_rfl
section
variable {w : World} {ops : Array Oper} {o : Oper} {a : Act} {K : Act → World → Prop} {Q : Exit → Act → World → Prop} {E : Prop}
set_option maxRecDepth 100000 in
theorem step_copy32 (hgd : o.guard = none) (d s : Operand) (ho : o.op = .call { callee := .builtin .copy, args := #[d, s], argTypes := #[83, 83] })
    (g g2 : Nat) (hd : a.eval d = .slice (some ⟨g, 0, none⟩) 32 32) (hs : a.eval s = .slice (some ⟨g2, 1, none⟩) 31 31) (zs bs : List Bool) (hA : Arr w g zs) (hB : Arr w g2 bs) (hz : zs.length = 32) (hb : bs.length = 32)
    (h : ∀ w', Arr w' g (bs.drop 1 ++ zs.drop 31) → Fr (onG g) w w' → w'.heap.size = w.heap.size → K (a.put o.dst (goInt 31)) w') : if Region.wanted o (yielded ops a.tmps) = true then Oper.wp Try.prog o a w K Q else E := by
  have hw : Region.wanted o (yielded ops a.tmps) = true := by simp [Region.wanted, hgd]
  rw [if_pos hw]
  obtain ⟨t, ht⟩ := hA
  have hcl : ((bs.drop 1).map Value.bool).length = 31 := by simp [hb]
  have hrun := run_copy_row (P := Try.prog) w 83 83 o.type 4 g 0 32 32 ⟨g2, 1, none⟩ 31 31 (bv zs) t ((bs.drop 1).map Value.bool) Try.underlying83 size4 ht (by rw [hcl]; decide) (fun j v hv => by
      rw [Addr.plain]
      have hj : j < 31 := by have := (List.getElem?_eq_some_iff.1 hv).1; omega
      have hj2 : 1 + j < bs.length := by omega
      rw [(hB.cell (1 + j) hj2).1]
      rw [List.getElem?_map, List.getElem?_drop, List.getElem?_eq_getElem hj2] at hv
      simp only [Option.map_some, Option.some.injEq] at hv
      rw [← hv]; simp [List.getD, hj2]) (by rw [hcl, bv_size]; omega) (by
      intro v hv; obtain ⟨x, _, rfl⟩ := List.mem_map.1 hv; rfl)
  rw [hcl] at hrun
  unfold Oper.wp
  simp only [execOp, ho]
  simp [resolve, invoke, builtin, hd, hs, hrun, Result.andThen]
  refine h _ ⟨t, ?_⟩ ?_ (by simp [World.setRow])
  · rw [setRow_heap w g _ _ t _ ht]
    congr 2
    simp [bv]
  · exact ⟨rfl, rfl, rfl, by simp [World.setRow], fun k hk hn => setRow_other w g k _ (fun q => hn q)⟩
end
end Go.Proofs.Ytdfffbbdeaefeaa
/- Contract of the document's own sum. -/
namespace Go.Proofs.Ytdfffbbdeaefeaa
open Go.RowKit Go.Proofs.U
set_option linter.unusedSimpArgs false
set_option linter.unusedVariables false

def ones (k : Nat) : List Bool := List.replicate k true ++ List.replicate (32 - k) false
theorem ones_set : ∀ k : Fin 32, (ones k.val).set k.val true = ones (k.val + 1) := by decide
theorem ones_len : ∀ k : Fin 33, (ones k.val).length = 32 := by decide
theorem ones_0 : ones 0 = List.replicate 32 false := by decide
theorem ones_end : ones 32 = bitsM ones32 := by decide

set_option maxHeartbeats 4000000 in
theorem rof_any (v : Value) (l : List Int) (w : World) (h : SlI .u8 w v l) (hb : l.length ≤ 1000000000000) :
    Calls Try.prog 30 #[v] w fun e w' => e = .returned (.int .u32 (crcI l)) ∧ Fr noB w w' := by
  obtain ⟨a1, c1, rfl, hc1⟩ := h.opn
  have Hall := Hid.mk (sN_all l h.2)
  go_enter Try.func30, Try.ntmps30
  go_wp2_with (first
    | (refine wpList_alloc32 rfl rfl w.heap.size rfl ?_; intro w1 hA1 hf1)
    | (refine wpList_build32 rfl rfl ?_; intro zs Hzs)
    | (refine wpList_store32 rfl _ _ rfl _ rfl _ _ rfl hA1 (by simp) (by rw [Hzs.out]; simp) ?_; intro w2 hA2 hf2 hs2))
  rw [Hzs.out, ← ones_0] at hA2
  have g2 : Fr noB w w2 := hf1.thenT hf2 (fun i hi q => by unfold onG at q; omega)
  generalize hG : w.heap.size = G at *
  have HG := Hid.mk hG
  clear hG hA1 hs2
  go_loopw [15] (fun i wr => ∃ k : Nat, k ≤ 32 ∧ i = .int .i64 k ∧ Arr wr G (ones k) ∧ Fr noB w wr) (fun i _ => 32 - (intOf i).toNat)
  case atStart => exact ⟨0, by omega, rfl, hA2, g2⟩
  case round =>
    obtain ⟨k, hk, rfl, hA, hf⟩ := hrel
    by_cases hlt : k < 32
    · have Hs := Hid.mk (ones_set ⟨k, hlt⟩)
      have Hl := Hid.mk (ones_len ⟨k, by omega⟩)
      simp only at Hs Hl
      obtain ⟨z1, z2⟩ := hA.cell k (by rw [Hl.out]; omega)
      go_wp2
      go_roundw
      case rel => exact ⟨k + 1, by omega, by go_num, by rw [← Hs.out]; exact hA.set k _, hf.setCell _ _ (fun q => by have := HG.out; simp only at q; omega)⟩
      case measure => simp [intOf]; omega
    · obtain rfl : k = 32 := by omega
      rw [ones_end] at hA
      go_wp2_with (first
        | (go_at_call 35; go_must (refine (poly_any _).mono ?_; rintro e w3 ⟨rfl, hf3⟩; have hA3 := hA.fr hf3 (fun q => q)))
        | (refine wpList_alloc32 rfl rfl w3.heap.size rfl ?_; intro w4 hP4 hf4; have hA4 := hA3.fr hf4 (fun q => q))
        | (refine wpList_store32 rfl _ _ rfl _ rfl _ _ rfl hP4 (by simp) pbits_len ?_; intro w5 hP5 hf5 hs5))
      have hne : G ≠ w3.heap.size := by have := hA3.lt; omega
      have hA5 := hA4.fr hf5 (fun q => by unfold onG at q; omega)
      have g5 : Fr noB w w5 := ((hf.thenN hf3).thenN hf4).thenT hf5 (fun i hi q => by have := hf.size; have := hf3.size; unfold onG at q; omega)
      have hwH : w.heap.size ≤ w3.heap.size := by have := hf.size; have := hf3.size; omega
      generalize hH : w3.heap.size = H at *
      clear hH hP4 hA3 hA4 hs5 hf5 hf4 hf3
      have e0 : bitsM ones32 = bitsM (sN l 0) := rfl
      rw [e0] at hA5
      go_loopw [6] (fun i wr => ∃ n : Nat, n ≤ 8 * l.length ∧ i = .int .i64 n ∧ Arr wr G (bitsM (sN l n)) ∧ Arr wr H pbits ∧ Fr noB w wr) (fun i _ => 8 * l.length - (intOf i).toNat)
      case atStart => exact ⟨0, by omega, rfl, hA5, hP5, g5⟩
      case round =>
        obtain ⟨n, hn, rfl, hA, hP, hf⟩ := hrel
        by_cases hlt : n < 8 * l.length
        · have hq : n / 8 < l.length := by omega
          have hS := (h.fr0 hf).1
          have hcb := u8_bd (h.2 l[n / 8] (by simp))
          have hd : l.getD (n / 8) 0 = l[n / 8] := by simp [List.getD, hq]
          have Hbit : Hid (crcBit l n = (l[n / 8] / 2 ^ (7 - n % 8) % 2 == 1)) := by show _ = _; unfold crcBit; rw [hd]
          have hi1 : (n : Int) < 8 * (l.length : Int) := by omega
          obtain ⟨z1, z2⟩ := hA.cell 0 (by rw [bitsM_len]; omega)
          rw [bitsM_get _ 0 (by omega)] at z1
          generalize l[n / 8] = c at *
          go_wp2_with (first
            | (refine wpList_idx1 rfl 53 _ _ rfl 5 Try.underlying53 size5 _ _ _ rfl hS _ _ (n / 8) rfl (by omega) hq ?_; intro p u hu hc; obtain rfl := getu _ _ _ _ hu; rw [hd] at hc)
            | (refine wpList_alloc32 rfl rfl wr.heap.size rfl ?_; intro w6 hN6 hf6)
            | (refine wpList_build32 rfl rfl ?_; intro zs2 Hzs2)
            | (refine wpList_store32 rfl _ _ rfl _ rfl _ _ rfl hN6 (by simp) (by rw [Hzs2.out]; simp) ?_; intro w7 hN7 hf7 hs7))
          have hx0 : 0 ≤ c / 2 ^ (7 - n % 8) := Int.ediv_nonneg hcb.1 (Int.le_of_lt (Int.pow_pos (by decide)))
          have hBt : ((c / 2 ^ (7 - n % 8)).tmod 2 == 1) = crcBit l n := by rw [Hbit.out, Int.tmod_eq_emod_of_nonneg hx0]
          rw [hBt]
          clear hBt
          have Hstep : Hid (sN l (n + 1) = rstep (sN l n) (crcBit l n)) := rfl
          generalize crcBit l n = B at *
          generalize sN l n = s at *
          have hT : (!(s.getMsbD 0 == B)) = (s.getMsbD 0 != B) := rfl
          rw [hT]
          generalize hTT : (s.getMsbD 0 != B) = T at *
          have HT := Hid.mk hTT
          clear hTT hT
          have hG7 : G < w7.heap.size := by have := hA.lt; have := hf6.size; omega
          have hA7 : Arr w7 G (bitsM s) := (hA.fr hf6 (fun q => q)).fr hf7 (fun q => by have := hA.lt; unfold onG at q; omega)
          have hP7 : Arr w7 H pbits := (hP.fr hf6 (fun q => q)).fr hf7 (fun q => by have := hP.lt; unfold onG at q; omega)
          have g7 : Fr noB w w7 := (hf.thenN hf6).thenT hf7 (fun i hi q => by have := hf.size; unfold onG at q; omega)
          have hnG : G ≠ wr.heap.size := by have := hA.lt; omega
          have hnH : H ≠ wr.heap.size := by have := hP.lt; omega
          have hwN : w.heap.size ≤ wr.heap.size := hf.size
          generalize hNN : wr.heap.size = N at *
          clear hNN hN6 hf6 hf7 z1 z2
          have dr : Fr noB w7 w7.drew := (Fr.refl _ _).drew
          have hN7d := hN7.fr dr (fun q => q)
          have hA7d := hA7.fr dr (fun q => q)
          go_region_held3 (fun _ => True) (trivial) ((refine step_copy32 rfl _ _ rfl N G rfl rfl zs2 (bitsM s) hN7d hA7d (by rw [Hzs2.out]; simp) (bitsM_len _) ?_; intro w8 hN8 hf8 hs8))
          have e31 : (bitsM s).drop 1 ++ zs2.drop 31 = nx s B 0 := by rw [Hzs2.out, nx_zero, ← bitsM_shift]; rfl
          rw [e31] at hN8
          have hA8 := hA7d.fr hf8 (fun q => by unfold onG at q; omega)
          have hP8 := (hP7.fr dr (fun q => q)).fr hf8 (fun q => by unfold onG at q; omega)
          have g8 : Fr noB w w8 := (g7.thenN dr).thenT hf8 (fun i hi q => by unfold onG at q; omega)
          clear hN7d hA7d hN7 hA7 hP7 e31
          have Hrb := Hid.mk (rstep_bit s B)
          rw [HT.out] at Hrb
          go_wp2_with fail
          go_loopw [48] (fun i wr' => ∃ k : Nat, k ≤ 32 ∧ i = .int .i64 k ∧ Arr wr' N (nx s B k) ∧ Arr wr' G (bitsM s) ∧ Arr wr' H pbits ∧ Fr noB w wr') (fun i _ => 32 - (intOf i).toNat)
          case atStart => exact ⟨0, by omega, rfl, hN8, hA8, hP8, g8⟩
          case round =>
            obtain ⟨k, hk, rfl, hN, hA, hP, hf⟩ := hrel
            by_cases hk32 : k < 32
            · have Hg := Hid.mk (nx_get s B k hk32)
              have Hl := Hid.mk (nx_len s B k hk)
              have Hr := Hid.mk (Hrb.out k hk32)
              have Hset := Hid.mk (nx_set s B k hk32)
              have Hsame := Hid.mk (nx_same s B k hk32)
              have hki : (k : Int) < 32 := by omega
              have hpk : pbits.getD k false = polyB.getMsbD k := by simp [pbits, List.getD, hk32]
              obtain ⟨p1, p2⟩ := hP.cell k (by rw [pbits_len]; omega)
              obtain ⟨n1, n2⟩ := hN.cell k (by rw [Hl.out]; omega)
              rw [Hg.out] at n1
              rw [hpk] at p1
              generalize polyB.getMsbD k = pk at *
              generalize (s <<< 1).getMsbD k = bk at *
              cases T with
              | false =>
                go_wp2
                go_roundw
                case rel => exact ⟨k + 1, by omega, by go_num, by rw [← Hsame.out (by rw [Hr.out]; simp)]; exact hN, hA, hP, hf⟩
                case measure => simp [intOf]; omega
              | true =>
                cases pk with
                | false =>
                  go_wp2
                  go_roundw
                  case rel => exact ⟨k + 1, by omega, by go_num, by rw [← Hsame.out (by rw [Hr.out]; simp)]; exact hN, hA, hP, hf⟩
                  case measure => simp [intOf]; omega
                | true =>
                  go_wp2
                  go_roundw
                  case rel =>
                    refine ⟨k + 1, by omega, by go_num, ?_, hA.fr ((Fr.refl (onG N) _).setCell _ _ (fun _ => rfl)) (fun q => by unfold onG at q; omega), hP.fr ((Fr.refl (onG N) _).setCell _ _ (fun _ => rfl)) (fun q => by unfold onG at q; omega), hf.setCell _ _ (fun q => by simp only at q; omega)⟩
                    rw [← Hset.out, Hr.out]
                    have e9 : (bk != (true && true)) = !bk := by cases bk <;> rfl
                    rw [e9]
                    exact hN.set k _
                  case measure => simp [intOf]; omega
            · obtain rfl : k = 32 := by omega
              rw [nx_end] at hN
              go_wp2_with (first
                | (refine wpList_load32 rfl _ rfl _ rfl _ hN (bitsM_len _) ?_)
                | (refine wpList_store32 rfl _ _ rfl _ rfl _ _ rfl hA (bitsM_len _) (bitsM_len _) ?_; intro w9 hA9 hf9 hs9))
              go_roundw
              case rel => exact ⟨n + 1, by omega, by go_num, by rw [Hstep.out]; exact hA9, hP.fr hf9 (fun q => by unfold onG at q; omega), hf.thenT hf9 (fun i hi q => by have := HG.out; unfold onG at q; omega)⟩
              case measure => simp [intOf]; omega
        · obtain rfl : n = 8 * l.length := by omega
          go_wp2_with (refine wpList_load32 rfl _ rfl _ rfl _ hA (bitsM_len _) ?_)
          generalize sN l (8 * l.length) = s at *
          have hs32 := s.isLt
          go_loop [11, 66] (fun x i => ∃ k : Nat, k ≤ 32 ∧ i = .int .i64 k ∧ x = .int .u32 ((s.toNat / 2 ^ (32 - k) : Nat) : Int)) (fun _ i => 32 - (intOf i).toNat)
          case atStart => exact ⟨0, by omega, rfl, by rw [Nat.div_eq_of_lt (by simpa using hs32)]; rfl⟩
          case round =>
            obtain ⟨k, hk, rfl, rfl⟩ := hrel
            by_cases hk32 : k < 32
            · have Hns := Hid.mk (num_step s k hk32)
              have hle : s.toNat / 2 ^ (31 - k) ≤ s.toNat := Nat.div_le_self _ _
              have hb2 : s.toNat / 2 ^ (32 - k) * 2 < 4294967296 := by
                have := Hns.out
                split at this <;> omega
              have hgb := bitsM_get s k hk32
              generalize hX : s.toNat / 2 ^ (32 - k) = X at *
              cases hbb : s.getMsbD k with
              | false =>
                rw [hbb] at hgb Hns
                have Hn2 := Hns
                clear hX hbb Hns
                go_wp2_with (refine wpList_index32 rfl _ _ rfl _ rfl (bitsM_len _) k rfl hk32 ?_; rw [hgb])
                go_round
                case rel => exact ⟨k + 1, by omega, by go_num, by have := Hn2.out; rw [show 32 - (k + 1) = 31 - k by omega, this]; simp⟩
                case measure => simp [intOf]; omega
              | true =>
                rw [hbb] at hgb Hns
                have Hn2 := Hns
                clear hX hbb Hns
                go_wp2_with (refine wpList_index32 rfl _ _ rfl _ rfl (bitsM_len _) k rfl hk32 ?_; rw [hgb])
                go_round
                case rel => exact ⟨k + 1, by omega, by go_num, by have := Hn2.out; rw [show 32 - (k + 1) = 31 - k by omega, this]; simp⟩
                case measure => simp [intOf]; omega
            · obtain rfl : k = 32 := by omega
              go_wp2
              go_ret
              refine ⟨?_, hf⟩
              rw [← Hall.out]; simp
end Go.Proofs.Ytdfffbbdeaefeaa
/- Contracts of the document's own Seal and Open; the walk of CrcOpens: it answers true for all bytes. -/
namespace Go.Proofs.Ytdfffbbdeaefeaa
open Go.RowKit Go.Proofs.U
set_option linter.unusedSimpArgs false
set_option linter.unusedVariables false

set_option maxHeartbeats 2000000 in
theorem rseal_any (v : Value) (l : List Int) (w : World) (h : SlI .u8 w v l) (hb : l.length ≤ 1000000000000) :
    Calls Try.prog 22 #[v] w fun e w' => ∃ v', e = .returned v' ∧ OwnI .u8 5 w' w.heap.size v' (sealI l) ∧ Fr noB w w' := by
  obtain ⟨a1, c1, rfl, hc1⟩ := h.opn
  have hcb := crcI_bd l
  obtain ⟨N, HN⟩ : ∃ N, Hid (crcI l = N) := ⟨_, rfl⟩
  rw [HN.out] at hcb
  go_enter Try.func22, Try.ntmps22
  go_wp2_with (first
    | (go_at_call 30; go_must (refine (rof_any _ _ _ h hb).mono ?_; rintro e w1 ⟨rfl, hf1⟩; rw [HN.out]; have s1 := h.fr0 hf1))
    | (at_builtin; first
      | (refine wpList_app rfl (.tmp 7) (.tmp 8) 53 rfl w1.heap.size 5 _ 1 1 Try.underlying53 info5 rfl (by decide) _ _ _ rfl (World.ownsRow_made _ #[] 0 (Nat.le_refl _) (Nat.zero_le _) rfl) _ _ _ rfl (s1.1.fr0 ((Fr.refl _ _).alloc _)) (U.ones _ _) ?hq1 ?hq2 ?hq3 ?_; rotate_left 3; intro v2 w2 hown2 hgr2; have hf2 := ((Fr.refl noB w1).alloc _).grown hgr2 (owns_new (World.ownsRow_made (e := 5) (size := 1) w1 #[] 0 (Nat.le_refl _) (Nat.zero_le _) rfl)); have ho2 : OwnI .u8 5 w2 w1.heap.size v2 l := OwnI.mk _ hown2 (by simp); obtain ⟨a2, c2, rfl⟩ := ho2.opn)
      | go_must (refine wpList_app rfl (.tmp 10) (.tmp 25) 53 rfl w1.heap.size 5 _ 1 1 Try.underlying53 info5 rfl (by decide) _ _ _ rfl (owns_alloc ho2 _) _ _ _ rfl (Sl_made _ _ _ 4 _ rfl (by simp)) ?h1 ?hr1 ?hr2 ?hr3 ?_; rotate_left 4; intro v4 w4 hown4 hgr4)))
  case h1 => simp [Value.oneCell']
  case hr1 => unfold maxLen; omega
  case hr2 => omega
  case hr3 => have := hf2.size; simp; omega
  case hq1 => unfold maxLen; omega
  case hq2 => omega
  case hq3 => simp
  go_ret
  exact ⟨_, rfl, (OwnI.mk _ hown4 (by simp [sealI, be4I, HN.out]) : OwnI .u8 5 w4 w1.heap.size v4 (sealI l)).rebase hf1.size, hf1.thenN ((hf2.alloc _).grown hgr4 (owns_new ho2))⟩

end Go.Proofs.Ytdfffbbdeaefeaa
/- The document's root as a page: Page; number. -/
namespace Go.Proofs.Ytdfffbbdeaefeaa
open Go.RowKit Go.Proofs.U
set_option linter.unusedSimpArgs false
set_option linter.unusedVariables false
theorem pair_info : (Try.prog.info? 41).map (fun i => (i.zero, i.size)) = some (some (.agg ([.int .u64 0, .int .u64 0] : List Value).toArray), 2) := by kernel_rfl
/-- The place in the stream of a byte of a page. -/
def kpos (i : Nat) : Nat := i / 32 * 24 + (i % 32 - 8)
theorem kpos_head {i : Nat} (h : i % 32 < 8) : kpos (i + 1) = kpos i := by unfold kpos; omega
theorem kpos_rest {i : Nat} (h : ¬ i % 32 < 8) : kpos (i + 1) = kpos i + 1 := by unfold kpos; omega
theorem kpos_lt {i : Nat} (h : i < 256) : kpos i ≤ 192 := by unfold kpos; omega
/-- The root's first k bytes, zeros behind them. -/
def rootN (g : Int) (c : List Int) (k : Nat) : List Int := (List.range 256).map fun i => if i < k then (rootP g c).getD i 0 else 0
theorem rootN_len (g : Int) (c : List Int) (k : Nat) : (rootN g c k).length = 256 := by unfold rootN; rw [List.length_map, List.length_range]
theorem rootN_get (g : Int) (c : List Int) (k i : Nat) (h : i < 256) : (rootN g c k).getD i 0 = if i < k then (rootP g c).getD i 0 else 0 := getD_map _ _ _ h
theorem rootN_zero (g : Int) (c : List Int) : rootN g c 0 = zeroP := by
  apply ext_getD
  · rw [rootN_len, zeroP_len]
  · intro i hi
    rw [rootN_len] at hi
    rw [rootN_get _ _ _ _ hi, if_neg (by omega)]
    unfold zeroP
    rw [List.getD, List.getElem?_replicate, if_pos hi]; rfl
theorem rootN_end (g : Int) (c : List Int) : rootN g c 256 = rootP g c := by
  apply ext_getD
  · rw [rootN_len, rootP_len]
  · intro i hi
    rw [rootN_len] at hi
    rw [rootN_get _ _ _ _ hi, if_pos hi]
theorem set_getD (l : List Int) (k : Nat) (y : Int) (i : Nat) (hk : k < l.length) : (l.set k y).getD i 0 = if i = k then y else l.getD i 0 := by
  simp only [List.getD]
  rw [List.getElem?_set]
  by_cases h : k = i
  · subst h; simp [hk]
  · rw [if_neg h, if_neg (fun e => h e.symm)]
theorem rootN_succ (g : Int) (c : List Int) (k : Nat) (hk : k < 256) (y : Int) (hy : (rootP g c).getD k 0 = y) : rootN g c (k + 1) = (rootN g c k).set k y := by
  apply ext_getD
  · rw [List.length_set, rootN_len, rootN_len]
  · intro i hi
    rw [rootN_len] at hi
    rw [set_getD _ _ _ _ (by rw [rootN_len]; exact hk), rootN_get _ _ _ _ hi, rootN_get _ _ _ _ hi]
    by_cases h : i = k
    · subst h; rw [if_pos (by omega), if_pos rfl, hy]
    · rw [if_neg h]
      by_cases h2 : i < k
      · rw [if_pos (by omega), if_pos h2]
      · rw [if_neg (by omega), if_neg h2]
theorem rootN_same (g : Int) (c : List Int) (k : Nat) (hk : k < 256) (hy : (rootP g c).getD k 0 = 0) : rootN g c (k + 1) = rootN g c k := by
  rw [rootN_succ g c k hk 0 hy]
  apply ext_getD
  · rw [List.length_set]
  · intro i hi
    rw [List.length_set, rootN_len] at hi
    rw [set_getD _ _ _ _ (by rw [rootN_len]; exact hk)]
    split
    · rename_i h; subst h; rw [rootN_get _ _ _ _ hi, if_neg (by omega)]
    · rfl
theorem rootP_head (g : Int) (c : List Int) {i : Nat} (hi : i < 256) (h : i % 32 < 8) : (rootP g c).getD i 0 = (leB 8 g).getD (i % 32) 0 := by rw [rootP_get _ _ _ hi, if_pos h]
theorem rootP_rest (g : Int) (c : List Int) {i : Nat} (hi : i < 256) (h : ¬ i % 32 < 8) : (rootP g c).getD i 0 = (strm c).getD (kpos i) 0 := by
  rw [rootP_get _ _ _ hi, if_neg h, st192, getD_map _ _ _ (by omega)]; rfl

theorem leNum_at (p : List Int) (a j : Nat) (h : a < p.length) : leNum ((p.drop a).take (j + 1)) = p.getD a 0 + 256 * leNum ((p.drop (a + 1)).take j) := by
  rw [List.drop_eq_getElem_cons h, List.take_succ_cons]
  simp [leNum, List.getD, h]
theorem leNum_bd8 {p : List Int} (hb : Byt p) (a j : Nat) (hj : j ≤ 7) : 0 ≤ leNum ((p.drop a).take j) ∧ leNum ((p.drop a).take j) < 72057594037927936 := by
  have h1 := leNum_bd ((p.drop a).take j) (fun x hx => u8_bd (((hb.drop _).take _) x hx))
  have h2 : ((p.drop a).take j).length ≤ 7 := by simp; omega
  refine ⟨h1.1, Int.lt_of_lt_of_le h1.2 ?_⟩
  generalize ((p.drop a).take j).length = n at h2
  clear h1
  have : n = 0 ∨ n = 1 ∨ n = 2 ∨ n = 3 ∨ n = 4 ∨ n = 5 ∨ n = 6 ∨ n = 7 := by omega
  rcases this with rfl | rfl | rfl | rfl | rfl | rfl | rfl | rfl <;> decide

end Go.Proofs.Ytdfffbbdeaefeaa
/- The document's counts as a page: Page. (Written by t7_gen.py.) -/
namespace Go.Proofs.Ytdfffbbdeaefeaa
open Go.RowKit Go.Proofs.U
set_option linter.unusedSimpArgs false
set_option linter.unusedVariables false
theorem pair_built8 (G : Int) : Try.prog.built 41 [(0, .int .u64 8), (1, .int .u64 G)] = some #[.int .u64 8, .int .u64 G] := by kernel_rfl
theorem SlR_new {α : Type} (w : World) (t : TypeId) (ec : α → List Value) (sz : Nat) (x : α) (hx : (ec x).length = sz) : SlR ec sz (w.alloc (.cells (ec x).toArray t)) (.slice (some ⟨w.heap.size, 0, none⟩) 1 1) [x] := by
  refine ⟨?_, ?_⟩
  · intro y hy; simp at hy; subst hy; exact hx
  · refine ⟨some ⟨w.heap.size, 0, none⟩, 1, rfl, Nat.le_refl _, by simp [hx], (fun h => by cases h), fun ad had j u hj => ?_⟩
    cases had
    have hj' : (ec x)[j]? = some u := by simpa using hj
    rw [Addr.plain, Nat.zero_add, World.cell?_alloc_new]
    simpa using hj'
/-- The first k of some bytes, noughts behind them. -/
def laid (n : Nat) (S : List Int) (k : Nat) : List Int := S.take k ++ zerB (n - k)
theorem laid_zero (n : Nat) (S : List Int) : laid n S 0 = zerB n := by simp [laid]
theorem laid_len (n : Nat) (S : List Int) (k : Nat) (h : k ≤ S.length) (hn : k ≤ n) : (laid n S k).length = n := by
  simp only [laid, List.length_append, List.length_take, zerB_len]; omega
theorem laid_set (n : Nat) (S : List Int) (k : Nat) (h : k < S.length) (hn : k < n) : (laid n S k).set k (S.getD k 0) = laid n S (k + 1) := by
  unfold laid
  have e : S.getD k 0 = S[k] := by simp [List.getD, h]
  have l1 : (S.take k).length = k := by rw [List.length_take]; omega
  rw [List.set_append_right _ _ (by omega), l1, Nat.sub_self, e, List.take_succ_eq_append_getElem h]
  unfold zerB
  rw [show n - k = (n - (k + 1)) + 1 by omega, List.replicate_succ, List.set_cons_zero, List.append_assoc]
  rfl
/-- While the document's page is sealed. -/
def JTD (w0 : World) (G : Int) (N8 L S : List Int) : List Value → World → Prop
  | [], W => W = w0
  | [v], W => SlR (pW 8) 2 W v [G] ∧ Fr noB w0 W
  | [_, v], W => OwnI .u8 5 W w0.heap.size v N8 ∧ Fr noB w0 W
  | [_, _, v], W => SlI .u8 W v L ∧ Fr noB w0 W
  | [_, _, _, v], W => OwnI .u8 5 W w0.heap.size v S ∧ Fr noB w0 W
  | [_, _, _, _, v], W => OwnI .u8 5 W w0.heap.size v S ∧ Fr noB w0 W
  | _, _ => False

set_option maxRecDepth 100000 in
set_option maxHeartbeats 2000000 in
theorem dpage_any (G : Int) (hG : G64 G) (c : List Int) (hc : c.length = 240) (hb : Byt c) (w : World) :
    Calls Try.prog 15 #[.int .u64 G, pgV c] w fun e w' => e = .returned (pgV (tlyP G c)) ∧ Fr noB w w' := by
  have Hc := show Hid _ from hc
  obtain ⟨Z, HZ⟩ : ∃ Z, Hid (zerB 256 = Z) := ⟨_, rfl⟩
  have hZl : Hid (Z.length = 256) := by show _ = _; rw [← HZ.out]; exact zerB_len 256
  obtain ⟨N8, HN8⟩ : ∃ N, Hid (leB 8 G = N) := ⟨_, rfl⟩
  have hN8l : Hid (N8.length = 8) := by show _ = _; rw [← HN8.out, leB_length]
  have hN8b : Byt N8 := by rw [← HN8.out]; exact byt_le 8 G
  obtain ⟨S, HS⟩ : ∃ S, Hid (sealI (N8 ++ c) = S) := ⟨_, rfl⟩
  have hSb : Byt S := by rw [← HS.out]; exact sealI_wf _ (hN8b.app hb)
  have hNc : Hid ((N8 ++ c).length = 248) := by show _ = _; rw [List.length_append, hN8l.out, hc]
  have hSl : Hid (S.length = 252) := by show _ = _; rw [← HS.out, sealI_length, hNc.out]
  obtain ⟨R, HR⟩ : ∃ R, Hid (tlyP G c = R) := ⟨_, rfl⟩
  have hRl : Hid (R.length = 256) := by show _ = _; rw [← HR.out, tlyP_len G hc]
  have hend : Hid (laid 256 S 252 = R) := by
    show _ = _
    unfold laid
    rw [List.take_of_length_le (by rw [hSl.out]; decide), ← HR.out, ← HS.out, ← HN8.out]; rfl
  have put8 : Hid (putB 8 [G] = N8) := by show _ = _; rw [← HN8.out]; simp [putB]
  rw [HR.out]
  clear hc
  go_enter Try.func15, Try.ntmps15
  go_wp2_with (first
    | (with_reducible refine at_wpP ?_; refine wpList_boxV rfl 22 _ rfl (pgv c) rfl ?_; intro g3 w1 hg3 b1 f1 s1)
    | (with_reducible refine at_wpP ?_; refine wpList_allocA arr_page rfl rfl ?_; rw [HZ.out]; intro g4 w2 hg4 b2 f2 s2))
  have z1 := f1.size
  have z2 := f2.size
  have l1 := b1.lt
  have l2 := b2.lt
  obtain ⟨w0, HW⟩ : ∃ w0, Hid (w2.drew = w0) := ⟨_, rfl⟩
  have f0 : Fr noB w2 w0 := by rw [← HW.out]; exact (Fr.refl _ _).drew
  have b0 := (b1.fr0 f2).fr0 f0
  have B4 := b2.fr0 f0
  have j0 : SlI .u8 w0 (.slice (some ⟨g3, 0, none⟩) 240 240) c := by
    have := BxV.slI b0 hb 0 240 240 (by rw [Hc.out]; decide) (by decide)
    rwa [List.drop_zero, List.take_of_length_le (by rw [Hc.out]; decide)] at this
  have j0 : SlI .u8 w0 (.slice (some ⟨g3, 0, none⟩) 240 240) c := j0
  have F0 : Fr noB w w0 := (f1.thenN f2).thenN f0
  have z0 := F0.size
  refine wp_region_chain_lay (by kernel_rfl) [2, 3, 5, 6, 7] [none, none, some 0, some 1, none, some 2, some 3, some 4]
    [fun v => v = .int .u64 G, fun v => v = .agg #[.int .u64 8, .int .u64 G], fun _ => True, fun _ => True, fun v => v = .slice (some ⟨g3, 0, none⟩) 240 240, fun _ => True, fun _ => True, fun _ => True]
    (JTD w0 G N8 (N8 ++ c) S) (HW.out) (by kernel_rfl) (by kernel_rfl) (by decide) ⟨?o0, ?o1, ?o2, ?o3, ?o4, ?o5, ?o6, ?o7, trivial⟩ ?oe
  case o0 =>
    intro A W hv hlen hJ hbase hdL hdH
    have e0 : A.eval (.tmp 0) = .int .u64 G := hbase 0 (by kernel_rfl)
    have f0 : A.tmps[0]?.getD undef = .int .u64 G := by simpa [Act.eval] using e0
    exact light_val rfl (v := .int .u64 G) (by simp [execOp, e0, f0]) hJ rfl
  case o1 =>
    intro A W hv hlen hJ hbase hdL hdH
    have e9 : A.eval (.tmp 9) = .int .u64 G := hdL 0 9 (by kernel_rfl) (by kernel_rfl) (by kernel_rfl)
    have f9 : A.tmps[9]?.getD undef = .int .u64 G := by simpa [Act.eval] using e9
    have ek : A.eval (.const (.int .u64 8)) = .int .u64 8 := rfl
    have hr := run_build (P := Try.prog) W 41 #[(0, .int .u64 8), (1, .int .u64 G)] _ (pair_built8 G)
    exact light_val rfl (v := .agg #[.int .u64 8, .int .u64 G]) (by simp [execOp, ek, e9, hr, Result.andThen]) hJ rfl
  case o2 =>
    intro A W hv hlen hJ hbase hdL hdH
    have e10 : A.eval (.tmp 10) = .agg #[.int .u64 8, .int .u64 G] := hdL 1 10 (by kernel_rfl) (by kernel_rfl) (by kernel_rfl)
    have f10 : A.tmps[10]?.getD undef = .agg #[.int .u64 8, .int .u64 G] := by simpa [Act.eval] using e10
    obtain rfl : hv = [] := List.eq_nil_of_length_eq_zero hlen
    cases hJ
    have hr := run_mk1 (P := Try.prog) (ec := pW 8) (sz := 2) 75 Try.underlying75 _ pair_info (by decide) (by decide) G (.agg #[.int .u64 8, .int .u64 G]) rfl rfl w0
    refine heavy_val rfl (v := .slice (some ⟨w0.heap.size, 0, none⟩) 1 1) (w' := w0.alloc (.cells (pW 8 G).toArray 41)) (by simp [execOp, e10, hr, Result.andThen]) ?_
    exact ⟨SlR_new w0 41 (pW 8) 2 G rfl, (Fr.refl _ _).alloc _⟩
  case o3 =>
    intro A W hv hlen hJ hbase hdL hdH
    match hv, hlen with
    | [t], _ =>
      obtain ⟨hB, hf⟩ := hJ
      have e11 : A.eval (.tmp 11) = t := by have := hdH 2 11 0 (by kernel_rfl) rfl (by kernel_rfl); simpa using this.symm
      have f11 : A.tmps[11]?.getD undef = t := by simpa [Act.eval] using e11
      refine heavy_call rfl (args := #[t]) (f := 23) (by simp [execOp, resolve, invoke, go_sem, e11, f11]) ?_
      refine (fieldsW_any 8 (by decide) _ [G] _ hB (by intro n hn; simp at hn; subst hn; exact hG) (by simp)).mono ?_
      rw [put8.out]
      rintro e w' ⟨v5, rfl, o5, f5⟩
      exact ⟨_, rfl, o5.rebase hf.size, hf.thenN f5⟩
  case o4 =>
    intro A W hv hlen hJ hbase hdL hdH
    have e3 : A.eval (.tmp 3) = .pointer (some ⟨g3, 0, none⟩) := hbase 3 (by kernel_rfl)
    have f3 : A.tmps[3]?.getD undef = .pointer (some ⟨g3, 0, none⟩) := by simpa [Act.eval] using e3
    have hr := run_allA arr_240 (by decide) W g3
    exact light_val rfl (v := .slice (some ⟨g3, 0, none⟩) 240 240) (by simp [execOp, e3, hr, Result.andThen]) hJ rfl
  case o5 =>
    intro A W hv hlen hJ hbase hdL hdH
    have e13 : A.eval (.tmp 13) = .slice (some ⟨g3, 0, none⟩) 240 240 := hdL 4 13 (by kernel_rfl) (by kernel_rfl) (by kernel_rfl)
    have f13 : A.tmps[13]?.getD undef = .slice (some ⟨g3, 0, none⟩) 240 240 := by simpa [Act.eval] using e13
    match hv, hlen with
    | [x0, t], _ =>
      obtain ⟨hO, hf⟩ := hJ
      have e12 : A.eval (.tmp 12) = t := by have := hdH 3 12 1 (by kernel_rfl) rfl (by kernel_rfl); simpa using this.symm
      refine heavy_wp rfl ?_
      refine wp_app (.tmp 12) (.tmp 13) 53 rfl w0.heap.size 5 _ 1 1 Try.underlying53 info5 rfl (by decide) _ _ _ e12 hO _ _ _ e13 (j0.fr0 hf).1 (Go.Proofs.U.ones _ _) (by rw [hN8l.out, Hc.out]; unfold maxLen; decide) (by rw [hN8l.out, Hc.out]; decide) hf.size ?_
      intro v' w' hown hgr
      have o4 : OwnI .u8 5 w' w0.heap.size v' (N8 ++ c) := OwnI.mk _ hown (by simp)
      exact ⟨v', rfl, o4.sl (hN8b.app hb), hf.grown hgr (owns_new hO)⟩
  case o6 =>
    intro A W hv hlen hJ hbase hdL hdH
    match hv, hlen with
    | [x0, x1, t], _ =>
      obtain ⟨hS, hf⟩ := hJ
      have e14 : A.eval (.tmp 14) = t := by have := hdH 5 14 2 (by kernel_rfl) rfl (by kernel_rfl); simpa using this.symm
      have f14 : A.tmps[14]?.getD undef = t := by simpa [Act.eval] using e14
      refine heavy_call rfl (args := #[t]) (f := 22) (by simp [execOp, resolve, invoke, go_sem, e14, f14]) ?_
      refine (rseal_any _ (N8 ++ c) _ hS (by rw [hNc.out]; decide)).mono ?_
      rw [HS.out]
      rintro e w' ⟨v5, rfl, o5, f5⟩
      exact ⟨_, rfl, o5.rebase hf.size, hf.thenN f5⟩
  case o7 =>
    intro A W hv hlen hJ hbase hdL hdH
    match hv, hlen with
    | [x0, x1, x2, t], _ =>
      have e15 : A.eval (.tmp 15) = t := by have := hdH 6 15 3 (by kernel_rfl) rfl (by kernel_rfl); simpa using this.symm
      exact heavy_val rfl (v := t) (w' := W) (by simp [execOp, e15]) hJ
  case oe =>
    intro vs W' hv hlen hJ hL hH
    match hv, hlen with
    | [x0, x1, x2, x3, x4], _ =>
      have hx := hH 4 7 rfl (by rfl)
      obtain ⟨hO, hf'⟩ := hJ
      simp only [List.getElem?_cons_succ, List.getElem?_cons_zero, Option.some.injEq] at hx
      simp only [layL, Nat.reduceAdd, Act.put, List.setIfInBounds_toArray, List.set_cons_zero, List.set_cons_succ]
      clear hL hH
      generalize vs 0 = y100 at *
      generalize vs 1 = y101 at *
      generalize vs 2 = y102 at *
      generalize vs 3 = y103 at *
      generalize vs 4 = y104 at *
      generalize vs 5 = y105 at *
      generalize vs 6 = y106 at *
      generalize vs 7 = y107 at *
      subst hx
      have zW := hf'.size
      have l4 := B4.lt
      have I := hO.sl hSb
      have nS : ∀ k, x4.ownBlock = some k → w0.heap.size ≤ k ∧ k < W'.heap.size := fun k hk => hO.newB k hk
      obtain ⟨aS, cS, rfl⟩ := hO.opn
      have B4' := B4.fr0 hf'
      have F1 := F0.thenN hf'
      go_wp2_with (first
        | (with_reducible refine at_wpP ?_; refine wpList_buildA arr_page rfl rfl ?_; rw [HZ.out])
        | (with_reducible refine at_wpP ?_; refine wpList_allocA arr_page rfl rfl ?_; rw [HZ.out]; intro g6 w6 hg6 b6 f6 s6; have l6 := b6.lt; have c4 := B4'.fr0 f6)
        | (with_reducible refine at_wpP ?_; refine at_st 33 _ _ rfl ?_; go_must (refine wpList_storeA arr_page rfl _ _ rfl g6 rfl Z rfl _ b6 hZl.out hZl.out ?_; intro w7 b7 f7; have c4' := c4.ne f7 (by omega))))
      have I7 : SlI .u8 w7 (.slice aS S.length cS) S := (I.fr0 f6).fr f7 (fun k hk q => by have := nS k hk; unfold onB1 at q; omega)
      have F7 : Fr noB w w7 := (F1.thenN f6).thenT f7 (fun i hi q => by unfold onB1 at q; omega)
      have n6 : ∀ k, (Value.slice aS S.length cS).ownBlock = some k → k ≠ g6 := fun k hk => by have := nS k hk; omega
      have g46 : g4 ≠ g6 := by omega
      have z7 := f7.size
      have z6 := f6.size
      clear hO I b6 c4 B4'
      go_loopw [19] (fun i wr => ∃ (k : Nat) (l : List Int), k ≤ 252 ∧ i = .int .i64 (k : Int) ∧ Hid (l = laid 256 S k) ∧ BxV wr g6 33 (pgv l) ∧ BxV wr g4 33 (pgv Z) ∧ SlI .u8 wr (.slice aS S.length cS) S ∧ Fr noB w wr) (fun i _ => 252 - (intOf i).toNat)
      case atStart => exact ⟨0, Z, by omega, rfl, show _ = _ by rw [← HZ.out, laid_zero], b7, c4', I7, F7⟩
      case round =>
        obtain ⟨k, l, hk, rfl, hl, hB, hC, hI, hf⟩ := hrel
        have hll : Hid (l.length = 256) := by show _ = _; rw [hl.out, laid_len _ _ _ (by rw [hSl.out]; exact hk) (by omega)]
        by_cases hlt : k < S.length
        · have hlt' : (k : Int) < (S.length : Int) := by omega
          have hk2 : k < 252 := by rw [hSl.out] at hlt; exact hlt
          obtain ⟨y, Hy⟩ : ∃ y, Hid (S.getD k 0 = y) := ⟨_, rfl⟩
          have hs := show Hid _ from laid_set 256 S k hlt (by omega)
          rw [← hl.out, Hy.out] at hs
          have d1 : (0 : Int) ≤ (k : Int) := by omega
          have d2 : (k : Int) < 256 := by omega
          go_wp2_with (first
            | (refine at_idx 53 _ _ rfl ?_; go_must (refine wpList_idx1 rfl 53 _ _ rfl 5 Try.underlying53 size5 _ _ _ rfl hI.1 _ _ k rfl rfl hlt ?_; intro pa u hu hcell; obtain rfl := getu _ _ _ _ hu; rw [Hy.out] at hcell))
            | (with_reducible refine at_wpP ?_; refine at_st 5 _ _ rfl ?_; go_must (refine wpList_store1 rfl 5 _ _ rfl g6 k (by simp [Act.eval]) (.int .u8 y) rfl rfl _ _ hB size_u8 (by rw [pgv_len, hll.out]; omega) ?_; intro w8 b8 f8; rw [pgv_set] at b8; have c8 := hC.ne f8 g46)))
          go_roundw
          case rel => exact ⟨k + 1, _, by omega, by go_num, show _ = _ from hs.out, b8, c8, hI.fr f8 (fun q hq e => n6 q hq e), hf.thenT f8 (fun i hi q => by unfold onB1 at q; omega)⟩
          case measure => simp [intOf]; omega
        · have hk2 : k = 252 := by rw [hSl.out] at hlt; omega
          have hlt' : ¬ (k : Int) < (S.length : Int) := by omega
          have hlR : l = R := by rw [hl.out, hk2, hend.out]
          subst hlR
          go_wp2_with (first
            | (with_reducible refine at_wpP ?_; refine at_ld 33 _ rfl ?_; go_must (refine wpList_loadA arr_page rfl _ rfl g6 rfl l hB hRl.out ?_))
            | (with_reducible refine at_wpP ?_; refine at_st 33 _ _ rfl ?_; go_must (refine wpList_storeA arr_page rfl _ _ rfl g4 rfl l rfl _ hC hRl.out hZl.out ?_; intro w9 b9 f9)))
          refine bodyPost_ret (v := pgV l) (results_arr arr_page Try.results15 _ w9 g4 l rfl b9 hRl.out) rfl ⟨rfl, ?_⟩
          exact hf.thenT f9 (fun i hi q => by unfold onB1 at q; omega)
end Go.Proofs.Ytdfffbbdeaefeaa
