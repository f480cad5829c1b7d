/- Texts T2, T3, T4, R0, W1, E0, E1, CM3, E2, E3, E4, W2, T7, X12, X13, X8, X9, OpenC, OpenT, OpenN, OpenM, X14 of the proof of NodesExact, one behind the other. -/
import Derived.Deep.MidRow
import Derived.Deep.RegionHeld3
import Derived.Deep.Matrix
import Derived.Deep.Strs
import Derived.Test.YtamfnjliikiifaaBundleNodesExact1
import Derived.Test.YtamfnjliikiifaaBundleNodesExact2
import Derived.Test.YtamfnjliikiifaaBundleNodesExact3
import Derived.Test.YtamfnjliikiifaaBundleNodesExact4
import Derived.Test.YtamfnjliikiifaaBundleNodesExact5
import Derived.Test.YtamfnjliikiifaaBundleNodesExact6
import Derived.Test.YtamfnjliikiifaaBundleNodesExact7
import Derived.Test.YtamfnjliikiifaaBundleNodesExact8
import Derived.Test.YtamfnjliikiifaaBundleNodesExact9
import Derived.Test.YtamfnjliikiifaaBundleNodesExact10
import Derived.Test.YtamfnjliikiifaaBundleNodesExact11
import Derived.Test.YtamfnjliikiifaaBundleNodesExact12
import Derived.Test.YtamfnjliikiifaaBundleNodesExact13
import Derived.Test.YtamfnjliikiifaaBundleNodesExact14
import Derived.Test.YtamfnjliikiifaaBundleNodesExact15
import Derived.Test.YtamfnjliikiifaaBundleNodesExact16
import Derived.Test.YtamfnjliikiifaaBundleNodesExact17
/- Counts as pages, plain: what a page of a generation and counts is, and what a page tells; one byte turned; how many counts aren't nought. -/
namespace Go.Proofs.Ytamfnjliikiifaa
open Go.RowKit Go.Proofs.U
set_option linter.unusedSimpArgs false
set_option linter.unusedVariables false
/-- The page of a generation and counts. -/
def tlyP (g : Int) (c : List Int) : List Int := sealI (leB 8 g ++ c) ++ zerB 4
theorem tlyP_len (g : Int) {c : List Int} (h : c.length = 240) : (tlyP g c).length = 256 := by
  simp only [tlyP, List.length_append, sealI_length, leB_length, zerB_len, h]
theorem tlyP_byt (g : Int) {c : List Int} (h : Byt c) : Byt (tlyP g c) := (show Byt (sealI _) from sealI_wf _ ((byt_le 8 g).app h)).app (zerB_byt 4)
/-- What the program lays into a page of noughts. -/
theorem tlyP_put (g : Int) {c : List Int} (h : c.length = 240) : putI (zerB 256) 0 ((sealI (leB 8 g ++ c)).take 256) = tlyP g c := by
  have hl : (sealI (leB 8 g ++ c)).length = 252 := by simp only [sealI_length, List.length_append, leB_length, h]
  rw [List.take_of_length_le (by omega)]
  unfold putI tlyP
  rw [List.take_zero, List.nil_append, Nat.zero_add, hl]
  congr 1
/-- The counts that a page seems to have. -/
def cntOf (p : List Int) : List Int := (p.drop 8).take 240
theorem cntOf_len {p : List Int} (h : p.length = 256) : (cntOf p).length = 240 := by simp [cntOf, h]
theorem cntOf_byt {p : List Int} (h : Byt p) : Byt (cntOf p) := (h.drop 8).take 240
theorem tlyP_split (g : Int) (c : List Int) : tlyP g c = leB 8 g ++ (c ++ (be4I (crcI (leB 8 g ++ c)) ++ zerB 4)) := by
  simp only [tlyP, sealI, List.append_assoc]
theorem cntOf_tly (g : Int) {c : List Int} (h : c.length = 240) : cntOf (tlyP g c) = c := by
  unfold cntOf
  rw [tlyP_split, List.drop_left' (leB_length 8 g), List.take_left' h]
theorem gen_tly (g : Int) (hg : 0 ≤ g ∧ g < 18446744073709551616) (c : List Int) : leNum ((tlyP g c).take 8) = g := by
  rw [tlyP_split, List.take_left' (leB_length 8 g)]
  exact leNum_leB 8 g hg.1 hg.2
theorem tly_inj {g g' : Int} (hg : 0 ≤ g ∧ g < 18446744073709551616) (hg' : 0 ≤ g' ∧ g' < 18446744073709551616) {c c' : List Int} (hc : c.length = 240) (hc' : c'.length = 240) (h : tlyP g c = tlyP g' c') : g = g' ∧ c = c' := by
  constructor
  · rw [← gen_tly g hg c, h, gen_tly g' hg' c']
  · rw [← cntOf_tly g hc, h, cntOf_tly g' hc']
/-- What a page tells of a generation. -/
def opT (p : List Int) (g : Int) : List Int × Int := if p == tlyP g (cntOf p) then (cntOf p, 0) else (zerB 240, 61)
theorem opT_own (g : Int) {c : List Int} (h : c.length = 240) : opT (tlyP g c) g = (c, 0) := by
  unfold opT
  rw [cntOf_tly g h, beq_self_eq_true]; rfl
theorem opT_other {g g' : Int} (hg : 0 ≤ g ∧ g < 18446744073709551616) (hg' : 0 ≤ g' ∧ g' < 18446744073709551616) (hne : g ≠ g') {c : List Int} (h : c.length = 240) : opT (tlyP g c) g' = (zerB 240, 61) := by
  unfold opT
  rw [cntOf_tly g h]
  have : (tlyP g c == tlyP g' c) = false := by
    rw [beq_eq_false_iff_ne]
    intro e
    exact hne (tly_inj hg hg' h h e).1
  rw [this]; rfl
theorem opT_len {p : List Int} (h : p.length = 256) (g : Int) : (opT p g).1.length = 240 := by
  unfold opT
  split
  · exact cntOf_len h
  · exact zerB_len 240
theorem opT_byt {p : List Int} (h : Byt p) (g : Int) : Byt (opT p g).1 := by
  unfold opT
  split
  · exact cntOf_byt h
  · exact zerB_byt 240
theorem crc_tly (g : Int) {c : List Int} (hb : Byt c) : crcF ones32 (BL (tlyP g c)) = 0#32 := by
  unfold tlyP
  rw [BL_append, crcF_append, zerB, BL_zeros]
  have h1 : crcF ones32 (BL (sealI (leB 8 g ++ c))) = 0#32 := by
    have h2 := ok_iff (sealI (leB 8 g ++ c)) (sealI_wf _ ((byt_le 8 g).app hb)) (by rw [sealI_length]; omega)
    rw [ok_seal] at h2
    simpa using h2.symm
  rw [h1, crcF_zeros, stpN_zero]
theorem opT_turn (g : Int) {c : List Int} (hc : c.length = 240) (hb : Byt c) (i : Nat) (hi : i < 256) {m : Int} (hm : 0 < m ∧ m < 256) : opT (turn1 (tlyP g c) i m) g = (zerB 240, 61) := by
  have bR := tlyP_byt g hb
  have bT := turn1_byt bR i (m := m) (by omega)
  unfold opT
  have : (turn1 (tlyP g c) i m == tlyP g (cntOf (turn1 (tlyP g c) i m))) = false := by
    rw [beq_eq_false_iff_ne]
    intro e
    have z1 := crc_tly g hb
    have z2 := crc_tly g (cntOf_byt bT)
    rw [← e] at z2
    exact xI_ne (bR.at i) hm (crc_one (tlyP g c) i (by rw [tlyP_len g hc]; exact hi) _ bR (xI_bd (bR.at i) (by omega)) z1 z2).symm
  rw [this]; rfl
theorem xI_zero {x : Int} (h : 0 ≤ x) : xI x 0 = x := by unfold xI; simp; omega
theorem turn1_none {p : List Int} (hp : Byt p) (i : Nat) (hi : i < p.length) : turn1 p i 0 = p := by
  unfold turn1
  rw [xI_zero (hp.at i).1]
  apply List.ext_getElem
  · simp
  · intro j h1 h2
    rw [List.getElem_set]
    split
    · rename_i h; subst h; simp [List.getD, hi]
    · rfl

/-- How many of some numbers aren't nought. -/
def usedN (c : List Int) : Nat := (c.filter fun x => !(x == 0)).length
theorem usedN_le (c : List Int) : usedN c ≤ c.length := List.length_filter_le _ _
theorem usedN_succ (c : List Int) (k : Nat) (h : k < c.length) : usedN (c.take (k + 1)) = usedN (c.take k) + if c.getD k 0 = 0 then 0 else 1 := by
  have e : c.getD k 0 = c[k] := by simp [List.getD, h]
  rw [e, List.take_succ_eq_append_getElem h]
  unfold usedN
  rw [List.filter_append, List.length_append]
  congr 1
  by_cases h0 : c[k] = 0
  · simp [h0]
  · simp [h0]
theorem usedN_none (c : List Int) : (usedN c = 0) ↔ c = zerB c.length := by
  unfold usedN zerB
  rw [List.length_eq_zero_iff, List.filter_eq_nil_iff, List.eq_replicate_iff]
  simp
theorem mod2 (g : Int) (h : 0 ≤ g) : g.tmod 2 = g % 2 := Int.tmod_eq_emod_of_nonneg h
end Go.Proofs.Ytamfnjliikiifaa
/- Area and Used of package tally; the document's Area. -/
namespace Go.Proofs.Ytamfnjliikiifaa
open Go.RowKit Go.Proofs.U
set_option linter.unusedSimpArgs false
set_option linter.unusedVariables false
def G64 (g : Int) : Prop := 0 ≤ g ∧ g < 18446744073709551616
end Go.Proofs.Ytamfnjliikiifaa
/- Page of package tally. (Written by t4_gen.py.) -/
namespace Go.Proofs.Ytamfnjliikiifaa
open Go.RowKit Go.Proofs.U
set_option linter.unusedSimpArgs false
set_option linter.unusedVariables false
/-- While the page is laid: both rows, the seal, the copy. -/
def JTP (w0 : World) (g : Nat) (ls : List (List Int)) (S R : List Int) : List Value → World → Prop
  | [], W => W = w0
  | [v], W => SlB W v ls ∧ Fr noB w0 W
  | [_, u], W => SlI .u8 W u S ∧ Fr noB w0 W
  | [_, _, _], W => ∃ W1, Fr noB w0 W1 ∧ BxV W g 66 (pgv R) ∧ Fr (onB1 g) W1 W
  | _, _ => False

end Go.Proofs.Ytamfnjliikiifaa
/- Contract of the document's Bytes. -/
namespace Go.Proofs.Ytamfnjliikiifaa
open Go.RowKit Go.Proofs.U
end Go.Proofs.Ytamfnjliikiifaa
/- Contract of the document's Fields at pairs of one width. -/
namespace Go.Proofs.Ytamfnjliikiifaa
open Go.RowKit Go.Proofs.U
set_option linter.unusedSimpArgs false
set_option linter.unusedVariables false
/-- A number, and ahead of it its width. -/
abbrev pW (W : Nat) (x : Int) : List Value := [.int .u64 (W : Int), .int .u64 x]
theorem pW_one (W : Nat) (x : Int) : ∀ u ∈ pW W x, u.oneCell' = true := by intro u hu; simp at hu; rcases hu with rfl | rfl <;> rfl
theorem pW_le (W : Nat) (x : Int) : 0 + (pW W x).length ≤ ([.int .u64 0, .int .u64 0] : List Value).length := by simp
theorem pW_eq (W : Nat) (x : Int) : (pW W x).length = ([.int .u64 0, .int .u64 0] : List Value).length := rfl
end Go.Proofs.Ytamfnjliikiifaa
/- Arrays of 32 bools in memory: laws of the walk; no condition. -/
namespace Go.Proofs.Ytamfnjliikiifaa
open Go.RowKit Go.Proofs.U
set_option linter.unusedSimpArgs false
set_option linter.unusedVariables false

def bv (bs : List Bool) : Array Value := (bs.map Value.bool).toArray
/-- block g holds the bools bs. -/
def Arr (w : World) (g : Nat) (bs : List Bool) : Prop := ∃ t, w.heap[g]? = some (.cells (bv bs) t (0, 0))
def onG (g : Nat) : Nat → Prop := fun k => k = g

theorem bv_size (bs : List Bool) : (bv bs).size = bs.length := by simp [bv]
theorem Arr.fr {S : Nat → Prop} {w w' : World} {g : Nat} {bs : List Bool} (h : Arr w g bs) (hf : Fr S w w') (hs : ¬ S g) : Arr w' g bs := by
  obtain ⟨t, ht⟩ := h
  exact ⟨t, (hf.block g (Array.getElem?_eq_some_iff.1 ht).1 hs).trans ht⟩
theorem Arr.lt {w : World} {g : Nat} {bs : List Bool} (h : Arr w g bs) : g < w.heap.size := by obtain ⟨t, ht⟩ := h; exact (Array.getElem?_eq_some_iff.1 ht).1
theorem Arr.cell {w : World} {g : Nat} {bs : List Bool} (h : Arr w g bs) (i : Nat) (hi : i < bs.length) : w.cell? ⟨g, i, none⟩ = some (.bool (bs.getD i false)) ∧ w.frozen? ⟨g, i, none⟩ = false := by
  obtain ⟨t, ht⟩ := h
  have hc : (bv bs)[i]? = some (.bool (bs.getD i false)) := by simp [bv, List.getD, hi]
  constructor
  · unfold World.cell?; rw [ht]; exact hc
  · simp [World.frozen?, ht]
theorem Arr.set {w : World} {g : Nat} {bs : List Bool} (h : Arr w g bs) (i : Nat) (b : Bool) : Arr (w.setCell ⟨g, i, none⟩ (.bool b)) g (bs.set i b) := by
  obtain ⟨t, ht⟩ := h
  refine ⟨t, ?_⟩
  rw [heap_setCell_same w g i (bv bs) t (.bool b) ht]
  congr 2
  apply Array.ext'
  simp [bv, List.map_set]
theorem Fr.setG {S : Nat → Prop} {a w : World} (h : Fr S a w) (g i : Nat) (v : Value) (hg : g < a.heap.size → S g) : Fr S a (w.setCell ⟨g, i, none⟩ v) := h.setCell _ _ hg
theorem setCells_fr (w : World) (g : Nat) (vs : List Value) : ∀ o, Fr (onG g) w (w.setCells g o vs) := by
  induction vs generalizing w with
  | nil => intro o; exact Fr.refl _ _
  | cons v vs ih =>
    intro o
    exact ((Fr.refl (onG g) w).setCell ⟨g, o, none⟩ v (fun _ => rfl)).trans (ih (w.setCell ⟨g, o, none⟩ v) (o + 1))
theorem setCells_heap (g : Nat) (t : TypeId) (vs : List Value) : ∀ (o : Nat) (w : World) (C : Array Value), w.heap[g]? = some (.cells C t (0, 0)) → o + vs.length = C.size →
    (w.setCells g o vs).heap[g]? = some (.cells ((C.toList.take o) ++ vs).toArray t (0, 0)) := by
  induction vs with
  | nil => intro o w C h hs; rw [World.setCells, h]; simp at hs; rw [List.append_nil, List.take_of_length_le (by simp; omega)]
  | cons v vs ih =>
    intro o w C h hs
    simp at hs
    rw [World.setCells, ih (o + 1) _ (C.setIfInBounds o v) (heap_setCell_same w g o C t v h) (by simp; omega)]
    congr 3
    rw [Array.toList_setIfInBounds, List.take_succ_eq_append_getElem (by simp; omega)]
    simp
    rw [List.take_set_of_le (by omega)]

section
variable {w : World} {ops : Array Oper} {rest : List Oper} {o : Oper} {a : Act} {Q : Exit → Act → World → Prop}

end
end Go.Proofs.Ytamfnjliikiifaa
/- Contract of the document's own polynomial. -/
namespace Go.Proofs.Ytamfnjliikiifaa
open Go.RowKit Go.Proofs.U
set_option linter.unusedSimpArgs false
set_option linter.unusedVariables false

def pbits : List Bool := (List.range 32).map (fun i => polyB.getMsbD i)
theorem pbits_at : ∀ k : Fin 32, ((79764919 : Int) / 2 ^ k.val % 2 == 1) = pbits.getD (31 - k.val) false := by decide
def pdone (k : Nat) : List Bool := List.replicate (32 - k) false ++ pbits.drop (32 - k)
theorem pdone_set : ∀ k : Fin 32, (pdone k.val).set (31 - k.val) (pbits.getD (31 - k.val) false) = pdone (k.val + 1) := by decide
theorem pdone_len : ∀ k : Fin 33, (pdone k.val).length = 32 := by decide
theorem pdone_end : pdone 32 = pbits := by decide
theorem pdone_0 : pdone 0 = List.replicate 32 false := by decide
theorem pbits_len : pbits.length = 32 := by decide

end Go.Proofs.Ytamfnjliikiifaa
/- A sum bit by bit, as the document has it; no condition but what each states. -/
namespace Go.Proofs.U
set_option linter.unusedSimpArgs false
set_option linter.unusedVariables false

def bitsM (s : BitVec 32) : List Bool := (List.range 32).map (fun i => s.getMsbD i)
def topB (b : Bool) : BitVec 32 := if b then 0x80000000#32 else 0#32
def rstep (s : BitVec 32) (b : Bool) : BitVec 32 := stp (s ^^^ topB b)
theorem bitsM_len (s : BitVec 32) : (bitsM s).length = 32 := by simp [bitsM]
theorem bitsM_get (s : BitVec 32) (i : Nat) (h : i < 32) : (bitsM s).getD i false = s.getMsbD i := by simp [bitsM, List.getD, h]
theorem bitsM_ones : bitsM ones32 = List.replicate 32 true := by decide
theorem bitsM_shift (s : BitVec 32) : (bitsM s).drop 1 ++ [false] = bitsM (s <<< 1) := by
  apply List.ext_getElem
  · simp [bitsM]
  · intro i h1 h2
    have hi : i < 32 := by simpa [bitsM] using h2
    simp only [bitsM, List.getElem_append, List.getElem_drop, List.getElem_map, List.getElem_range, List.length_drop, List.length_map, List.length_range]
    by_cases h31 : i < 32 - 1
    · rw [dif_pos h31]
      simp only [BitVec.getMsbD_shiftLeft]
      rw [Nat.add_comm]
    · rw [dif_neg h31]
      obtain rfl : i = 31 := by omega
      simp
theorem top_shift (b : Bool) : topB b <<< 1 = 0#32 := by cases b <;> decide
theorem rstep_bit (s : BitVec 32) (b : Bool) (i : Nat) (h : i < 32) : (rstep s b).getMsbD i = ((s <<< 1).getMsbD i != ((s.getMsbD 0 != b) && polyB.getMsbD i)) := by
  unfold rstep stp
  rw [BitVec.shiftLeft_xor_distrib, top_shift, BitVec.xor_zero, BitVec.getMsbD_xor, BitVec.msb_xor]
  have e1 : s.msb = s.getMsbD 0 := rfl
  have e2 : (topB b).msb = b := by cases b <;> decide
  rw [e1, e2]
  have e3 : (s.getMsbD 0 ^^ b) = (s.getMsbD 0 != b) := rfl
  rw [e3]
  cases (s.getMsbD 0 != b) <;> simp
/-- so far the new bits, behind them the old ones moved on. -/
def nx (s : BitVec 32) (b : Bool) (i : Nat) : List Bool := (bitsM (rstep s b)).take i ++ (bitsM (s <<< 1)).drop i
theorem nx_len (s : BitVec 32) (b : Bool) (i : Nat) (h : i ≤ 32) : (nx s b i).length = 32 := by simp [nx, bitsM_len]; omega
theorem nx_zero (s : BitVec 32) (b : Bool) : nx s b 0 = bitsM (s <<< 1) := by simp [nx]
theorem nx_end (s : BitVec 32) (b : Bool) : nx s b 32 = bitsM (rstep s b) := by
  simp [nx, List.take_of_length_le, List.drop_of_length_le, bitsM_len]
theorem nx_get (s : BitVec 32) (b : Bool) (i : Nat) (h : i < 32) : (nx s b i).getD i false = (s <<< 1).getMsbD i := by
  have hl : ((bitsM (rstep s b)).take i).length = i := by simp [bitsM_len]; omega
  unfold nx
  rw [List.getD, List.getElem?_append_right (by omega), hl, Nat.sub_self, List.getElem?_drop, Nat.add_zero]
  exact bitsM_get _ i h
theorem nx_set (s : BitVec 32) (b : Bool) (i : Nat) (h : i < 32) : (nx s b i).set i ((rstep s b).getMsbD i) = nx s b (i + 1) := by
  have hl : ((bitsM (rstep s b)).take i).length = i := by simp [bitsM_len]; omega
  have hr : i < (bitsM (rstep s b)).length := by rw [bitsM_len]; exact h
  have hq : i < (bitsM (s <<< 1)).length := by rw [bitsM_len]; exact h
  unfold nx
  rw [List.set_append_right _ _ (by omega), hl, Nat.sub_self, List.drop_eq_getElem_cons hq, List.set_cons_zero, List.take_succ_eq_append_getElem hr, List.append_assoc]
  congr 2
  simp [bitsM]
theorem nx_same (s : BitVec 32) (b : Bool) (i : Nat) (h : i < 32) (hq : (rstep s b).getMsbD i = (s <<< 1).getMsbD i) : nx s b i = nx s b (i + 1) := by
  rw [← nx_set s b i h, hq, ← nx_get s b i h]
  have hl : i < (nx s b i).length := by rw [nx_len s b i (by omega)]; exact h
  have : (nx s b i).getD i false = (nx s b i)[i] := by simp [List.getD, hl]
  rw [this, List.set_getElem_self]

/-- a byte bit by bit. -/
theorem stp_byte : ∀ c : BitVec 8, stp (byt c) = stp (topB c.msb) ^^^ byt (c <<< 1) := by decide +kernel
theorem stpN_byte (n : Nat) (s : BitVec 32) (c : BitVec 8) : stpN (n + 1) (s ^^^ byt c) = stpN n (rstep s c.msb ^^^ byt (c <<< 1)) := by
  rw [stpN]; congr 1
  rw [stp_xor, stp_byte, rstep, stp_xor, BitVec.xor_assoc]
theorem byt0 : byt 0#8 = 0#32 := by decide
theorem wb_bits (s : BitVec 32) (c : BitVec 8) : wb s c = (List.range 8).foldl (fun t r => rstep t (c.getLsbD (7 - r))) s := by
  have key : ∀ r, r ≤ 8 → stpN 8 (s ^^^ byt c) = stpN (8 - r) ((List.range r).foldl (fun t r => rstep t (c.getLsbD (7 - r))) s ^^^ byt (c <<< r)) := by
    intro r
    induction r with
    | zero => intro _; simp
    | succ r ih =>
      intro h
      rw [ih (by omega), show 8 - r = (8 - (r + 1)) + 1 by omega, stpN_byte, List.range_succ, List.foldl_append]
      simp only [List.foldl_cons, List.foldl_nil]
      have e1 : (c <<< r).msb = c.getLsbD (7 - r) := by
        rw [BitVec.msb_eq_getLsbD_last, BitVec.getLsbD_shiftLeft]
        have : r < 8 := by omega
        simp; omega
      rw [e1, ← BitVec.shiftLeft_add]
  unfold wb
  rw [key 8 (by omega)]
  have e8 : c <<< 8 = 0#8 := by simp
  rw [e8, byt0, BitVec.xor_zero]; rfl
/-- number of the bits so far. -/
theorem num_step (s : BitVec 32) (i : Nat) (h : i < 32) : s.toNat / 2 ^ (31 - i) = s.toNat / 2 ^ (32 - i) * 2 + (if s.getMsbD i then 1 else 0) := by
  have e : 32 - i = (31 - i) + 1 := by omega
  rw [e, Nat.pow_succ, ← Nat.div_div_eq_div_mul]
  have hb : s.getMsbD i = decide (s.toNat / 2 ^ (31 - i) % 2 = 1) := by
    have : s.getMsbD i = s.getLsbD (31 - i) := by
      rw [BitVec.getMsbD_eq_getLsbD]; simp [h]
    rw [this, BitVec.getLsbD, Nat.testBit_eq_decide_div_mod_eq]
  rw [hb]
  by_cases hc : s.toNat / 2 ^ (31 - i) % 2 = 1
  · simp [hc]; omega
  · simp [hc]; omega
end Go.Proofs.U
/- Contract of the document's own sum. -/
namespace Go.Proofs.Ytamfnjliikiifaa
open Go.RowKit Go.Proofs.U
set_option linter.unusedSimpArgs false
set_option linter.unusedVariables false

def crcBit (l : List Int) (n : Nat) : Bool := l.getD (n / 8) 0 / 2 ^ (7 - n % 8) % 2 == 1
def sN (l : List Int) : Nat → BitVec 32
  | 0 => ones32
  | n + 1 => rstep (sN l n) (crcBit l n)
theorem bit_of (c : Int) (h : 0 ≤ c ∧ c < 256) (r : Nat) : (c / 2 ^ r % 2 == 1) = (BitVec.ofInt 8 c).getLsbD r := by
  obtain ⟨C, rfl⟩ := Int.eq_ofNat_of_zero_le h.1
  rw [BitVec.ofInt_natCast, BitVec.getLsbD, BitVec.toNat_ofNat, Nat.mod_eq_of_lt (by omega), Nat.testBit_eq_decide_div_mod_eq]
  have e : (C : Int) / 2 ^ r % 2 = ((C / 2 ^ r % 2 : Nat) : Int) := by simp
  rw [e]
  by_cases hc : C / 2 ^ r % 2 = 1
  · rw [hc]; rfl
  · have : C / 2 ^ r % 2 = 0 := by omega
    rw [this]; rfl
theorem sN_bytes (l : List Int) (hw : ∀ n ∈ l, (Lit.int .u8 n).wf = true) (q : Nat) (hq : q ≤ l.length) : sN l (8 * q) = crcF ones32 ((l.take q).map (BitVec.ofInt 8)) := by
  induction q with
  | zero => rfl
  | succ q ih =>
    have hlt : q < l.length := by omega
    have hc := u8_bd (hw l[q] (by simp))
    have hd : l.getD q 0 = l[q] := by simp [List.getD, hlt]
    rw [List.take_succ_eq_append_getElem hlt, List.map_append, crcF_append, ← ih (by omega)]
    show sN l (8 * q + 8) = wb (sN l (8 * q)) (BitVec.ofInt 8 l[q])
    rw [wb_bits]
    have key : ∀ r, r ≤ 8 → sN l (8 * q + r) = (List.range r).foldl (fun t r => rstep t ((BitVec.ofInt 8 l[q]).getLsbD (7 - r))) (sN l (8 * q)) := by
      intro r
      induction r with
      | zero => intro _; rfl
      | succ r ihr =>
        intro h
        rw [List.range_succ, List.foldl_append, ← ihr (by omega)]
        show rstep (sN l (8 * q + r)) (crcBit l (8 * q + r)) = rstep _ _
        congr 1
        unfold crcBit
        rw [show (8 * q + r) / 8 = q by omega, show (8 * q + r) % 8 = r by omega, hd]
        exact bit_of _ hc _
    exact key 8 (by omega)
theorem sN_all (l : List Int) (hw : ∀ n ∈ l, (Lit.int .u8 n).wf = true) : ((sN l (8 * l.length)).toNat : Int) = crcI l := by
  rw [sN_bytes l hw l.length (Nat.le_refl _), List.take_length]; rfl

theorem size4 : (Try.prog.info? 4).map (·.size) = some 1 := by kernel_rfl
section
variable {w : World} {ops : Array Oper} {o : Oper} {a : Act} {K : Act → World → Prop} {Q : Exit → Act → World → Prop} {E : Prop}
end
end Go.Proofs.Ytamfnjliikiifaa
/- Contract of the document's own sum. -/
namespace Go.Proofs.Ytamfnjliikiifaa
open Go.RowKit Go.Proofs.U
set_option linter.unusedSimpArgs false
set_option linter.unusedVariables false

def ones (k : Nat) : List Bool := List.replicate k true ++ List.replicate (32 - k) false
theorem ones_set : ∀ k : Fin 32, (ones k.val).set k.val true = ones (k.val + 1) := by decide
theorem ones_len : ∀ k : Fin 33, (ones k.val).length = 32 := by decide
theorem ones_0 : ones 0 = List.replicate 32 false := by decide
theorem ones_end : ones 32 = bitsM ones32 := by decide

end Go.Proofs.Ytamfnjliikiifaa
/- Contracts of the document's own Seal and Open; the walk of CrcOpens: it answers true for all bytes. -/
namespace Go.Proofs.Ytamfnjliikiifaa
open Go.RowKit Go.Proofs.U
set_option linter.unusedSimpArgs false
set_option linter.unusedVariables false

end Go.Proofs.Ytamfnjliikiifaa
/- The document's root as a page: Page; number. -/
namespace Go.Proofs.Ytamfnjliikiifaa
open Go.RowKit Go.Proofs.U
set_option linter.unusedSimpArgs false
set_option linter.unusedVariables false
/-- The place in the stream of a byte of a page. -/
def kpos (i : Nat) : Nat := i / 32 * 24 + (i % 32 - 8)
theorem kpos_head {i : Nat} (h : i % 32 < 8) : kpos (i + 1) = kpos i := by unfold kpos; omega
theorem kpos_rest {i : Nat} (h : ¬ i % 32 < 8) : kpos (i + 1) = kpos i + 1 := by unfold kpos; omega
theorem kpos_lt {i : Nat} (h : i < 256) : kpos i ≤ 192 := by unfold kpos; omega
/-- The root's first k bytes, zeros behind them. -/
def rootN (g : Int) (c : List Int) (k : Nat) : List Int := (List.range 256).map fun i => if i < k then (rootP g c).getD i 0 else 0
theorem rootN_len (g : Int) (c : List Int) (k : Nat) : (rootN g c k).length = 256 := by unfold rootN; rw [List.length_map, List.length_range]
theorem rootN_get (g : Int) (c : List Int) (k i : Nat) (h : i < 256) : (rootN g c k).getD i 0 = if i < k then (rootP g c).getD i 0 else 0 := getD_map _ _ _ h
theorem rootN_zero (g : Int) (c : List Int) : rootN g c 0 = zeroP := by
  apply ext_getD
  · rw [rootN_len, zeroP_len]
  · intro i hi
    rw [rootN_len] at hi
    rw [rootN_get _ _ _ _ hi, if_neg (by omega)]
    unfold zeroP
    rw [List.getD, List.getElem?_replicate, if_pos hi]; rfl
theorem rootN_end (g : Int) (c : List Int) : rootN g c 256 = rootP g c := by
  apply ext_getD
  · rw [rootN_len, rootP_len]
  · intro i hi
    rw [rootN_len] at hi
    rw [rootN_get _ _ _ _ hi, if_pos hi]
theorem set_getD (l : List Int) (k : Nat) (y : Int) (i : Nat) (hk : k < l.length) : (l.set k y).getD i 0 = if i = k then y else l.getD i 0 := by
  simp only [List.getD]
  rw [List.getElem?_set]
  by_cases h : k = i
  · subst h; simp [hk]
  · rw [if_neg h, if_neg (fun e => h e.symm)]
theorem rootN_succ (g : Int) (c : List Int) (k : Nat) (hk : k < 256) (y : Int) (hy : (rootP g c).getD k 0 = y) : rootN g c (k + 1) = (rootN g c k).set k y := by
  apply ext_getD
  · rw [List.length_set, rootN_len, rootN_len]
  · intro i hi
    rw [rootN_len] at hi
    rw [set_getD _ _ _ _ (by rw [rootN_len]; exact hk), rootN_get _ _ _ _ hi, rootN_get _ _ _ _ hi]
    by_cases h : i = k
    · subst h; rw [if_pos (by omega), if_pos rfl, hy]
    · rw [if_neg h]
      by_cases h2 : i < k
      · rw [if_pos (by omega), if_pos h2]
      · rw [if_neg (by omega), if_neg h2]
theorem rootN_same (g : Int) (c : List Int) (k : Nat) (hk : k < 256) (hy : (rootP g c).getD k 0 = 0) : rootN g c (k + 1) = rootN g c k := by
  rw [rootN_succ g c k hk 0 hy]
  apply ext_getD
  · rw [List.length_set]
  · intro i hi
    rw [List.length_set, rootN_len] at hi
    rw [set_getD _ _ _ _ (by rw [rootN_len]; exact hk)]
    split
    · rename_i h; subst h; rw [rootN_get _ _ _ _ hi, if_neg (by omega)]
    · rfl
theorem rootP_head (g : Int) (c : List Int) {i : Nat} (hi : i < 256) (h : i % 32 < 8) : (rootP g c).getD i 0 = (leB 8 g).getD (i % 32) 0 := by rw [rootP_get _ _ _ hi, if_pos h]
theorem rootP_rest (g : Int) (c : List Int) {i : Nat} (hi : i < 256) (h : ¬ i % 32 < 8) : (rootP g c).getD i 0 = (strm c).getD (kpos i) 0 := by
  rw [rootP_get _ _ _ hi, if_neg h, st192, getD_map _ _ _ (by omega)]; rfl

theorem leNum_at (p : List Int) (a j : Nat) (h : a < p.length) : leNum ((p.drop a).take (j + 1)) = p.getD a 0 + 256 * leNum ((p.drop (a + 1)).take j) := by
  rw [List.drop_eq_getElem_cons h, List.take_succ_cons]
  simp [leNum, List.getD, h]
theorem leNum_bd8 {p : List Int} (hb : Byt p) (a j : Nat) (hj : j ≤ 7) : 0 ≤ leNum ((p.drop a).take j) ∧ leNum ((p.drop a).take j) < 72057594037927936 := by
  have h1 := leNum_bd ((p.drop a).take j) (fun x hx => u8_bd (((hb.drop _).take _) x hx))
  have h2 : ((p.drop a).take j).length ≤ 7 := by simp; omega
  refine ⟨h1.1, Int.lt_of_lt_of_le h1.2 ?_⟩
  generalize ((p.drop a).take j).length = n at h2
  clear h1
  have : n = 0 ∨ n = 1 ∨ n = 2 ∨ n = 3 ∨ n = 4 ∨ n = 5 ∨ n = 6 ∨ n = 7 := by omega
  rcases this with rfl | rfl | rfl | rfl | rfl | rfl | rfl | rfl <;> decide

end Go.Proofs.Ytamfnjliikiifaa
/- The document's counts as a page: Page. (Written by t7_gen.py.) -/
namespace Go.Proofs.Ytamfnjliikiifaa
open Go.RowKit Go.Proofs.U
set_option linter.unusedSimpArgs false
set_option linter.unusedVariables false
theorem SlR_new {α : Type} (w : World) (t : TypeId) (ec : α → List Value) (sz : Nat) (x : α) (hx : (ec x).length = sz) : SlR ec sz (w.alloc (.cells (ec x).toArray t)) (.slice (some ⟨w.heap.size, 0, none⟩) 1 1) [x] := by
  refine ⟨?_, ?_⟩
  · intro y hy; simp at hy; subst hy; exact hx
  · refine ⟨some ⟨w.heap.size, 0, none⟩, 1, rfl, Nat.le_refl _, by simp [hx], (fun h => by cases h), fun ad had j u hj => ?_⟩
    cases had
    have hj' : (ec x)[j]? = some u := by simpa using hj
    rw [Addr.plain, Nat.zero_add, World.cell?_alloc_new]
    simpa using hj'
/-- The first k of some bytes, noughts behind them. -/
def laid (n : Nat) (S : List Int) (k : Nat) : List Int := S.take k ++ zerB (n - k)
theorem laid_zero (n : Nat) (S : List Int) : laid n S 0 = zerB n := by simp [laid]
theorem laid_len (n : Nat) (S : List Int) (k : Nat) (h : k ≤ S.length) (hn : k ≤ n) : (laid n S k).length = n := by
  simp only [laid, List.length_append, List.length_take, zerB_len]; omega
theorem laid_set (n : Nat) (S : List Int) (k : Nat) (h : k < S.length) (hn : k < n) : (laid n S k).set k (S.getD k 0) = laid n S (k + 1) := by
  unfold laid
  have e : S.getD k 0 = S[k] := by simp [List.getD, h]
  have l1 : (S.take k).length = k := by rw [List.length_take]; omega
  rw [List.set_append_right _ _ (by omega), l1, Nat.sub_self, e, List.take_succ_eq_append_getElem h]
  unfold zerB
  rw [show n - k = (n - (k + 1)) + 1 by omega, List.replicate_succ, List.set_cons_zero, List.append_assoc]
  rfl
/-- While the document's page is sealed. -/
def JTD (w0 : World) (G : Int) (N8 L S : List Int) : List Value → World → Prop
  | [], W => W = w0
  | [v], W => SlR (pW 8) 2 W v [G] ∧ Fr noB w0 W
  | [_, v], W => OwnI .u8 5 W w0.heap.size v N8 ∧ Fr noB w0 W
  | [_, _, v], W => SlI .u8 W v L ∧ Fr noB w0 W
  | [_, _, _, v], W => OwnI .u8 5 W w0.heap.size v S ∧ Fr noB w0 W
  | [_, _, _, _, v], W => OwnI .u8 5 W w0.heap.size v S ∧ Fr noB w0 W
  | _, _ => False

end Go.Proofs.Ytamfnjliikiifaa
/- The document's Page. (Written by x12_gen.py.) -/
namespace Go.Proofs.Ytamfnjliikiifaa
open Go.RowKit Go.Proofs.U
set_option linter.unusedSimpArgs false
set_option linter.unusedVariables false
theorem run_mk1_u8 (x : Int) (w : World) : (Instr.buildSlice 92 1 #[(0, .int .u8 x)]).run Try.prog w = .ok (.slice (some ⟨w.heap.size, 0, none⟩) 1 1) (w.alloc (.cells #[.int .u8 x] 5)) := by simp [go_sem]
theorem run_mk2_u8 (x y : Int) (w : World) : (Instr.buildSlice 92 2 #[(0, .int .u8 x), (1, .int .u8 y)]).run Try.prog w = .ok (.slice (some ⟨w.heap.size, 0, none⟩) 2 2) (w.alloc (.cells #[.int .u8 x, .int .u8 y] 5)) := by simp [go_sem]
theorem wrap_u8_sm {x : Int} (h0 : 0 ≤ x) (h1 : x < 256) : IntKind.u8.wrap x = x := by
  simp [IntKind.wrap, IntKind.bits, IntKind.signed, IntKind.min, IntKind.max]
  omega

end Go.Proofs.Ytamfnjliikiifaa
/- The document's Open. (Written by x13_gen.py.) -/
namespace Go.Proofs.Ytamfnjliikiifaa
open Go.RowKit Go.Proofs.U
set_option linter.unusedSimpArgs false
set_option linter.unusedVariables false
theorem cellP {w : World} {g : Nat} {t : TypeId} {p : List Int} (h : BxV w g t (pgv p)) (i : Nat) (hi : i < p.length) : w.cell? ⟨g, i, none⟩ = some (.int .u8 (p.getD i 0)) := by
  refine (h.cell i _ ?_).1
  unfold pgv
  simp [List.getD, hi]
theorem decN_tree {p : List Int} (h1 : ¬ p.getD 0 0 = 1) : decN p = ⟨p.getD 0 0, zerB 16, toldE p (min (p.getD 1 0).toNat 6)⟩ := by unfold decN toldE; rw [if_neg h1]
theorem decN_data {p : List Int} (h1 : p.getD 0 0 = 1) : decN p = ⟨1, (p.drop 1).take 16, []⟩ := by unfold decN; rw [if_pos h1]
theorem ndL_setB (k : Int) (b : List Int) (v : Value) (i : Nat) (y : Int) (hi : i < b.length) : (ndL k b v).set (1 + i) (.int .u8 y) = ndL k (b.set i y) v := by
  unfold ndL pgv
  rw [Nat.add_comm 1 i, List.set_cons_succ, List.set_append_left _ _ (by simpa using hi), List.map_set]
section
variable {w : World} {ops : Array Oper} {rest : List Oper} {o : Oper} {a : Act} {Q : Exit → Act → World → Prop}
theorem at_alX (t : TypeId) (_ho : o.op = .alloc t) (h : wpList Try.prog ops Q (o :: rest) a w) : wpList Try.prog ops Q (o :: rest) a w := h
theorem at_bldX (t : TypeId) (fs : Array (Nat × Operand)) (_ho : o.op = .build t fs) (h : wpList Try.prog ops Q (o :: rest) a w) : wpList Try.prog ops Q (o :: rest) a w := h
theorem at_binX (b : BinOp) (t : TypeId) (x y : Operand) (t' : TypeId) (_ho : o.op = .binOp b t x y t') (h : wpList Try.prog ops Q (o :: rest) a w) : wpList Try.prog ops Q (o :: rest) a w := h
end
/-- Where things lie, while the document's entries are read. -/
structure RS8 (w : World) (g1 g2 g4 B : Nat) : Prop where
  a0 : w.heap.size ≤ g1
  a1 : w.heap.size ≤ g2
  a2 : g1 < g4
  a3 : g2 < g4
  a4 : g4 < B
def RO (w : World) (g1 g2 g4 B : Nat) (p : List Int) (K : Int) (W : World) (u v : Value) (L : List (Int × Int)) : Prop :=
  BxV W g1 66 (pgv p) ∧ NdB W g4 K (zerB 16) u ∧ NdB W g2 0 (zerB 16) nilS ∧ OwnR enC 2 51 W B v L ∧ Fr noB w W ∧ B ≤ W.heap.size
section
variable {w : World} {g1 g2 g4 B : Nat} {p : List Int} {K : Int} {W W' : World} {u v : Value} {L : List (Int × Int)}
theorem RO.fr0 (h : RO w g1 g2 g4 B p K W u v L) (f : Fr noB W W') : RO w g1 g2 g4 B p K W' u v L :=
  ⟨h.1.fr0 f, h.2.1.fr0 f, h.2.2.1.fr0 f, h.2.2.2.1.fr0 f, h.2.2.2.2.1.thenN f, Nat.le_trans h.2.2.2.2.2 f.size⟩
theorem RO.app (S : RS8 w g1 g2 g4 B) {x : Int × Int} (h : RO w g1 g2 g4 B p K W u u L) (ho : OwnR enC 2 51 W' B v (L ++ [x])) (hg : W.grownBy W' u.ownBlock) : RO w g1 g2 g4 B p K W' u v (L ++ [x]) := by
  have a0 := S.a0
  have a1 := S.a1
  have a2 := S.a2
  have a3 := S.a3
  have a4 := S.a4
  have f : Fr (fun k => u.ownBlock = some k) W W' := (Fr.refl _ _).grown hg (fun k hk _ => hk)
  have hn := h.2.2.2.1.newB
  exact ⟨h.1.fr f (fun q => by have := (hn _ q).1; omega), h.2.1.fr f (fun q => by have := (hn _ q).1; omega), h.2.2.1.fr f (fun q => by have := (hn _ q).1; omega), ho, h.2.2.2.2.1.thenT f (fun i hi q => by have := (hn _ q).1; omega), Nat.le_trans h.2.2.2.2.2 f.size⟩
theorem RO.put (S : RS8 w g1 g2 g4 B) (h : RO w g1 g2 g4 B p K W u v L) : RO w g1 g2 g4 B p K (W.setCell ⟨g4, 17, none⟩ v) v v L := by
  have a0 := S.a0
  have a1 := S.a1
  have a2 := S.a2
  have a3 := S.a3
  have a4 := S.a4
  have f : Fr (onB1 g4) W (W.setCell ⟨g4, 17, none⟩ v) := Fr.setCell (S := onB1 g4) (Fr.refl _ _) _ _ (fun _ => rfl)
  refine ⟨h.1.ne f (by omega), ?_, h.2.2.1.ne f (by omega), h.2.2.2.1.fr f (fun k hk q => by have := (h.2.2.2.1.newB k hk).1; unfold onB1 at q; omega), h.2.2.2.2.1.thenT f (fun i hi q => by unfold onB1 at q; omega), Nat.le_trans h.2.2.2.2.2 f.size⟩
  have := h.2.1.set 17 v
  rwa [ndL_set K (zerB 16) u v (zerB_len 16)] at this
/-- While the document reads an entry and lays it down. -/
def JRO (w : World) (g1 g2 g4 B : Nat) (p : List Int) (K : Int) (u : Value) (L : List (Int × Int)) (key pg : Int) : List Value → World → Prop
  | [], W => RO w g1 g2 g4 B p K W u u L
  | [v], W => ∃ gx, v = .slice (some ⟨gx, 0, none⟩) 1 1 ∧ (∀ i y, (enC (key, pg))[i]? = some y → W.cell? ((⟨gx, 0, none⟩ : Addr).add i) = some y) ∧ RO w g1 g2 g4 B p K W u u L
  | [_, v], W => RO w g1 g2 g4 B p K W u v (L ++ [(key, pg)])
  | [_, _, _], W => ∃ v, RO w g1 g2 g4 B p K W v v (L ++ [(key, pg)])
  | _, _ => False
theorem JRO.cell {key pg : Int} {hv : List Value} (h : JRO w g1 g2 g4 B p K u L key pg hv W) (hl : hv.length ≤ 1) : W.cell? ⟨g4, 17, none⟩ = some u := by
  match hv, h with
  | [], h => exact NdB.ents h.2.1 (zerB_len 16)
  | [_], h => obtain ⟨_, _, _, h⟩ := h; exact NdB.ents h.2.1 (zerB_len 16)
  | _ :: _ :: _, _ => simp at hl
theorem JRO.pg {key pg : Int} {hv : List Value} (h : JRO w g1 g2 g4 B p K u L key pg hv W) : BxV W g1 66 (pgv p) := by
  match hv, h with
  | [], h => exact h.1
  | [_], h => obtain ⟨_, _, _, h⟩ := h; exact h.1
  | [_, _], h => exact h.1
  | [_, _, _], h => obtain ⟨_, h⟩ := h; exact h.1
end

end Go.Proofs.Ytamfnjliikiifaa
/- At of package leaf: slices.Backward over entries. -/
namespace Go.Proofs.Ytamfnjliikiifaa
open Go.RowKit Go.Shelf Go.Proofs.U
attribute [local go_sem] Oper.semAt_some
set_option linter.unusedSimpArgs false
set_option linter.unusedVariables false

abbrev Ix := Int × (Int × Int)
def bkE (zs : List (Int × Int)) (j : Nat) : Ix := (((zs.length : Int) - 1 - j), zs[zs.length - 1 - j]?.getD (0, 0))
abbrev encY (x : Ix) : Array Value := #[.int .i64 x.1, enV x.2]

/-- The place of the last entry whose key isn't above. -/
def AtIs (l : List (Int × Int)) (key at' : Int) : Prop := -1 ≤ at' ∧ at' < l.length ∧ ∀ (j : Nat) (hj : j < l.length), (at' < (j : Int) → key < l[j].1) ∧ ((j : Int) = at' → l[j].1 ≤ key)
/-- Between two rounds of At. -/
def AI (key : Int) (W0 : World) (pre : List Ix) (W : World) : Prop := (∀ x ∈ pre, key < x.2.1) ∧ Fr noB W0 W
def AX (key : Int) (g4 : Nat) (W0 : World) (c : Code) (pre : List Ix) (W : World) : Prop :=
  c = .ret ∧ ∃ pre' x, pre = pre' ++ [x] ∧ (∀ y ∈ pre', key < y.2.1) ∧ x.2.1 ≤ key ∧ BxV W g4 3 [.int .i64 x.1] ∧ Fr (onB1 g4) W0 W
theorem AI_own (key : Int) (W0 : World) : OwnFrom W0.heap.size (AI key W0) := fun s W W' row hs hg hr => ⟨hs.1, ownFrom_frN (β := Unit) (Nat.le_refl _) () W W' row hs.2 hg hr⟩
theorem AX_own {key : Int} {g4 : Nat} {W0 : World} (c : Code) (h4 : g4 < W0.heap.size) : OwnFrom W0.heap.size (AX key g4 W0 c) := by
  rintro s W W' row ⟨hc, pre', x, h1, h2, h3, h4', h6⟩ hg hr
  refine ⟨hc, pre', x, h1, h2, h3, ?_, ownFrom_frN (β := Unit) (Nat.le_refl _) () W W' row h6 hg hr⟩
  exact (hg.block g4 h4'.lt (fun q => by have := (hr g4 q.symm).1; omega)).trans h4'
theorem at_hit (zs : List (Int × Int)) (key : Int) {pre pre' : List Ix} {x : Ix} (hSp : ∃ k, k ≤ zs.length ∧ pre = uptoL (bkE zs) k) (hpre : pre = pre' ++ [x]) (hno : ∀ y ∈ pre', key < y.2.1) (hhit : x.2.1 ≤ key) : AtIs zs key x.1 := by
  obtain ⟨k, hk, rfl⟩ := hSp
  have hlen : k = pre'.length + 1 := by have := congrArg List.length hpre; rw [uptoL_length] at this; simpa using this
  subst hlen
  rw [uptoL_succ] at hpre
  obtain ⟨hp1, hp2⟩ := List.append_inj hpre (by rw [uptoL_length])
  have hx : bkE zs pre'.length = x := by simpa using hp2
  obtain ⟨j, Hj⟩ : ∃ j, zs.length - 1 - pre'.length = j := ⟨_, rfl⟩
  have hj : j < zs.length := by omega
  have hxz : x.2 = zs[j] := by rw [← hx]; unfold bkE; simp only; rw [Hj]; simp [hj]
  have hx1 : x.1 = (j : Int) := by rw [← hx]; unfold bkE; simp only; omega
  refine ⟨by omega, by omega, fun q hq => ⟨fun h => ?_, fun h => ?_⟩⟩
  · have hmem : bkE zs (zs.length - 1 - q) ∈ pre' := by
      rw [← hp1]; unfold uptoL
      exact List.mem_map.2 ⟨zs.length - 1 - q, by simp; omega, rfl⟩
    have := hno _ hmem
    unfold bkE at this
    rw [show zs.length - 1 - (zs.length - 1 - q) = q by omega] at this
    simp [hq] at this
    omega
  · have : q = j := by omega
    subst this
    rw [← hxz]; exact hhit
theorem at_miss (zs : List (Int × Int)) (key : Int) (hno : ∀ y ∈ uptoL (bkE zs) zs.length, key < y.2.1) : AtIs zs key (-1) := by
  refine ⟨by omega, by omega, fun q hq => ⟨fun h => ?_, fun h => by omega⟩⟩
  have hmem : bkE zs (zs.length - 1 - q) ∈ uptoL (bkE zs) zs.length := by
    unfold uptoL
    exact List.mem_map.2 ⟨zs.length - 1 - q, by simp; omega, rfl⟩
  have := hno _ hmem
  unfold bkE at this
  rw [show zs.length - 1 - (zs.length - 1 - q) = q by omega] at this
  simp [hq] at this
  omega
theorem int_zero : (Try.prog.info? 3).map (·.zero) = some (some (.int .i64 0)) := by kernel_rfl
theorem int_size : (Try.prog.info? 3).map (·.size) = some 1 := by kernel_rfl
theorem results_int {fn : Func} {q : Tmp} (h : fn.results = #[.cell q 3]) (tmps : Array Value) (w : World) (g : Nat) (x : Int) (hq : tmps.getD q undef = .pointer (some ⟨g, 0, none⟩)) (hB : w.cell? ⟨g, 0, none⟩ = some (.int .i64 x)) :
    (results fn tmps).run Try.prog w = .ok (.int .i64 x) w := by
  have hr2 : (loadVar 3 ⟨g, 0, none⟩).run Try.prog w = .ok (.int .i64 x) w := by simp [go_sem, hB]
  simp only [results, h]
  simp [Sem.run_bind, Result.andThen]
  have hq' : tmps[q]?.getD undef = .pointer (some ⟨g, 0, none⟩) := by simpa using hq
  simp [hq', asAddr, hr2]

end Go.Proofs.Ytamfnjliikiifaa
/- leafAlive; LeafNames. (Written by x9_gen.py.) -/
namespace Go.Proofs.Ytamfnjliikiifaa
open Go.RowKit Go.Proofs.U
set_option linter.unusedSimpArgs false
set_option linter.unusedVariables false
theorem SlR_newL {α : Type} (w : World) (t : TypeId) (ec : α → List Value) (sz : Nat) (l : List α) (h : ∀ x ∈ l, (ec x).length = sz) : SlR ec sz (w.alloc (.cells (l.flatMap ec).toArray t)) (.slice (some ⟨w.heap.size, 0, none⟩) l.length l.length) l := by
  refine ⟨h, ⟨some ⟨w.heap.size, 0, none⟩, l.length, rfl, Nat.le_refl _, ?_, (fun h => by cases h), fun ad had j u hj => ?_⟩⟩
  · clear w t
    induction l with
    | nil => simp
    | cons x l ih => rw [List.flatMap_cons, List.length_append, h x (by simp), ih (fun y hy => h y (by simp [hy])), List.length_cons]; rw [Nat.succ_mul]; omega
  · cases had
    rw [Addr.plain, Nat.zero_add, World.cell?_alloc_new]
    simpa using hj
def alE : List (Int × Int) := [(3, 9), (7, 1)]
def alN : Nd := ⟨2, zerB 16, alE⟩
theorem run_mkal (w : World) : (Instr.buildSlice 26 2 #[(0, enV (3, 9)), (1, enV (7, 1))]).run Try.prog w = .ok (.slice (some ⟨w.heap.size, 0, none⟩) 2 2) (w.alloc (.cells #[.int .i64 3, .int .i64 9, .int .i64 7, .int .i64 1] 51)) := by kernel_rfl
theorem alN_right : alN.right = true := by decide
/-- The list of the chapter's example lies at a block. -/
def AlS (w : World) (g : Nat) : Prop := SlP .i64 .i64 w (.slice (some ⟨g, 0, none⟩) 2 2) alE ∧ ∀ q u, (enC (7, 1))[q]? = some u → w.cell? ⟨g, 0 + 1 * 2 + q, none⟩ = some u
theorem AlS.fr0 {w w' : World} {g : Nat} (h : AlS w g) (f : Fr noB w w') : AlS w' g := ⟨⟨h.1.1.fr0 f, h.1.2⟩, fun q u hq => f.cell (h.2 q u hq) (fun q => q)⟩
theorem AlS.nd {w : World} {g : Nat} (h : AlS w g) : NdS w (.slice (some ⟨g, 0, none⟩) 2 2) alN := ⟨h.1, ⟨zerB_len 16, zerB_byt 16⟩, by decide, rfl⟩
section
variable {w : World} {ops : Array Oper} {rest : List Oper} {o : Oper} {a : Act} {Q : Exit → Act → World → Prop}
theorem wpList_mkal (hgd : Region.wanted o (yielded ops a.tmps) = true) (y z : Operand) (ho : o.op = .buildSlice 26 2 #[(0, y), (1, z)]) (hy : a.eval y = enV (3, 9)) (hz : a.eval z = enV (7, 1))
    (h : ∀ g w', AlS w' g → Fr noB w w' → wpList Try.prog ops Q rest (a.put o.dst (.slice (some ⟨g, 0, none⟩) 2 2)) w') : wpList Try.prog ops Q (o :: rest) a w := by
  refine wpList_wanted hgd fun K hK => ?_
  have hrun := run_mkal w
  unfold Oper.wp
  simp [execOp, ho, hy, hz, hrun, Result.andThen]
  have hs := SlR_newL w 51 enC 2 alE (fun _ _ => rfl)
  refine hK _ _ (h w.heap.size _ ⟨⟨hs, ?_⟩, ?_⟩ ((Fr.refl _ _).alloc _))
  · intro x hx; simp [alE] at hx; rcases hx with rfl | rfl <;> decide
  · intro q u hq
    rw [World.cell?_alloc_new]
    match q, hq with
    | 0, hq => simp [pairC] at hq; subst hq; rfl
    | 1, hq => simp [pairC] at hq; subst hq; rfl
    | q + 2, hq => simp [pairC] at hq
end
theorem al_ents {w : World} {u : Value} (h : NdS w u alN) : ∃ b o c, u = .slice (some ⟨b, o, none⟩) 2 c ∧ ∀ q y, (enC (7, 1))[q]? = some y → w.cell? ⟨b, o + 1 * 2 + q, none⟩ = some y := by
  obtain ⟨b, o, c, rfl, hc⟩ := SlR.addr h.1.1 (by decide) (by decide)
  exact ⟨b, o, c, rfl, fun q y hq => hc 1 (by decide) q y hq⟩
theorem NOpenIs.al {w w' : World} {r : Ending} (h : NOpenIs w w' (alN, 0) r) : ∃ b o c, r = .returned (.tuple #[ndV 2 (zerB 16) (.slice (some ⟨b, o, none⟩) 2 c), .int .i64 0]) ∧ (∀ q y, (enC (7, 1))[q]? = some y → w'.cell? ⟨b, o + 1 * 2 + q, none⟩ = some y) ∧ Fr noB w w' := by
  obtain ⟨u, rfl, hn, _, f⟩ := h
  obtain ⟨b, o, c, rfl, hc⟩ := al_ents hn
  exact ⟨b, o, c, rfl, hc, f⟩

theorem opN_zero : opN (zerB 256) = (nd0, 81) := by
  unfold opN
  rw [show (decN (zerB 256)).right = false by rfl]
  rfl
theorem nd0_right : nd0.right = false := by rfl

end Go.Proofs.Ytamfnjliikiifaa
/- How a slice of slices of bytes, and an array of two bytes, that came in are opened. -/
namespace Go.Proofs.Ytamfnjliikiifaa
open Go.RowKit Go.Proofs.U Go.ChangeShapes Go.WideShapes Go.ChangeAt

set_option maxRecDepth 100000 in
theorem opened_rows {H : Type} {enc : TypeId × Value → H} {W : World} {base : Nat} {v : Value} {d : DataW H} {p : List MemPlace}
    (hval : Value.okWide Try.prog W .any base 114 v) (h : DataW.Trod enc Try.prog W 0 (fun _ => true) true 114 v d p) : ∃ ls, SlB W v ls := by
  obtain ⟨a, len, cap, rfl⟩ := okWide_slice Try.underlying114 hval
  obtain ⟨fuel, hf⟩ := h
  rcases Deep.open_int_rows Try.underlying114 Try.underlying92 Try.underlying5 (by kernel_rfl) (by kernel_rfl) hf with ⟨hcs, _⟩ | ⟨x, l, c, A, L, C, Z, hcs, _, hl, hm, _, hcell⟩
  · simp [Value.cells] at hcs
    obtain ⟨rfl, rfl, rfl⟩ := hcs
    exact ⟨[], SlB.nil W⟩
  · simp [Value.cells] at hcs
    obtain ⟨rfl, rfl, rfl⟩ := hcs
    have e : ((List.range len).map fun r => (Z r).take (L r)).length = len := by simp
    refine ⟨(List.range len).map fun r => (Z r).take (L r), (List.range len).map fun r => .slice (A r) (L r) (C r), ?_, ?_⟩
    · rw [e]
      refine ⟨some x, cap, rfl, hl, by simp, (fun h => by cases h), fun y hy j u hj => ?_⟩
      cases hy
      have hj1 : j < len := by have := (List.getElem?_eq_some_iff.1 hj).1; simpa using this
      simp [hj1] at hj
      rw [← hj]; exact (hcell j (by omega)).1
    · intro j hj u hu
      have hj1 : j < len := by simpa using hj
      simp [hj1] at hu
      subst hu
      obtain ⟨h1, h2, h3, h4, h5, h6, h7⟩ := hcell j (by omega)
      simp only [List.getElem_map, List.getElem_range]
      have e2 : ((Z j).take (L j)).length = L j := by simp; omega
      refine ⟨?_, fun n hn => h5 n (List.mem_of_mem_take hn)⟩
      rw [e2]
      refine ⟨A j, C j, rfl, h2, by simp; omega, fun hn => h6 hn, fun y hy i u hi => ?_⟩
      have hi1 : i < L j := by have := (List.getElem?_eq_some_iff.1 hi).1; simp at this; omega
      have hi2 : i < (Z j).length := by omega
      have := (h7 y hy).2 i (by omega)
      rw [this]
      rw [List.getElem?_map, List.getElem?_take, if_pos hi1, List.getElem?_eq_getElem hi2] at hi
      simp at hi
      simp [List.getD, hi2, hi]

end Go.Proofs.Ytamfnjliikiifaa
/- How arrays of bytes, and of two numbers, that came in are opened. -/
namespace Go.Proofs.Ytamfnjliikiifaa
open Go.RowKit Go.Proofs.U Go.ChangeShapes Go.WideShapes Go.ChangeAt
set_option linter.unusedSimpArgs false
set_option linter.unusedVariables false
/-- The value of an array of bytes. -/
def IsArr (v : Value) (n : Nat) (p : List Int) : Prop := v = pgV p ∧ p.length = n ∧ Byt p
def numOf : Value → Int
  | .int _ z => z
  | _ => 0
set_option maxRecDepth 100000 in
theorem opened_arr {t : TypeId} {n : Nat} (T : ArrT t n) (hC : Try.prog.cellsOf t = n) (hc5 : Try.prog.cellsOf 5 = 1) {H : Type} {enc : TypeId × Value → H} {W : World} {base : Nat} {v : Value} {d : DataW H} {p : List MemPlace}
    (hval : Value.okWide Try.prog W .any base t v) (h : DataW.Trod enc Try.prog W 0 (fun _ => true) true t v d p) : ∃ c, IsArr v n c := by
  simp only [Value.okWide, T.und] at hval
  obtain ⟨cs, rfl, hsz, _⟩ := hval
  rw [hC] at hsz
  obtain ⟨fuel, hf⟩ := h
  obtain ⟨xs, m, _, _, _, hlen, hx⟩ := DataW.trod_array T.und hf
  have hat : ∀ i, i < n → ∃ z : Int, cs.toList[i]? = some (.int .u8 z) ∧ (Lit.int .u8 z).wf = true := by
    intro i hi
    have h0 := hx i hi
    rw [hc5] at h0
    have g0 : xs[i]? = some xs[i] := List.getElem?_eq_getElem (by omega)
    rw [g0] at h0
    obtain ⟨z, e, _, wf⟩ := DataW.trod_int Try.underlying5 h0
    refine ⟨z, ?_, wf⟩
    have e1 : ((cs.toList.drop (i * 1)).take 1)[0]? = some (.int .u8 z) := by
      have : (Value.agg cs).cells.toList = cs.toList := rfl
      rw [this] at e
      rw [e]; rfl
    simpa [List.getElem?_take, List.getElem?_drop] using e1
  have hl : cs.toList.length = n := by simpa using hsz
  refine ⟨cs.toList.map numOf, ?_, by simpa using hsz, ?_⟩
  · have e : pgv (cs.toList.map numOf) = cs.toList := by
      apply List.ext_getElem
      · simp [pgv]
      · intro i h1 h2
        obtain ⟨z, hz, _⟩ := hat i (by omega)
        rw [List.getElem?_eq_getElem h2] at hz
        have hz := Option.some.inj hz
        simp only [pgv, List.getElem_map]
        rw [hz]; rfl
    unfold pgV
    rw [e]
  · intro y hy
    obtain ⟨u, hu, rfl⟩ := List.mem_map.1 hy
    obtain ⟨i, hi, rfl⟩ := List.mem_iff_getElem.1 hu
    obtain ⟨z, hz, wf⟩ := hat i (by omega)
    rw [List.getElem?_eq_getElem hi] at hz
    rw [Option.some.inj hz]; exact wf
set_option maxRecDepth 100000 in
theorem opened_240 {H : Type} {enc : TypeId × Value → H} {W : World} {base : Nat} {v : Value} {d : DataW H} {p : List MemPlace}
    (hval : Value.okWide Try.prog W .any base 56 v) (h : DataW.Trod enc Try.prog W 0 (fun _ => true) true 56 v d p) : ∃ c, IsArr v 240 c :=
  opened_arr arr_240 (by kernel_rfl) (by kernel_rfl) hval h
set_option maxRecDepth 100000 in
theorem opened_page {H : Type} {enc : TypeId × Value → H} {W : World} {base : Nat} {v : Value} {d : DataW H} {p : List MemPlace}
    (hval : Value.okWide Try.prog W .any base 66 v) (h : DataW.Trod enc Try.prog W 0 (fun _ => true) true 66 v d p) : ∃ c, IsArr v 256 c :=
  opened_arr arr_page (by kernel_rfl) (by kernel_rfl) hval h
/-- The value of two numbers. -/
def IsTwo (v : Value) (m : Int × Int) : Prop := v = .agg #[.int .u64 m.1, .int .u64 m.2] ∧ G64 m.1 ∧ G64 m.2
theorem g64_wf {x : Int} (h : (Lit.int .u64 x).wf = true) : G64 x := by
  unfold G64
  simp [Lit.wf, IntKind.min, IntKind.max, IntKind.signed, IntKind.bits] at h; omega
end Go.Proofs.Ytamfnjliikiifaa
/- How a struct of a number, an array of bytes and a slice of pairs that came in is opened; no condition but what the types are. -/
namespace Go.Proofs.U
open Go.RowKit Go.ChangeShapes Go.WideShapes Go.ChangeAt
/-- A slice of pairs, cell by cell. -/
theorem slP_of_cells {P : Program} {H : Type} {enc : TypeId × Value → H} {W : World} {t e fuel : Nat} {k0 k1 : IntKind} {f0 f1 : Field} {cs : List Value} {x : DataW H × List MemPlace}
    (hu : P.underlying t = some (.slice e)) (he : P.underlying e = some (.struct #[f0, f1])) (ce : P.cellsOf e = 2) (o0 : f0.offset = 0) (o1 : f1.offset = 1) (c0 : P.cellsOf f0.type = 1) (c1 : P.cellsOf f1.type = 1)
    (t0 : P.underlying f0.type = some (.int k0)) (t1 : P.underlying f1.type = some (.int k1))
    (hf : DataW.trod enc P W 0 (fun _ => true) true fuel t cs = some x) : ∃ v l, cs = [v] ∧ SlP k0 k1 W v l := by
  rcases Deep.open_slice_pairs hu he ce o0 o1 c0 c1 hf with ⟨rfl, _⟩ | ⟨x, len, cap, m, n, V0, V1, D0, D1, P0, P1, rfl, _, hl, hm, hmm, _, hcell⟩
  · exact ⟨_, [], rfl, ⟨by simp, Sl.nil W 2⟩, by simp⟩
  · have hmc : m = cap := by simpa using hmm
    have hv : ∀ i, i < m → ∃ z0 z1, V0 i = .int k0 z0 ∧ V1 i = .int k1 z1 ∧ (Lit.int k0 z0).wf = true ∧ (Lit.int k1 z1).wf = true := by
      intro i hi
      obtain ⟨_, _, r0, r1⟩ := hcell i hi
      obtain ⟨z0, e0, _, w0⟩ := DataW.trod_int t0 r0
      obtain ⟨z1, e1, _, w1⟩ := DataW.trod_int t1 r1
      simp at e0 e1
      exact ⟨z0, z1, e0, e1, w0, w1⟩
    let g : Nat → Int × Int := fun i => (intOf (V0 i), intOf (V1 i))
    have hg : ∀ i, i < m → V0 i = .int k0 (g i).1 ∧ V1 i = .int k1 (g i).2 ∧ (Lit.int k0 (g i).1).wf = true ∧ (Lit.int k1 (g i).2).wf = true := by
      intro i hi
      obtain ⟨z0, z1, e0, e1, w0, w1⟩ := hv i hi
      simp only [g, e0, e1, intOf]
      exact ⟨trivial, trivial, w0, w1⟩
    have hfl2 : ∀ L : List (Int × Int), (L.flatMap (pairC k0 k1)).length = L.length * 2 := by
      intro L; induction L with
      | nil => rfl
      | cons z L ih => simp only [List.flatMap_cons, List.length_append, ih, List.length_cons]; simp [pairC]; omega
    refine ⟨_, (List.range len).map g, rfl, ⟨fun y _ => rfl, ?_⟩, fun y hy => ?_⟩
    · refine ⟨some x, cap, by simp, by simpa using hl, ?_, (fun h => by cases h), fun y hy j u hj => ?_⟩
      · rw [hfl2]
      · cases hy
        have hjl : j < len * 2 := by
          have h2 := (List.getElem?_eq_some_iff.1 hj).1
          rw [hfl2] at h2; simpa using h2
        have hq : j / 2 < ((List.range len).map g).length := by simp; omega
        have hfl := flat_at (pairC k0 k1) 2 ((List.range len).map g) (fun _ _ => rfl) (j / 2) hq (j % 2) (by omega)
        rw [show j / 2 * 2 + j % 2 = j by omega, hj] at hfl
        have hj2 : j / 2 < m := by omega
        obtain ⟨q0, q1, _, _⟩ := hcell (j / 2) hj2
        obtain ⟨e0, e1, _, _⟩ := hg (j / 2) hj2
        simp only [List.getElem_map, List.getElem_range] at hfl
        rcases Nat.mod_two_eq_zero_or_one j with hm2 | hm2
        · rw [hm2] at hfl; simp [pairC] at hfl; rw [hfl, ← e0, ← q0]; congr 2; omega
        · rw [hm2] at hfl; simp [pairC] at hfl; rw [hfl, ← e1, ← q1]; congr 2; omega
    · simp at hy; obtain ⟨i, hi, rfl⟩ := hy
      exact (hg i (by omega)).2.2
end Go.Proofs.U
namespace Go.Proofs.Ytamfnjliikiifaa
open Go.RowKit Go.Proofs.U Go.ChangeShapes Go.WideShapes Go.ChangeAt
set_option linter.unusedSimpArgs false
set_option linter.unusedVariables false
/-- An array of bytes, cell by cell. -/
theorem bytes_of_cells {P : Program} {t e n fuel : Nat} (hu : P.underlying t = some (.array n e)) (he : P.underlying e = some (.int .u8)) (ct : P.cellsOf t = n) (ce : P.cellsOf e = 1) {H : Type} {enc : TypeId × Value → H} {W : World} {cs : List Value} {x : DataW H × List MemPlace}
    (hf : DataW.trod enc P W 0 (fun _ => true) true fuel t cs = some x) : ∃ c, cs = pgv c ∧ c.length = n ∧ Byt c := by
  obtain ⟨xs, m, _, _, hsz, hlen, hx⟩ := DataW.trod_array hu hf
  rw [ct] at hsz
  have hat : ∀ i, i < n → ∃ z : Int, cs[i]? = some (.int .u8 z) ∧ (Lit.int .u8 z).wf = true := by
    intro i hi
    have h0 := hx i hi
    rw [ce] at h0
    have g0 : xs[i]? = some xs[i] := List.getElem?_eq_getElem (by omega)
    rw [g0] at h0
    obtain ⟨z, e, _, wf⟩ := DataW.trod_int he h0
    refine ⟨z, ?_, wf⟩
    have e1 : ((cs.drop (i * 1)).take 1)[0]? = some (.int .u8 z) := by rw [e]; rfl
    simpa [List.getElem?_take, List.getElem?_drop] using e1
  refine ⟨cs.map numOf, ?_, by rw [List.length_map, hsz], ?_⟩
  · apply List.ext_getElem
    · simp [pgv]
    · intro i h1 h2
      obtain ⟨z, hz, _⟩ := hat i (by omega)
      rw [List.getElem?_eq_getElem h1] at hz
      have hz := Option.some.inj hz
      simp only [pgv, List.getElem_map]
      rw [hz]; rfl
  · intro y hy
    obtain ⟨u, hu, rfl⟩ := List.mem_map.1 hy
    obtain ⟨i, hi, rfl⟩ := List.mem_iff_getElem.1 hu
    obtain ⟨z, hz, wf⟩ := hat i (by omega)
    rw [List.getElem?_eq_getElem hi] at hz
    rw [Option.some.inj hz]; exact wf
/-- A number, an array of bytes, and a slice of pairs, as one value. -/
theorem node_of_trod {P : Program} {t e5 es ee n : Nat} {g0 g1 g2 f0 f1 : Field} {H : Type} {enc : TypeId × Value → H} {W : World} {base : Nat} {v : Value} {d : DataW H} {p : List MemPlace}
    (hu : P.underlying t = some (.struct #[g0, g1, g2])) (ct : P.cellsOf t = n + 2) (p0 : g0.offset = 0) (p1 : g1.offset = 1) (p2 : g2.offset = n + 1) (k0 : P.cellsOf g0.type = 1) (k1 : P.cellsOf g1.type = n) (k2 : P.cellsOf g2.type = 1)
    (u0 : P.underlying g0.type = some (.int .i64)) (u1 : P.underlying g1.type = some (.array n e5)) (u5 : P.underlying e5 = some (.int .u8)) (c5 : P.cellsOf e5 = 1)
    (u2 : P.underlying g2.type = some (.slice ee)) (he : P.underlying ee = some (.struct #[f0, f1])) (ce : P.cellsOf ee = 2) (o0 : f0.offset = 0) (o1 : f1.offset = 1) (c0 : P.cellsOf f0.type = 1) (c1 : P.cellsOf f1.type = 1)
    (t0 : P.underlying f0.type = some (.int .i64)) (t1 : P.underlying f1.type = some (.int .i64))
    (hval : Value.okWide P W .any base t v) (h : DataW.Trod enc P W 0 (fun _ => true) true t v d p) :
    ∃ (k : Int) (b : List Int) (vs : Value) (l : List (Int × Int)), v = .agg (.int .i64 k :: (pgv b ++ [vs])).toArray ∧ (Lit.int .i64 k).wf = true ∧ b.length = n ∧ Byt b ∧ SlP .i64 .i64 W vs l := by
  simp only [Value.okWide, hu] at hval
  obtain ⟨cs, rfl, hsz, _⟩ := hval
  rw [ct] at hsz
  obtain ⟨fuel, hf⟩ := h
  have hf : DataW.trod enc P W 0 (fun _ => true) true fuel t cs.toList = some (d, p) := hf
  obtain ⟨y0, y1, y2, m, _, hl, r0, r1, r2⟩ := Deep.trod_struct3 hu hf
  rw [p0, k0] at r0
  rw [p1, k1] at r1
  rw [p2, k2] at r2
  have hcl : cs.toList.length = n + 2 := by rw [← hsz]; rfl
  obtain ⟨z, e0, _, w0⟩ := DataW.trod_int u0 r0
  obtain ⟨b, e1, bl, bb⟩ := bytes_of_cells u1 u5 k1 c5 r1
  obtain ⟨vs, l, e2, hs⟩ := slP_of_cells u2 he ce o0 o1 c0 c1 t0 t1 r2
  refine ⟨z, b, vs, l, ?_, w0, bl, bb, hs⟩
  have e : cs.toList = .int .i64 z :: (pgv b ++ [vs]) := by
    have h1 : cs.toList = cs.toList.take 1 ++ ((cs.toList.drop 1).take n ++ (cs.toList.drop (n + 1)).take 1) := by
      have a1 : (cs.toList.drop (n + 1)).take 1 = (cs.toList.drop 1).drop n := by
        rw [List.drop_drop, Nat.add_comm 1 n, List.take_of_length_le (by rw [List.length_drop, hcl]; omega)]
      rw [a1, List.take_append_drop, List.take_append_drop]
    rw [h1]
    rw [List.drop_zero] at e0
    rw [e0, e1, e2]
    rfl
  have : cs = cs.toList.toArray := by simp
  rw [this, e]
end Go.Proofs.Ytamfnjliikiifaa
/- How a node that came in is opened. -/
namespace Go.Proofs.Ytamfnjliikiifaa
open Go.RowKit Go.Proofs.U Go.ChangeShapes Go.WideShapes Go.ChangeAt
/-- A value is a node whose entries lie in memory. -/
def IsNd (w : World) (v : Value) (n : Nd) : Prop := ∃ vs, v = ndV n.k n.b vs ∧ SlP .i64 .i64 w vs n.es ∧ n.ok ∧ (Lit.int .i64 n.k).wf = true
set_option maxRecDepth 100000 in
theorem opened_node {H : Type} {enc : TypeId × Value → H} {W : World} {base : Nat} {v : Value} {d : DataW H} {p : List MemPlace}
    (hval : Value.okWide Try.prog W .any base 28 v)
    (h : DataW.Trod enc Try.prog W 0 (fun _ => true) true 28 v d p) : ∃ n, IsNd W v n := by
  obtain ⟨k, b, vs, l, hv, wk, bl, bb, hs⟩ := node_of_trod (n := 16) (es := 0) Try.underlying28 (by kernel_rfl) rfl rfl rfl (by kernel_rfl) (by kernel_rfl) (by kernel_rfl) Try.underlying3 Try.underlying25 Try.underlying5 (by kernel_rfl)
    Try.underlying26 Try.underlying51 (by kernel_rfl) rfl rfl (by kernel_rfl) (by kernel_rfl) Try.underlying3 Try.underlying3 hval h
  exact ⟨⟨k, b, l⟩, vs, hv, hs, ⟨bl, bb⟩, wk⟩
theorem IsNd.parts {w : World} {v : Value} {n : Nd} (h : IsNd w v n) : ∃ a c, v = ndV n.k n.b (.slice a n.es.length c) ∧ SlP .i64 .i64 w (.slice a n.es.length c) n.es ∧ n.ok ∧ (Lit.int .i64 n.k).wf = true := by
  obtain ⟨vs, rfl, hs, h⟩ := h
  obtain ⟨a, c, rfl, _⟩ := hs.1.opn
  exact ⟨a, c, rfl, hs, h⟩
end Go.Proofs.Ytamfnjliikiifaa
/- LeafOpens. -/
namespace Go.Proofs.Ytamfnjliikiifaa
open Go.RowKit Go.Proofs.U
set_option linter.unusedSimpArgs false
set_option linter.unusedVariables false
theorem same_self (n : Nd) : n.same n = true := same_eq.2 rfl
/-- What Open hands back, its row opened. -/
theorem NOpenIs.parts {w w' : World} {x : Nd × Int} {r : Ending} (h : NOpenIs w w' x r) : ∃ a m c, r = .returned (.tuple #[ndV x.1.k x.1.b (.slice a m c), .int .i64 x.2]) ∧ NdS w' (.slice a m c) x.1 ∧ Hid (x.1.b.length = 16) ∧ Fr noB w w' := by
  obtain ⟨v, rfl, hn, _, f⟩ := h
  obtain ⟨a, m, c, rfl⟩ := hn.sl
  exact ⟨a, m, c, rfl, hn, hn.bl, f⟩

end Go.Proofs.Ytamfnjliikiifaa
