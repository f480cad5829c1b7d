/- A sum bit by bit, as the document has it; no condition but what each states. -/
import Derived.Test.YtaaiockknpeglaaCM
namespace Go.Proofs.U
set_option linter.unusedSimpArgs false
set_option linter.unusedVariables false

def bitsM (s : BitVec 32) : List Bool := (List.range 32).map (fun i => s.getMsbD i)
def topB (b : Bool) : BitVec 32 := if b then 0x80000000#32 else 0#32
def rstep (s : BitVec 32) (b : Bool) : BitVec 32 := stp (s ^^^ topB b)
theorem bitsM_len (s : BitVec 32) : (bitsM s).length = 32 := by simp [bitsM]
theorem bitsM_get (s : BitVec 32) (i : Nat) (h : i < 32) : (bitsM s).getD i false = s.getMsbD i := by simp [bitsM, List.getD, h]
theorem bitsM_ones : bitsM ones32 = List.replicate 32 true := by decide
theorem bitsM_shift (s : BitVec 32) : (bitsM s).drop 1 ++ [false] = bitsM (s <<< 1) := by
  apply List.ext_getElem
  · simp [bitsM]
  · intro i h1 h2
    have hi : i < 32 := by simpa [bitsM] using h2
    simp only [bitsM, List.getElem_append, List.getElem_drop, List.getElem_map, List.getElem_range, List.length_drop, List.length_map, List.length_range]
    by_cases h31 : i < 32 - 1
    · rw [dif_pos h31]
      simp only [BitVec.getMsbD_shiftLeft]
      rw [Nat.add_comm]
    · rw [dif_neg h31]
      obtain rfl : i = 31 := by omega
      simp
theorem top_shift (b : Bool) : topB b <<< 1 = 0#32 := by cases b <;> decide
theorem rstep_bit (s : BitVec 32) (b : Bool) (i : Nat) (h : i < 32) : (rstep s b).getMsbD i = ((s <<< 1).getMsbD i != ((s.getMsbD 0 != b) && polyB.getMsbD i)) := by
  unfold rstep stp
  rw [BitVec.shiftLeft_xor_distrib, top_shift, BitVec.xor_zero, BitVec.getMsbD_xor, BitVec.msb_xor]
  have e1 : s.msb = s.getMsbD 0 := rfl
  have e2 : (topB b).msb = b := by cases b <;> decide
  rw [e1, e2]
  have e3 : (s.getMsbD 0 ^^ b) = (s.getMsbD 0 != b) := rfl
  rw [e3]
  cases (s.getMsbD 0 != b) <;> simp
/-- so far the new bits, behind them the old ones moved on. -/
def nx (s : BitVec 32) (b : Bool) (i : Nat) : List Bool := (bitsM (rstep s b)).take i ++ (bitsM (s <<< 1)).drop i
theorem nx_len (s : BitVec 32) (b : Bool) (i : Nat) (h : i ≤ 32) : (nx s b i).length = 32 := by simp [nx, bitsM_len]; omega
theorem nx_zero (s : BitVec 32) (b : Bool) : nx s b 0 = bitsM (s <<< 1) := by simp [nx]
theorem nx_end (s : BitVec 32) (b : Bool) : nx s b 32 = bitsM (rstep s b) := by
  simp [nx, List.take_of_length_le, List.drop_of_length_le, bitsM_len]
theorem nx_get (s : BitVec 32) (b : Bool) (i : Nat) (h : i < 32) : (nx s b i).getD i false = (s <<< 1).getMsbD i := by
  have hl : ((bitsM (rstep s b)).take i).length = i := by simp [bitsM_len]; omega
  unfold nx
  rw [List.getD, List.getElem?_append_right (by omega), hl, Nat.sub_self, List.getElem?_drop, Nat.add_zero]
  exact bitsM_get _ i h
theorem nx_set (s : BitVec 32) (b : Bool) (i : Nat) (h : i < 32) : (nx s b i).set i ((rstep s b).getMsbD i) = nx s b (i + 1) := by
  have hl : ((bitsM (rstep s b)).take i).length = i := by simp [bitsM_len]; omega
  have hr : i < (bitsM (rstep s b)).length := by rw [bitsM_len]; exact h
  have hq : i < (bitsM (s <<< 1)).length := by rw [bitsM_len]; exact h
  unfold nx
  rw [List.set_append_right _ _ (by omega), hl, Nat.sub_self, List.drop_eq_getElem_cons hq, List.set_cons_zero, List.take_succ_eq_append_getElem hr, List.append_assoc]
  congr 2
  simp [bitsM]
theorem nx_same (s : BitVec 32) (b : Bool) (i : Nat) (h : i < 32) (hq : (rstep s b).getMsbD i = (s <<< 1).getMsbD i) : nx s b i = nx s b (i + 1) := by
  rw [← nx_set s b i h, hq, ← nx_get s b i h]
  have hl : i < (nx s b i).length := by rw [nx_len s b i (by omega)]; exact h
  have : (nx s b i).getD i false = (nx s b i)[i] := by simp [List.getD, hl]
  rw [this, List.set_getElem_self]

/-- a byte bit by bit. -/
theorem stp_byte : ∀ c : BitVec 8, stp (byt c) = stp (topB c.msb) ^^^ byt (c <<< 1) := by decide +kernel
theorem stpN_byte (n : Nat) (s : BitVec 32) (c : BitVec 8) : stpN (n + 1) (s ^^^ byt c) = stpN n (rstep s c.msb ^^^ byt (c <<< 1)) := by
  rw [stpN]; congr 1
  rw [stp_xor, stp_byte, rstep, stp_xor, BitVec.xor_assoc]
theorem byt0 : byt 0#8 = 0#32 := by decide
theorem wb_bits (s : BitVec 32) (c : BitVec 8) : wb s c = (List.range 8).foldl (fun t r => rstep t (c.getLsbD (7 - r))) s := by
  have key : ∀ r, r ≤ 8 → stpN 8 (s ^^^ byt c) = stpN (8 - r) ((List.range r).foldl (fun t r => rstep t (c.getLsbD (7 - r))) s ^^^ byt (c <<< r)) := by
    intro r
    induction r with
    | zero => intro _; simp
    | succ r ih =>
      intro h
      rw [ih (by omega), show 8 - r = (8 - (r + 1)) + 1 by omega, stpN_byte, List.range_succ, List.foldl_append]
      simp only [List.foldl_cons, List.foldl_nil]
      have e1 : (c <<< r).msb = c.getLsbD (7 - r) := by
        rw [BitVec.msb_eq_getLsbD_last, BitVec.getLsbD_shiftLeft]
        have : r < 8 := by omega
        simp; omega
      rw [e1, ← BitVec.shiftLeft_add]
  unfold wb
  rw [key 8 (by omega)]
  have e8 : c <<< 8 = 0#8 := by simp
  rw [e8, byt0, BitVec.xor_zero]; rfl
/-- number of the bits so far. -/
theorem num_step (s : BitVec 32) (i : Nat) (h : i < 32) : s.toNat / 2 ^ (31 - i) = s.toNat / 2 ^ (32 - i) * 2 + (if s.getMsbD i then 1 else 0) := by
  have e : 32 - i = (31 - i) + 1 := by omega
  rw [e, Nat.pow_succ, ← Nat.div_div_eq_div_mul]
  have hb : s.getMsbD i = decide (s.toNat / 2 ^ (31 - i) % 2 = 1) := by
    have : s.getMsbD i = s.getLsbD (31 - i) := by
      rw [BitVec.getMsbD_eq_getLsbD]; simp [h]
    rw [this, BitVec.getLsbD, Nat.testBit_eq_decide_div_mod_eq]
  rw [hb]
  by_cases hc : s.toNat / 2 ^ (31 - i) % 2 = 1
  · simp [hc]; omega
  · simp [hc]; omega
end Go.Proofs.U
