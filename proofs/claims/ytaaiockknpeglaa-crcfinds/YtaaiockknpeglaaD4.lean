/- What Open finds, in the bytes' own terms. -/
import Derived.Test.YtaaiockknpeglaaD6
import Derived.Test.YtaaiockknpeglaaD5
import Derived.Test.YtaaiockknpeglaaCM2
namespace Go.Proofs.Ytaaiockknpeglaa
open Go.RowKit Go.Proofs.U
set_option linter.unusedSimpArgs false
set_option linter.unusedVariables false

def BL (l : List Int) : List (BitVec 8) := l.map (BitVec.ofInt 8)
theorem BL_append (a b : List Int) : BL (a ++ b) = BL a ++ BL b := by simp [BL]
theorem be4_BL (s : BitVec 32) : BL (be4I (s.toNat : Int)) = be4 s := by
  have h := s.isLt
  have e (x : Int) (k : Nat) (hx : x % 256 = ((s.toNat / 2 ^ k : Nat) : Int) % 256) : BitVec.ofInt 8 x = (s >>> k).setWidth 8 := by
    apply BitVec.eq_of_toNat_eq
    rw [BitVec.toNat_ofInt, BitVec.toNat_setWidth, BitVec.toNat_ushiftRight, Nat.shiftRight_eq_div_pow]
    generalize s.toNat / 2 ^ k = y at *
    omega
  have e0 : BitVec.ofInt 8 ((s.toNat : Int) % 256) = s.setWidth 8 := by
    apply BitVec.eq_of_toNat_eq
    rw [BitVec.toNat_ofInt, BitVec.toNat_setWidth]
    omega
  simp only [BL, be4I, List.map_cons, List.map_nil, be4]
  rw [e _ 24 (by omega), e _ 16 (by omega), e _ 8 (by omega), e0]
theorem BL_inj (a b : List Int) (ha : ∀ n ∈ a, (Lit.int .u8 n).wf = true) (hb : ∀ n ∈ b, (Lit.int .u8 n).wf = true) (h : BL a = BL b) : a = b := by
  have key : ∀ (l : List Int), (∀ n ∈ l, (Lit.int .u8 n).wf = true) → (BL l).map (fun u => (u.toNat : Int)) = l := by
    intro l hl
    unfold BL
    rw [List.map_map]
    conv => rhs; rw [← List.map_id l]
    apply List.map_congr_left
    intro n hn
    have := u8_bd (hl n hn)
    exact ofI8 n this.1 this.2
  rw [← key a ha, ← key b hb, h]
theorem ok_iff (l : List Int) (hw : ∀ n ∈ l, (Lit.int .u8 n).wf = true) (h4 : 4 ≤ l.length) : okI l = decide (crcF ones32 (BL l) = 0#32) := by
  have hsplit := (List.take_append_drop (l.length - 4) l).symm
  have hpw : ∀ n ∈ l.take (l.length - 4), (Lit.int .u8 n).wf = true := fun n hn => hw n (List.mem_of_mem_take hn)
  have htw : ∀ n ∈ l.drop (l.length - 4), (Lit.int .u8 n).wf = true := fun n hn => hw n (List.mem_of_mem_drop hn)
  have htl : (l.drop (l.length - 4)).length = 4 := by simp; omega
  unfold okI
  simp only [h4, decide_true, Bool.true_and]
  generalize l.take (l.length - 4) = p at *
  generalize l.drop (l.length - 4) = t at *
  subst hsplit
  have e1 : sealI p = p ++ t ↔ be4I (crcI p) = t := by unfold sealI; exact ⟨fun h => List.append_cancel_left h, fun h => by rw [h]⟩
  have e2 : be4I (crcI p) = t ↔ be4 (crcF ones32 (BL p)) = BL t := by
    rw [← be4_BL]
    constructor
    · intro h; rw [← h]; rfl
    · intro h; exact BL_inj _ _ (be4I_wf _ (crcI_bd p).1 (crcI_bd p).2) htw h
  have e3 : crcF ones32 (BL (p ++ t)) = 0#32 ↔ be4 (crcF ones32 (BL p)) = BL t := by
    rw [BL_append, crcF_append]
    have : (BL t).length = 4 := by simp [BL, htl]
    match ht : BL t, this with
    | [a, b, c, d], _ => exact seal_iff _ a b c d
  rw [decide_eq_decide, e1, e2, e3]

/-- two neighbours mixed. -/
theorem turn2 (x : List Int) (k : Nat) (m0 m1 : Int) (h : k + 1 < x.length) :
    turnI (turnI x (k : Int) m0) ((k : Int) + 1) m1 = x.take k ++ [xI (x.getD k 0) m0, xI (x.getD (k + 1) 0) m1] ++ x.drop (k + 2) := by
  have e1 : turnI x (k : Int) m0 = x.set k (xI (x.getD k 0) m0) := by unfold turnI; rw [if_pos (by omega), Int.toNat_natCast]
  have e2 : turnI (x.set k (xI (x.getD k 0) m0)) ((k : Int) + 1) m1 = (x.set k (xI (x.getD k 0) m0)).set (k + 1) (xI (x.getD (k + 1) 0) m1) := by
    unfold turnI
    rw [if_pos (by simp; omega), show ((k : Int) + 1).toNat = k + 1 by omega]
    congr 2
    simp [List.getD, List.getElem?_set]
  rw [e1, e2]
  apply List.ext_getElem
  · simp; omega
  · intro i h1 h2
    simp only [List.getElem_set, List.append_assoc, List.getElem_append, List.length_take, List.getElem_take, List.length_cons, List.length_nil, List.getElem_drop, List.cons_append, List.nil_append, List.getElem_cons]
    simp at h1
    have hm : min k x.length = k := by omega
    simp only [hm]
    by_cases c1 : k + 1 = i
    · subst c1
      simp
      intro hh; omega
    · by_cases c2 : k = i
      · subst c2; simp
      · simp only [c1, c2, if_false]
        by_cases c3 : i < k
        · simp [c3]
        · simp only [c3, dite_false]
          have c4 : ¬ i - k = 0 := by omega
          have c5 : ¬ i - k - 1 = 0 := by omega
          simp only [c4, c5, dite_false]
          congr 1; omega
theorem split2 (x : List Int) (k : Nat) (h : k + 1 < x.length) : x = x.take k ++ [x.getD k 0, x.getD (k + 1) 0] ++ x.drop (k + 2) := by
  have h0 : k < x.length := by omega
  have a0 : x.getD k 0 = x[k] := by simp [List.getD, h0]
  have a1 : x.getD (k + 1) 0 = x[k + 1] := by simp [List.getD, h]
  rw [a0, a1]
  conv => lhs; rw [← List.take_append_drop k x, List.drop_eq_getElem_cons h0, List.drop_eq_getElem_cons h]
  simp

theorem finds (l : List Int) (hw : ∀ n ∈ l, (Lit.int .u8 n).wf = true) (k : Nat) (hk : k < l.length + 3) (m0 m1 : Int) (h0 : 0 ≤ m0 ∧ m0 < 256) (h1 : 0 ≤ m1 ∧ m1 < 256) :
    okI (turnI (turnI (sealI l) (k : Int) m0) ((k : Int) + 1) m1) = decide (m0 = 0 ∧ m1 = 0) := by
  have hX := sealI_length l
  have hXw := sealI_wf l hw
  have hok := ok_seal l
  generalize sealI l = x at *
  have hlt : k + 1 < x.length := by omega
  rw [ok_iff _ (turnI_wf _ _ _ (turnI_wf _ _ _ hXw h0) h1) (by rw [turnI_length, turnI_length]; omega), turn2 x k m0 m1 hlt, decide_eq_decide]
  rw [ok_iff _ hXw (by omega)] at hok
  have hz : crcF ones32 (BL x) = 0#32 := by simpa using hok
  have hs := split2 x k hlt
  rw [hs, BL_append, BL_append] at hz
  have g0 : x.getD k 0 = x[k] := by simp [List.getD, show k < x.length by omega]
  have g1 : x.getD (k + 1) 0 = x[k + 1] := by simp [List.getD, hlt]
  have c0 := u8_bd (hXw x[k] (by simp))
  have c1 := u8_bd (hXw x[k + 1] (by simp))
  rw [g0, g1] at hz ⊢
  rw [BL_append, BL_append]
  simp only [BL, List.map_cons, List.map_nil] at hz ⊢
  rw [ofI_xor _ _ c0 h0, ofI_xor _ _ c1 h1]
  rw [found_iff _ _ _ _ _ _ hz]
  have key (m : Int) (hm : 0 ≤ m ∧ m < 256) : BitVec.ofInt 8 m = 0#8 ↔ m = 0 := by
    constructor
    · intro h
      have := ofI8 m hm.1 hm.2
      rw [h] at this
      simpa using this.symm
    · rintro rfl; rfl
  rw [key m0 h0, key m1 h1]
end Go.Proofs.Ytaaiockknpeglaa
