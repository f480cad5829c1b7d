/- What a seal is by its sum, and what is found by it; no condition but what each states. -/
import Derived.Test.YtaaiockknpeglaaCM
namespace Go.Proofs.U

def cat4 (a b c d : BitVec 8) : BitVec 32 := byt a ^^^ (b.setWidth 32 <<< 16) ^^^ (c.setWidth 32 <<< 8) ^^^ d.setWidth 32
theorem st8 : ∀ b : BitVec 8, stpN 8 (b.setWidth 32 <<< 16) = byt b := by decide +kernel
theorem st16 : ∀ b : BitVec 8, stpN 8 (b.setWidth 32 <<< 8) = b.setWidth 32 <<< 16 := by decide +kernel
theorem st24 : ∀ b : BitVec 8, stpN 8 (b.setWidth 32) = b.setWidth 32 <<< 8 := by decide +kernel
theorem stpN32 (x : BitVec 32) : stpN 32 x = stpN 8 (stpN 8 (stpN 8 (stpN 8 x))) := by
  show stpN (8 + (8 + (8 + 8))) x = _
  rw [stpN_add, stpN_add, stpN_add]
theorem crc4 (s : BitVec 32) (a b c d : BitVec 8) : crcF s [a, b, c, d] = stpN 32 (s ^^^ cat4 a b c d) := by
  have e : s ^^^ cat4 a b c d = ((s ^^^ byt a) ^^^ (b.setWidth 32 <<< 16)) ^^^ (c.setWidth 32 <<< 8) ^^^ d.setWidth 32 := by
    unfold cat4; simp only [BitVec.xor_assoc]
  rw [e, stpN32]
  simp only [stpN_xor, st24, st16, st8]
  simp only [crcF, List.foldl_cons, List.foldl_nil, wb, stpN_xor]
theorem byte_hi (s : BitVec 32) (i : Nat) (h : i < 32) : (cat4 ((s >>> 24).setWidth 8) ((s >>> 16).setWidth 8) ((s >>> 8).setWidth 8) (s.setWidth 8)).getLsbD i = s.getLsbD i := by
  unfold cat4 byt
  simp only [BitVec.getLsbD_xor, BitVec.getLsbD_shiftLeft, BitVec.getLsbD_setWidth, BitVec.getLsbD_ushiftRight]
  by_cases h1 : i < 8
  · have q1 : i < 16 := by omega
    have q2 : i < 24 := by omega
    simp [h1, h, q1, q2]
  by_cases h2 : i < 16
  · have : 8 + (i - 8) = i := by omega
    have q2 : i < 24 := by omega
    have q3 : i - 8 < 8 := by omega
    have q4 : i - 8 < 32 := by omega
    simp [h1, h2, h, this, q2, q3, q4]
  by_cases h3 : i < 24
  · have : 16 + (i - 16) = i := by omega
    have q3 : i - 16 < 8 := by omega
    have q4 : i - 16 < 32 := by omega
    have q5 : ¬ i - 8 < 8 := by omega
    simp [h1, h2, h3, h, this, q3, q4, q5]
  · have : 24 + (i - 24) = i := by omega
    have q3 : i - 24 < 8 := by omega
    have q4 : i - 24 < 32 := by omega
    have q5 : ¬ i - 8 < 8 := by omega
    have q6 : ¬ i - 16 < 8 := by omega
    simp [h1, h2, h3, h, this, q3, q4, q5, q6]
theorem cat_be (s : BitVec 32) : cat4 ((s >>> 24).setWidth 8) ((s >>> 16).setWidth 8) ((s >>> 8).setWidth 8) (s.setWidth 8) = s :=
  BitVec.eq_of_getLsbD_eq fun i h => byte_hi s i h
theorem cat_bit (a b c d : BitVec 8) (i : Nat) : (cat4 a b c d).getLsbD i = (if i < 8 then d.getLsbD i else if i < 16 then c.getLsbD (i - 8) else if i < 24 then b.getLsbD (i - 16) else if i < 32 then a.getLsbD (i - 24) else false) := by
  unfold cat4 byt
  simp only [BitVec.getLsbD_xor, BitVec.getLsbD_shiftLeft, BitVec.getLsbD_setWidth]
  have hd : 8 ≤ i → d.getLsbD i = false := fun h => BitVec.getLsbD_of_ge _ _ h
  have hc : 16 ≤ i → c.getLsbD (i - 8) = false := fun h => BitVec.getLsbD_of_ge _ _ (by omega)
  have hb : 24 ≤ i → b.getLsbD (i - 16) = false := fun h => BitVec.getLsbD_of_ge _ _ (by omega)
  by_cases h1 : i < 8
  · have q1 : i < 16 := by omega
    have q2 : i < 24 := by omega
    have q3 : i < 32 := by omega
    simp [h1, q1, q2, q3]
  rw [hd (by omega)]
  by_cases h2 : i < 16
  · have q2 : i < 24 := by omega
    have q3 : i < 32 := by omega
    have q4 : i - 8 < 32 := by omega
    simp [h1, h2, q2, q3, q4]
  rw [hc (by omega)]
  by_cases h3 : i < 24
  · have q3 : i < 32 := by omega
    have q4 : i - 16 < 32 := by omega
    simp [h1, h2, h3, q3, q4]
  rw [hb (by omega)]
  by_cases h4 : i < 32
  · have q4 : i - 24 < 32 := by omega
    simp [h1, h2, h3, h4, q4]
  · simp [h1, h2, h3, h4]
theorem be_cat (a b c d : BitVec 8) : be4 (cat4 a b c d) = [a, b, c, d] := by
  have ea : ((cat4 a b c d) >>> 24).setWidth 8 = a := BitVec.eq_of_getLsbD_eq fun i h => by
    rw [BitVec.getLsbD_setWidth, BitVec.getLsbD_ushiftRight, cat_bit, if_neg (by omega), if_neg (by omega), if_neg (by omega), if_pos (by omega), show 24 + i - 24 = i by omega]; simp [h]
  have eb : ((cat4 a b c d) >>> 16).setWidth 8 = b := BitVec.eq_of_getLsbD_eq fun i h => by
    rw [BitVec.getLsbD_setWidth, BitVec.getLsbD_ushiftRight, cat_bit, if_neg (by omega), if_neg (by omega), if_pos (by omega), show 16 + i - 16 = i by omega]; simp [h]
  have ec : ((cat4 a b c d) >>> 8).setWidth 8 = c := BitVec.eq_of_getLsbD_eq fun i h => by
    rw [BitVec.getLsbD_setWidth, BitVec.getLsbD_ushiftRight, cat_bit, if_neg (by omega), if_pos (by omega), show 8 + i - 8 = i by omega]; simp [h]
  have ed : (cat4 a b c d).setWidth 8 = d := BitVec.eq_of_getLsbD_eq fun i h => by
    rw [BitVec.getLsbD_setWidth, cat_bit, if_pos h]; simp [h]
  unfold be4; rw [ea, eb, ec, ed]

/-- four bytes are a sum's just if the sum of all is nought. -/
theorem seal_iff (s : BitVec 32) (a b c d : BitVec 8) : crcF s [a, b, c, d] = 0#32 ↔ be4 s = [a, b, c, d] := by
  rw [crc4]
  constructor
  · intro h
    have h1 := stpN_inj0 32 _ h
    have h2 : s = cat4 a b c d := by
      have := congrArg (· ^^^ cat4 a b c d) h1
      simpa [BitVec.xor_assoc] using this
    rw [h2, be_cat]
  · intro h
    have h2 : s = cat4 a b c d := by
      have h3 := cat_be s
      unfold be4 at h
      simp only [List.cons.injEq, and_true] at h
      rw [h.1, h.2.1, h.2.2.1, h.2.2.2] at h3
      exact h3.symm
    rw [h2, BitVec.xor_self, stpN_zero]

theorem crcF_drift (s d : BitVec 32) (q : List (BitVec 8)) : crcF (s ^^^ d) q = crcF s q ^^^ stpN (8 * q.length) d := by
  induction q generalizing s d with
  | nil => rfl
  | cons x q ih =>
    have e : wb (s ^^^ d) x = wb s x ^^^ stpN 8 d := by
      have := wb_xor s d x 0#8
      rw [BitVec.xor_zero, wb_zero] at this; exact this
    show crcF (wb (s ^^^ d) x) q = crcF (wb s x) q ^^^ _
    rw [e, ih, ← stpN_add]
    congr 2
    simp; omega
theorem two_xor (s : BitVec 32) (c0 c1 m0 m1 : BitVec 8) : crcF s [c0 ^^^ m0, c1 ^^^ m1] = crcF s [c0, c1] ^^^ wb (wb 0#32 m0) m1 := by
  show wb (wb s (c0 ^^^ m0)) (c1 ^^^ m1) = wb (wb s c0) c1 ^^^ _
  have e : wb s (c0 ^^^ m0) = wb s c0 ^^^ wb 0#32 m0 := by
    have := wb_xor s 0#32 c0 m0
    rwa [BitVec.xor_zero] at this
  rw [e, wb_xor]
theorem byt_zero (m : BitVec 8) (h : byt m = 0#32) : m = 0#8 := by
  have := be_cat m 0#8 0#8 0#8
  unfold cat4 at this
  rw [h] at this
  have h2 := List.cons.inj this
  rw [← h2.1]; decide
theorem two_zero (m0 m1 : BitVec 8) : wb (wb 0#32 m0) m1 = 0#32 ↔ m0 = 0#8 ∧ m1 = 0#8 := by
  constructor
  · intro h
    unfold wb at h
    have h1 := stpN_inj0 8 _ h
    rw [BitVec.zero_xor, ← st8 m1, ← stpN_xor] at h1
    have h2 := stpN_inj0 8 _ h1
    have h3 : cat4 m0 m1 0#8 0#8 = 0#32 := by unfold cat4; rw [h2]; decide
    have h4 := be_cat m0 m1 0#8 0#8
    rw [h3] at h4
    have h5 : be4 0#32 = [0#8, 0#8, 0#8, 0#8] := by decide
    rw [h5] at h4
    simp only [List.cons.injEq, and_true] at h4
    exact ⟨h4.1.symm, h4.2.symm⟩
  · rintro ⟨rfl, rfl⟩; decide
/-- of two neighbours that are mixed the sum tells just if they are other ones. -/
theorem found_iff (p q : List (BitVec 8)) (c0 c1 m0 m1 : BitVec 8) (h : crcF ones32 (p ++ [c0, c1] ++ q) = 0#32) :
    crcF ones32 (p ++ [c0 ^^^ m0, c1 ^^^ m1] ++ q) = 0#32 ↔ m0 = 0#8 ∧ m1 = 0#8 := by
  rw [crcF_append, crcF_append] at h ⊢
  rw [two_xor, crcF_drift, h, BitVec.zero_xor]
  constructor
  · intro h2; exact (two_zero m0 m1).1 (stpN_inj0 _ _ h2)
  · intro h2; rw [(two_zero m0 m1).2 h2, stpN_zero]
end Go.Proofs.U
