/- Plain facts on a sum of bytes by division of polynomials; no condition. -/
namespace Go.Proofs.U

def polyB : BitVec 32 := 0x04c11db7#32
def ones32 : BitVec 32 := 0xffffffff#32
def stp (s : BitVec 32) : BitVec 32 := (s <<< 1) ^^^ (if s.msb then polyB else 0#32)
def stpN : Nat → BitVec 32 → BitVec 32
  | 0, s => s
  | n + 1, s => stpN n (stp s)
def byt (c : BitVec 8) : BitVec 32 := c.setWidth 32 <<< 24
def wb (s : BitVec 32) (c : BitVec 8) : BitVec 32 := stpN 8 (s ^^^ byt c)
def crcF (s : BitVec 32) (l : List (BitVec 8)) : BitVec 32 := l.foldl wb s

theorem xor4 (a b c d : BitVec 32) : (a ^^^ b) ^^^ (c ^^^ d) = (a ^^^ c) ^^^ (b ^^^ d) := by
  rw [BitVec.xor_assoc, ← BitVec.xor_assoc b c d, BitVec.xor_comm b c, BitVec.xor_assoc c b d, ← BitVec.xor_assoc]
theorem stp_xor (a b : BitVec 32) : stp (a ^^^ b) = stp a ^^^ stp b := by
  unfold stp
  rw [BitVec.shiftLeft_xor_distrib, BitVec.msb_xor, xor4]
  congr 1
  cases a.msb <;> cases b.msb <;> simp
theorem stp_zero : stp 0#32 = 0#32 := by decide
theorem stpN_xor (n : Nat) (a b : BitVec 32) : stpN n (a ^^^ b) = stpN n a ^^^ stpN n b := by
  induction n generalizing a b with
  | zero => rfl
  | succ n ih => rw [stpN, stp_xor, ih]; rfl
theorem stpN_zero (n : Nat) : stpN n 0#32 = 0#32 := by
  induction n with
  | zero => rfl
  | succ n ih => rw [stpN, stp_zero, ih]
theorem stpN_add (m n : Nat) (a : BitVec 32) : stpN (m + n) a = stpN n (stpN m a) := by
  induction m generalizing a with
  | zero => simp [stpN]
  | succ m ih => rw [Nat.succ_add, stpN, ih, stpN]
theorem stpN_snoc (n : Nat) (a : BitVec 32) : stpN (n + 1) a = stp (stpN n a) := by rw [stpN_add]; rfl
theorem stp_inj0 (a : BitVec 32) (h : stp a = 0#32) : a = 0#32 := by
  unfold stp at h
  cases hm : a.msb with
  | true =>
    rw [hm] at h
    have := congrArg (fun x : BitVec 32 => x.getLsbD 0) h
    simp [polyB] at this
  | false =>
    rw [hm] at h
    simp at h
    apply BitVec.eq_of_getLsbD_eq
    intro i hi
    by_cases h31 : i = 31
    · subst h31; simpa [BitVec.msb_eq_getLsbD_last] using hm
    · have := congrArg (fun x : BitVec 32 => x.getLsbD (i + 1)) h
      simp at this
      have := this (by omega)
      simpa using this
theorem stpN_inj0 (n : Nat) (a : BitVec 32) (h : stpN n a = 0#32) : a = 0#32 := by
  induction n generalizing a with
  | zero => exact h
  | succ n ih => exact stp_inj0 _ (ih _ h)
theorem byt_xor (a b : BitVec 8) : byt (a ^^^ b) = byt a ^^^ byt b := by
  unfold byt; rw [BitVec.setWidth_xor, BitVec.shiftLeft_xor_distrib]
theorem wb_xor (s t : BitVec 32) (a b : BitVec 8) : wb (s ^^^ t) (a ^^^ b) = wb s a ^^^ wb t b := by
  unfold wb; rw [byt_xor, xor4, stpN_xor]
theorem crcF_xor (s t : BitVec 32) (l m : List (BitVec 8)) (h : l.length = m.length) : crcF (s ^^^ t) (List.zipWith (· ^^^ ·) l m) = crcF s l ^^^ crcF t m := by
  induction l generalizing m s t with
  | nil => cases m with
    | nil => rfl
    | cons _ _ => simp at h
  | cons x l ih => cases m with
    | nil => simp at h
    | cons y m =>
      simp at h
      simp only [crcF, List.zipWith_cons_cons, List.foldl_cons] at ih ⊢
      rw [wb_xor]; exact ih _ _ _ h
theorem crcF_append (s : BitVec 32) (l m : List (BitVec 8)) : crcF s (l ++ m) = crcF (crcF s l) m := by simp [crcF]
theorem wb_zero (s : BitVec 32) : wb s 0#8 = stpN 8 s := by
  unfold wb; congr 1; simp [byt]
theorem crcF_zeros (s : BitVec 32) (n : Nat) : crcF s (List.replicate n 0#8) = stpN (8 * n) s := by
  induction n generalizing s with
  | zero => rfl
  | succ n ih => rw [List.replicate_succ, crcF, List.foldl_cons, wb_zero]; show crcF _ _ = _; rw [ih, ← stpN_add]; congr 1; omega

/-- the four bytes of a sum, the highest first. -/
def be4 (s : BitVec 32) : List (BitVec 8) := [(s >>> 24).setWidth 8, (s >>> 16).setWidth 8, (s >>> 8).setWidth 8, s.setWidth 8]
theorem stp_small (x : BitVec 32) (h : x.msb = false) : stp x = x <<< 1 := by unfold stp; rw [h]; simp
theorem stpN_small (n : Nat) (x : BitVec 32) (h : ∀ i, i < n → (x <<< i).msb = false) : stpN n x = x <<< n := by
  induction n with
  | zero => simp [stpN]
  | succ n ih =>
    rw [stpN_snoc, ih (fun i hi => h i (by omega)), stp_small _ (h n (by omega)), ← BitVec.shiftLeft_add]
end Go.Proofs.U
