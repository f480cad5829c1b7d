/- Plain facts on numbers put as bytes and read back; no condition but what each states. -/
import Derived.Test.YtffdgbimpodopaaB7
import Derived.Test.YtffdgbimpodopaaBase2
namespace Go.Proofs.Ytffdgbimpodopaa
open Go.RowKit Go.Proofs.U

theorem leNum_leB (q : Nat) (x : Int) (h0 : 0 ≤ x) (h : x < 256 ^ q) : leNum (leB q x) = x := by
  induction q generalizing x with
  | zero => simp [leB, leNum] at *; omega
  | succ q ih =>
    simp only [leB, leNum]
    have hp : (0 : Int) < 256 ^ q := Int.pow_pos (by decide)
    rw [ih (x / 256) (by omega) (by rw [Int.pow_succ] at h; omega)]
    omega

theorem fits_pow (W : Nat) (hw : isW W = true) (x : Int) (h : fits W x = true) : x < 256 ^ W := by
  have hc : (W : Int) = 1 ∨ (W : Int) = 2 ∨ (W : Int) = 4 ∨ (W : Int) = 8 := by simpa [isW, or_assoc] using hw
  have hc' : W = 1 ∨ W = 2 ∨ W = 4 ∨ W = 8 := by omega
  rcases hc' with rfl | rfl | rfl | rfl <;> simpa [fits, lim] using h

theorem putB_drop (W : Nat) (l : List Int) (k : Nat) : (putB W l).drop (k * W) = putB W (l.drop k) := by
  induction k generalizing l with
  | zero => simp
  | succ k ih =>
    cases l with
    | nil => simp [putB]
    | cons x l =>
      have e : putB W (x :: l) = leB W x ++ putB W l := by simp [putB]
      rw [e, Nat.succ_mul, Nat.add_comm (k * W) W, ← List.drop_drop, List.drop_append]
      simp only [leB_length, Nat.sub_self, List.drop_zero]
      have e2 : (leB W x).drop W = [] := List.drop_of_length_le (by rw [leB_length]; exact Nat.le_refl _)
      rw [e2, List.nil_append, ih]
      rfl
theorem putB_piece (W : Nat) (l : List Int) (k : Nat) (h : k < l.length) : ((putB W l).drop (k * W)).take W = leB W l[k] := by
  rw [putB_drop, List.drop_eq_getElem_cons h]
  simp only [putB, List.flatMap_cons]
  rw [List.take_append, leB_length]
  simp [List.take_of_length_le, leB_length]

/-- A number that lies there whole is read. -/
theorem nm_whole (Z : List Int) (t W : Nat) (x : Int) (hw : isW W = true) (hl : t + W ≤ Z.length) (hz : (Z.drop t).take W = leB W x) (h0 : 0 ≤ x) (hx : fits W x = true) :
    nmV Z t false W = x ∧ nmT Z t false W = t + W ∧ nmF Z t false W = false := by
  have hk : tkOk Z t false W = true := by simp [tkOk]; omega
  refine ⟨?_, ?_, ?_⟩
  · simp only [nmV, hw, if_true, tkL, hk, Int.toNat_natCast, hz]
    exact leNum_leB W x h0 (fits_pow W hw x hx)
  · simp [nmT, hw, tkT, hk]
  · simp [nmF, hw, tkF, hk]
/-- One that doesn't isn't. -/
theorem nm_short (Z : List Int) (t W : Nat) (hw : isW W = true) (hl : Z.length < t + W) (ht : t ≤ Z.length) :
    nmV Z t false W = 0 ∧ nmT Z t false W = t ∧ nmF Z t false W = true := by
  have hk : tkOk Z t false W = false := by simp [tkOk]; omega
  refine ⟨?_, ?_, ?_⟩
  · simp [nmV, hw, tkL, hk, leNum]
  · simp [nmT, hw, tkT, hk]
  · simp [nmF, hw, tkF, hk]
end Go.Proofs.Ytffdgbimpodopaa
