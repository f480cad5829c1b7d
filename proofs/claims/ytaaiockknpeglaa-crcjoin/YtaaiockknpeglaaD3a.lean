/- How bytes become a string; what is turned twice. -/
import Derived.Test.YtaaiockknpeglaaC4
namespace Go.Proofs.Ytaaiockknpeglaa
open Go.RowKit Go.Proofs.U

theorem conv_run {w : World} {v : Value} {l : List Int} (hS : SlI .u8 w v l) : (convert 24 9 v).run Try.prog w = .ok (.string (strOfNums l)) w := by
  obtain ⟨⟨ao, cap, rfl, hcap, hlen, hnone, hsome⟩, hwf⟩ := hS
  cases ao with
  | none =>
    obtain rfl := hnone rfl
    obtain rfl : l = [] := List.eq_nil_of_length_eq_zero (by omega)
    rw [run_convert_bytes_nil (P := Try.prog) w 24 5 Try.underlying24 Try.underlying5 _ _ 9 Try.underlying9]; rfl
  | some ad =>
    have hcell := hsome _ rfl
    by_cases hl0 : l.length = 0
    · obtain rfl : l = [] := List.eq_nil_of_length_eq_zero hl0
      have hl : (loadCells ad 0).run Try.prog w = .ok #[] w := by simpa using run_loadCells_list (P := Try.prog) w ad [] (by simp)
      rw [run_convert_bytes_string w 24 9 5 _ _ cap Try.underlying24 Try.underlying5 Try.underlying9]
      exact run_bytesToString w ad 0 cap [] hl
    obtain ⟨b, off, sp⟩ := ad
    have hsp : sp = none := by
      have := hcell 0 _ (List.getElem?_eq_getElem (by simp; omega))
      simpa [Addr.add] using World.cell?_spot this
    subst hsp
    refine run_convert_bytes_arg (P := Try.prog) w 24 5 Try.underlying24 Try.underlying5 b off l.length cap l rfl ?_ 9 Try.underlying9
    intro i hi
    have := hcell i (.int .u8 (l.getD i 0)) (by simp [List.getD, hi])
    have hadd : (⟨b, off, none⟩ : Addr).add i = ⟨b, off + i, none⟩ := by unfold Addr.add; split <;> simp_all
    rwa [hadd] at this

theorem xI_twice {a m : Int} (ha : 0 ≤ a) : xI (xI a m) m = a := by
  unfold xI
  rw [Int.toNat_natCast, Nat.xor_assoc, Nat.xor_self, Nat.xor_zero]; omega
theorem turn_twice (l : List Int) (at' m : Int) (hl : ∀ n ∈ l, (Lit.int .u8 n).wf = true) : turnI (turnI l at' m) at' m = l := by
  by_cases h : 0 ≤ at' ∧ at' < (l.length : Int)
  · have hj : at'.toNat < l.length := by omega
    have e1 : turnI l at' m = l.set at'.toNat (xI (l.getD at'.toNat 0) m) := by unfold turnI; rw [if_pos h]
    have hd : l.getD at'.toNat 0 = l[at'.toNat] := by simp [List.getD, hj]
    rw [e1, turnI, if_pos (by simpa using h), List.set_set]
    have e2 : (l.set at'.toNat (xI (l.getD at'.toNat 0) m)).getD at'.toNat 0 = xI (l.getD at'.toNat 0) m := by simp [List.getD, hj]
    rw [e2, hd, xI_twice (u8_bd (hl _ (by simp))).1]
    simp
  · have e1 : turnI l at' m = l := by unfold turnI; rw [if_neg h]
    rw [e1, e1]
end Go.Proofs.Ytaaiockknpeglaa
