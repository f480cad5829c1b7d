/- Contract of the document's own sum. -/
import Derived.Test.YtaaiockknpeglaaE1
import Derived.Test.YtaaiockknpeglaaCM3
import Derived.Test.YtaaiockknpeglaaD3a
namespace Go.Proofs.Ytaaiockknpeglaa
open Go.RowKit Go.Proofs.U
set_option linter.unusedSimpArgs false
set_option linter.unusedVariables false

def bitAt (l : List Int) (n : Nat) : Bool := l.getD (n / 8) 0 / 2 ^ (7 - n % 8) % 2 == 1
def sN (l : List Int) : Nat → BitVec 32
  | 0 => ones32
  | n + 1 => rstep (sN l n) (bitAt l n)
theorem bit_of (c : Int) (h : 0 ≤ c ∧ c < 256) (r : Nat) : (c / 2 ^ r % 2 == 1) = (BitVec.ofInt 8 c).getLsbD r := by
  obtain ⟨C, rfl⟩ := Int.eq_ofNat_of_zero_le h.1
  rw [BitVec.ofInt_natCast, BitVec.getLsbD, BitVec.toNat_ofNat, Nat.mod_eq_of_lt (by omega), Nat.testBit_eq_decide_div_mod_eq]
  have e : (C : Int) / 2 ^ r % 2 = ((C / 2 ^ r % 2 : Nat) : Int) := by simp
  rw [e]
  by_cases hc : C / 2 ^ r % 2 = 1
  · rw [hc]; rfl
  · have : C / 2 ^ r % 2 = 0 := by omega
    rw [this]; rfl
theorem sN_bytes (l : List Int) (hw : ∀ n ∈ l, (Lit.int .u8 n).wf = true) (q : Nat) (hq : q ≤ l.length) : sN l (8 * q) = crcF ones32 ((l.take q).map (BitVec.ofInt 8)) := by
  induction q with
  | zero => rfl
  | succ q ih =>
    have hlt : q < l.length := by omega
    have hc := u8_bd (hw l[q] (by simp))
    have hd : l.getD q 0 = l[q] := by simp [List.getD, hlt]
    rw [List.take_succ_eq_append_getElem hlt, List.map_append, crcF_append, ← ih (by omega)]
    show sN l (8 * q + 8) = wb (sN l (8 * q)) (BitVec.ofInt 8 l[q])
    rw [wb_bits]
    have key : ∀ r, r ≤ 8 → sN l (8 * q + r) = (List.range r).foldl (fun t r => rstep t ((BitVec.ofInt 8 l[q]).getLsbD (7 - r))) (sN l (8 * q)) := by
      intro r
      induction r with
      | zero => intro _; rfl
      | succ r ihr =>
        intro h
        rw [List.range_succ, List.foldl_append, ← ihr (by omega)]
        show rstep (sN l (8 * q + r)) (bitAt l (8 * q + r)) = rstep _ _
        congr 1
        unfold bitAt
        rw [show (8 * q + r) / 8 = q by omega, show (8 * q + r) % 8 = r by omega, hd]
        exact bit_of _ hc _
    exact key 8 (by omega)
theorem sN_all (l : List Int) (hw : ∀ n ∈ l, (Lit.int .u8 n).wf = true) : ((sN l (8 * l.length)).toNat : Int) = crcI l := by
  rw [sN_bytes l hw l.length (Nat.le_refl _), List.take_length]; rfl

theorem size4 : (Try.prog.info? 4).map (·.size) = some 1 := by kernel_rfl
section
variable {w : World} {ops : Array Oper} {o : Oper} {a : Act} {K : Act → World → Prop} {Q : Exit → Act → World → Prop} {E : Prop}
theorem step_copy32 (hgd : o.guard = none) (d s : Operand) (ho : o.op = .call { callee := .builtin .copy, args := #[d, s], argTypes := #[41, 41] })
    (g g2 : Nat) (hd : a.eval d = .slice (some ⟨g, 0, none⟩) 32 32) (hs : a.eval s = .slice (some ⟨g2, 1, none⟩) 31 31) (zs bs : List Bool) (hA : Arr w g zs) (hB : Arr w g2 bs) (hz : zs.length = 32) (hb : bs.length = 32)
    (h : ∀ w', Arr w' g (bs.drop 1 ++ zs.drop 31) → Fr (onG g) w w' → w'.heap.size = w.heap.size → K (a.put o.dst (goInt 31)) w') : if Region.wanted o (yielded ops a.tmps) = true then Oper.wp Try.prog o a w K Q else E := by
  have hw : Region.wanted o (yielded ops a.tmps) = true := by simp [Region.wanted, hgd]
  rw [if_pos hw]
  obtain ⟨t, ht⟩ := hA
  have hcl : ((bs.drop 1).map Value.bool).length = 31 := by simp [hb]
  have hrun := run_copy_row (P := Try.prog) w 41 41 o.type 4 g 0 32 32 ⟨g2, 1, none⟩ 31 31 (bv zs) t ((bs.drop 1).map Value.bool) Try.underlying41 size4 ht (by rw [hcl]; decide) (fun j v hv => by
      rw [Addr.plain]
      have hj : j < 31 := by have := (List.getElem?_eq_some_iff.1 hv).1; omega
      have hj2 : 1 + j < bs.length := by omega
      rw [(hB.cell (1 + j) hj2).1]
      rw [List.getElem?_map, List.getElem?_drop, List.getElem?_eq_getElem hj2] at hv
      simp only [Option.map_some, Option.some.injEq] at hv
      rw [← hv]; simp [List.getD, hj2]) (by rw [hcl, bv_size]; omega) (by
      intro v hv; obtain ⟨x, _, rfl⟩ := List.mem_map.1 hv; rfl)
  rw [hcl] at hrun
  unfold Oper.wp
  simp only [execOp, ho]
  simp [resolve, invoke, builtin, hd, hs, hrun, Result.andThen]
  refine h _ ⟨t, ?_⟩ ?_ (by simp [World.setRow])
  · rw [setRow_heap w g _ _ t _ ht]
    congr 2
    simp [bv]
  · exact ⟨rfl, rfl, rfl, by simp [World.setRow], fun k hk hn => setRow_other w g k _ (fun q => hn q)⟩
end
end Go.Proofs.Ytaaiockknpeglaa
