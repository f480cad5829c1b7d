/- Contract of the document's own polynomial. -/
import Derived.Test.YtaaiockknpeglaaE0
namespace Go.Proofs.Ytaaiockknpeglaa
open Go.RowKit Go.Proofs.U
set_option linter.unusedSimpArgs false
set_option linter.unusedVariables false

def pbits : List Bool := (List.range 32).map (fun i => polyB.getMsbD i)
theorem pbits_at : ∀ k : Fin 32, ((79764919 : Int) / 2 ^ k.val % 2 == 1) = pbits.getD (31 - k.val) false := by decide
def pdone (k : Nat) : List Bool := List.replicate (32 - k) false ++ pbits.drop (32 - k)
theorem pdone_set : ∀ k : Fin 32, (pdone k.val).set (31 - k.val) (pbits.getD (31 - k.val) false) = pdone (k.val + 1) := by decide
theorem pdone_len : ∀ k : Fin 33, (pdone k.val).length = 32 := by decide
theorem pdone_end : pdone 32 = pbits := by decide
theorem pdone_0 : pdone 0 = List.replicate 32 false := by decide
theorem pbits_len : pbits.length = 32 := by decide

theorem load32_run {w : World} {g : Nat} {bs : List Bool} (hA : Arr w g bs) (hl : bs.length = 32) : (loadVar 39 ⟨g, 0, none⟩).run Try.prog w = .ok (.agg (bv bs)) w := by
  refine run_loadVar_mid (P := Try.prog) w g 0 39 (bs.map Value.bool) _ ?_ Try.underlying39 rfl (by rw [info39]; simp [hl])
  intro j v hj
  rw [Nat.zero_add]
  have hjl : j < bs.length := by have := (List.getElem?_eq_some_iff.1 hj).1; simpa using this
  rw [(hA.cell j hjl).1]
  simp [hjl] at hj
  simp [List.getD, hjl, hj]

set_option maxHeartbeats 2000000 in
theorem poly_any (w : World) : Calls Try.prog 17 #[] w fun e w' => e = .returned (.agg (bv pbits)) ∧ Fr noB w w' := by
  go_enter Try.func17, Try.ntmps17
  go_wp2_with (first
    | (refine wpList_alloc32 rfl rfl w.heap.size rfl ?_; intro w1 hA1 hf1)
    | (refine wpList_alloc32 rfl rfl w1.heap.size rfl ?_; intro w2 hA2 hf2)
    | (refine wpList_build32 rfl rfl ?_; intro zs Hzs)
    | (refine wpList_store32 rfl _ _ rfl _ rfl _ _ rfl hA2 (by simp) (by rw [Hzs.out]; simp) ?_; intro w3 hA3 hf3 hs3))
  have g3 : Fr noB w w3 := (hf1.thenN hf2).thenT hf3 (fun i hi q => by have := hf1.size; unfold onG at q; omega)
  have hlt1 := hA1.lt
  have hA13 : Arr w3 w.heap.size (List.replicate 32 false) := (hA1.fr hf2 (fun q => q)).fr hf3 (fun q => by unfold onG at q; omega)
  rw [Hzs.out, ← pdone_0] at hA3
  clear hA1 hA2
  generalize hG : w1.heap.size = G at *
  clear hG
  go_loopw [2, 3] (fun n i wr => ∃ k : Nat, k ≤ 32 ∧ n = .int .u32 (79764919 / 2 ^ k) ∧ i = .int .i64 (31 - (k : Int)) ∧ Arr wr G (pdone k) ∧ Arr wr w.heap.size (List.replicate 32 false) ∧ Fr noB w wr) (fun _ i _ => (intOf i + 1).toNat)
  case atStart => exact ⟨0, by omega, by simp, by simp, hA3, hA13, g3⟩
  case round =>
    obtain ⟨k, hk, rfl, rfl, hA, hB, hf⟩ := hrel
    by_cases hlt : k < 32
    · have hpos : (0 : Int) ≤ 79764919 / 2 ^ k := Int.ediv_nonneg (by decide) (Int.le_of_lt (Int.pow_pos (by decide)))
      have hle : (79764919 : Int) / 2 ^ k ≤ 79764919 := Int.ediv_le_self _ (by decide)
      have Hst := Hid.mk (Int.ediv_ediv_of_nonneg (x := (79764919 : Int)) (y := 2 ^ k) (z := 2) (Int.le_of_lt (Int.pow_pos (by decide))))
      have Hb := Hid.mk (pbits_at ⟨k, hlt⟩)
      have Hs := Hid.mk (pdone_set ⟨k, hlt⟩)
      have Hl := Hid.mk (pdone_len ⟨k, by omega⟩)
      simp only at Hb Hs Hl
      obtain ⟨N, HN⟩ : ∃ N, Hid ((79764919 : Int) / 2 ^ k = N) := ⟨_, rfl⟩
      rw [HN.out] at hpos hle Hst Hb ⊢
      obtain ⟨j, hj⟩ : ∃ j : Nat, (31 : Int) - (k : Int) = (j : Int) := ⟨31 - k, by omega⟩
      have hj31 : j = 31 - k := by omega
      have HJ := Hid.mk hj
      rw [hj]
      have hj32 : (j : Int) < 32 := by omega
      obtain ⟨z1, z2⟩ := hA.cell j (by rw [Hl.out]; omega)
      rw [← hj31] at Hb Hs
      clear hj hj31
      go_wp2
      go_roundw
      case rel =>
        refine ⟨k + 1, by omega, by rw [Int.pow_succ, ← Hst.out], by have := HJ.out; congr 1; omega, ?_, hB.fr ((Fr.refl (onG G) wr).setCell _ _ (fun _ => rfl)) (fun q => by unfold onG at q; omega), hf.setCell _ _ (fun q => by simp only at q; omega)⟩
        rw [Hb.out, ← Hs.out]
        exact hA.set j _
      case measure => simp [intOf]
    · obtain rfl : k = 32 := by omega
      rw [pdone_end] at hA
      go_wp2_with (first
        | (refine wpList_load32 rfl _ rfl _ rfl _ hA pbits_len ?_)
        | (refine wpList_store32 rfl _ _ rfl _ rfl _ _ rfl hB (by simp) pbits_len ?_; intro w4 hA4 hf4 hs4))
      obtain ⟨t4, ht4⟩ := hA4
      refine bodyPost_ret (v := .agg (bv pbits)) ?_ rfl ⟨rfl, hf.thenT hf4 (fun i hi q => by unfold onG at q; omega)⟩
      exact results_cell_row Try.results17 _ w4 w.heap.size t4 (bv pbits) (0, 0) _ rfl ht4 Try.underlying39 rfl (by rw [info39, bv_size, pbits_len])
end Go.Proofs.Ytaaiockknpeglaa
