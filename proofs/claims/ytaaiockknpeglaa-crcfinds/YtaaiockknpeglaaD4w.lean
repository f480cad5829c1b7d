/- The walk of CrcFinds: it answers true for all bytes, places and masks. -/
import Derived.Test.YtaaiockknpeglaaD4
import Derived.Deep.RegionHeld3
namespace Go.Proofs.Ytaaiockknpeglaa
open Go.RowKit Go.Proofs.U
set_option linter.unusedSimpArgs false
set_option linter.unusedVariables false

theorem eq2 (a b c d : Int) (w : World) : (Op.equalIn 10000 36 (.agg #[.int .u8 a, .int .u8 b]) (.agg #[.int .u8 c, .int .u8 d])).run Try.prog w = .ok (a == c && b == d) w := by
  have u3 := Try.underlying5
  have a3 := Try.isAgg5
  have z3 := Try.sizeOf5
  rw [show (10000 : Nat) = 9999 + 1 from rfl, Op.equalIn]
  simp only [Sem.run_bind, run_underlying Try.underlying36, Result.andThen_ok]
  simp only [Std.Legacy.Range.forIn_eq_forIn_range', Std.Legacy.Range.size, Nat.sub_zero, Nat.add_sub_cancel, Nat.div_one, List.range'_succ, List.range'_zero, List.forIn_cons, List.forIn_nil]
  go_simp
  by_cases h1 : a = c <;> by_cases h2 : b = d <;> simp [h1, h2]

set_option maxHeartbeats 2000000 in
theorem finds_walk (v : Value) (l : List Int) (at' : Int) (m0 m1 : Int) (w : World) (h : SlI .u8 w v l) (ha : (Lit.int .i64 at').wf = true) (hm0 : (Lit.int .u8 m0).wf = true) (hm1 : (Lit.int .u8 m1).wf = true) :
    Calls Try.prog 6 #[v, .int .i64 at', .agg #[.int .u8 m0, .int .u8 m1]] w fun e w' => e = .returned (.bool true) ∧ Below w.heap.size w w' := by
  obtain ⟨a1, c1, rfl, hc1⟩ := h.opn
  have q0 := u8_bd hm0
  have q1 := u8_bd hm1
  have h' := h.fr0 ((Fr.refl noB w).alloc (.cells #[.int .u8 m0, .int .u8 m1] 36))
  by_cases hA : (500 : Int) < (l.length : Int)
  · go_enter Try.func6, Try.ntmps6
    go_wp2_with (go_at_call 9; go_must (refine (alive_any _).mono ?_; rintro e w1 ⟨rfl, hf1⟩))
    go_ret
    exact ⟨rfl, (((Fr.refl _ _).alloc _).thenN hf1).below⟩
  by_cases hB : at' < 0
  · go_enter Try.func6, Try.ntmps6
    go_wp2_with (go_at_call 9; go_must (refine (alive_any _).mono ?_; rintro e w1 ⟨rfl, hf1⟩))
    go_ret
    exact ⟨rfl, (((Fr.refl _ _).alloc _).thenN hf1).below⟩
  by_cases hC : (l.length : Int) + 3 ≤ at'
  · go_enter Try.func6, Try.ntmps6
    go_wp2_with (go_at_call 9; go_must (refine (alive_any _).mono ?_; rintro e w1 ⟨rfl, hf1⟩))
    go_ret
    exact ⟨rfl, (((Fr.refl _ _).alloc _).thenN hf1).below⟩
  obtain ⟨k, rfl⟩ := Int.eq_ofNat_of_zero_le (show 0 ≤ at' by omega)
  have hX := sealI_length l
  have hXw := sealI_wf l h.2
  have Hox := Hid.mk (ok_seal l)
  have Hpx := Hid.mk (opn_seal l)
  have Hfi := Hid.mk (finds l h.2 k (by omega) m0 m1 q0 q1)
  obtain ⟨X, HX⟩ : ∃ X, Hid (sealI l = X) := ⟨_, rfl⟩
  rw [HX.out] at hX hXw Hox Hpx Hfi
  have hYw := turnI_wf X k m0 hXw q0
  have hYl := turnI_length X k m0
  obtain ⟨Y, HY⟩ : ∃ Y, Hid (turnI X k m0 = Y) := ⟨_, rfl⟩
  rw [HY.out] at hYw hYl Hfi
  have hZw := turnI_wf Y ((k : Int) + 1) m1 hYw q1
  have hZl := turnI_length Y ((k : Int) + 1) m1
  obtain ⟨Z, HZ⟩ : ∃ Z, Hid (turnI Y ((k : Int) + 1) m1 = Z) := ⟨_, rfl⟩
  rw [HZ.out] at hZw hZl Hfi
  have HXl := Hid.mk hX
  have HYl := Hid.mk hYl
  have HZl := Hid.mk hZl
  clear hX hYl hZl
  obtain ⟨ob, Hob⟩ : ∃ o, Hid (o = Obj.cells #[Value.int .u8 m0, .int .u8 m1] 36) := ⟨_, rfl⟩
  have hwr : IntKind.i64.wrap ((k : Int) + 1) = (k : Int) + 1 := by simp [IntKind.wrap, IntKind.bits, IntKind.signed]; omega
  go_enter Try.func6, Try.ntmps6
  go_wp2_with (first
    | (go_at_call 9; go_must (refine (alive_any _).mono ?_; rintro e w1 ⟨rfl, hf1⟩; have s1 := h'.fr0 hf1; have b0 := hf1.cell (p := ⟨w.heap.size, 0, none⟩) (v := .int .u8 m0) (by simp) (fun q => q); have b1 := hf1.cell (p := ⟨w.heap.size, 1, none⟩) (v := .int .u8 m1) (by simp) (fun q => q)))
    | (go_at_call 12; go_must (refine (sealone_any _ _ _ _ s1 (by omega)).mono ?_; rintro e w2 ⟨v2, rfl, ho2, hf2⟩; rw [HX.out] at ho2; have s2 := ho2.sl hXw; obtain ⟨a2, c2, rfl, hc2⟩ := s2.opn; have b02 := hf2.cell b0 (fun q => q); have b12 := hf2.cell b1 (fun q => q))))
  clear b0 b1
  have dr : Fr noB w2 w2.drew := (Fr.refl _ _).drew
  have b0d : w2.drew.cell? ⟨w.heap.size, 0, none⟩ = some (.int .u8 m0) := dr.cell b02 (fun q => q)
  have b1d : w2.drew.cell? ⟨w.heap.size, 1, none⟩ = some (.int .u8 m1) := dr.cell b12 (fun q => q)
  have s2d := s2.fr0 dr
  go_region_held3 (fun w' => w'.cell? ⟨w.heap.size, 0, none⟩ = some (.int .u8 m0) ∧ w'.cell? ⟨w.heap.size, 1, none⟩ = some (.int .u8 m1)) (first | exact ⟨b04, b14⟩ | exact ⟨b03, b13⟩ | exact ⟨b0d, b1d⟩)
    ((first
      | (go_at_call 16; refine (turn_any (.slice a3 Y.length c3) Y ((k : Int) + 1) m1 _ s3 (by have := HXl.out; have := HYl.out; omega) q1).mono ?_; rintro e w4 ⟨v4, rfl, ho4, hf4⟩; rw [HZ.out] at ho4; have s4 := ho4.sl hZw; obtain ⟨a4, c4, rfl, hc4⟩ := s4.opn; have b04 := hf4.cell b03 (fun q => q); have b14 := hf4.cell b13 (fun q => q))
      | (go_at_call 16; refine (turn_any (.slice a2 X.length c2) X (k : Int) m0 _ s2d (by have := HXl.out; omega) q0).mono ?_; rintro e w3 ⟨v3, rfl, ho3, hf3⟩; rw [HY.out] at ho3; have s3 := ho3.sl hYw; obtain ⟨a3, c3, rfl, hc3⟩ := s3.opn; have b03 := hf3.cell b0d (fun q => q); have b13 := hf3.cell b1d (fun q => q))))
  clear b0d b1d b02 b12 b03 b13
  have g4 : Fr noB w w4 := ((((((Fr.refl _ _).alloc _).thenN hf1).thenN hf2).thenN dr).thenN hf3).thenN hf4
  have s24 := (s2d.fr0 hf3).fr0 hf4
  go_wp2_with fail
  refine (open_any _ _ _ s24 (by have := HXl.out; omega)).mono ?_
  rintro e w5 ⟨v5, rfl, s5, hf5⟩
  rw [Hox.out]
  rw [Hpx.out] at s5
  obtain ⟨a5, c5, rfl, hc5⟩ := s5.opn
  go_wp2_with fail
  refine (open_any _ _ _ (s4.fr0 hf5) (by have := HXl.out; have := HYl.out; have := HZl.out; omega)).mono ?_
  rintro e w6 ⟨v6, rfl, s6, hf6⟩
  rw [Hfi.out]
  obtain ⟨a6, c6, rfl, hc6⟩ := s6.opn
  have s56 := s5.fr0 hf6
  have g6 := (g4.thenN hf5).thenN hf6
  have s06 := h.fr0 g6
  have b06 := hf6.cell (hf5.cell b04 (fun q => q)) (fun q => q)
  have b16 := hf6.cell (hf5.cell b14 (fun q => q)) (fun q => q)
  have hst : ((strOfNums l).toList == (strOfNums l).toList) = true := by simp
  clear b04 b14
  have heq := eq2 m0 m1 0 0 w6
  have hbb : ((decide (m0 = 0) && decide (m1 = 0)) == (m0 == 0 && m1 == 0)) = true := by
    by_cases x0 : m0 = 0 <;> by_cases x1 : m1 = 0 <;> simp [x0, x1]
  go_wp2_with (refine at_conv 24 9 _ rfl ?_; first | (refine wpList_str rfl _ 24 9 5 rfl Try.underlying24 Try.underlying5 Try.underlying9 (.slice a5 l.length c5) _ rfl s56 ?_) | (refine wpList_str rfl _ 24 9 5 rfl Try.underlying24 Try.underlying5 Try.underlying9 (.slice a1 l.length c1) _ rfl s06 ?_))
  go_ret
  exact ⟨rfl, g6.below⟩
end Go.Proofs.Ytaaiockknpeglaa
