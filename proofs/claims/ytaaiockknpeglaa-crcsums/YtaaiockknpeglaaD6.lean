/- The walk of CrcTwice: it answers true for all bytes. -/
import Derived.Test.YtaaiockknpeglaaC4
namespace Go.Proofs.Ytaaiockknpeglaa
open Go.RowKit Go.Proofs.U
set_option linter.unusedSimpArgs false
set_option linter.unusedVariables false

theorem seal_take (l : List Int) : (sealI l).take ((sealI l).length - 4) = l := by
  rw [sealI_length, sealI, Nat.add_sub_cancel, List.take_append, Nat.sub_self, List.take_zero, List.append_nil, List.take_length]
theorem ok_seal (l : List Int) : okI (sealI l) = true := by
  unfold okI; rw [seal_take, sealI_length]; simp
theorem opn_seal (l : List Int) : opnI (sealI l) = l := by
  unfold opnI; rw [ok_seal, if_pos rfl, seal_take]
theorem opn_len (l : List Int) : (opnI l).length ≤ l.length := by
  unfold opnI; split <;> simp

set_option maxHeartbeats 2000000 in
theorem twice_walk (v : Value) (l : List Int) (w : World) (h : SlI .u8 w v l) :
    Calls Try.prog 8 #[v] w fun e w' => e = .returned (.bool true) ∧ Below w.heap.size w w' := by
  obtain ⟨a1, c1, rfl, hc1⟩ := h.opn
  by_cases hA : (400 : Int) < (l.length : Int)
  · go_enter Try.func8, Try.ntmps8
    go_wp2_with (go_at_call 9; go_must (refine (alive_any _).mono ?_; rintro e w1 ⟨rfl, hf1⟩))
    go_ret
    exact ⟨rfl, hf1.below⟩
  have hX := sealI_length l
  have hXw := sealI_wf l h.2
  have Hox := Hid.mk (ok_seal l)
  have Hpx := Hid.mk (opn_seal l)
  obtain ⟨X, HX⟩ : ∃ X, Hid (sealI l = X) := ⟨_, rfl⟩
  rw [HX.out] at hX hXw Hox Hpx
  have hY := sealI_length X
  have hYw := sealI_wf X hXw
  have Hoy := Hid.mk (ok_seal X)
  have Hpy := Hid.mk (opn_seal X)
  obtain ⟨Y, HY⟩ : ∃ Y, Hid (sealI X = Y) := ⟨_, rfl⟩
  rw [HY.out] at hY hYw Hoy Hpy
  have HXl := Hid.mk hX
  have HYl := Hid.mk hY
  clear hX hY
  have hb8 : ((Y.length : Int) == (l.length : Int) + 8) = true := by have := HXl.out; have := HYl.out; simp; omega
  have hst : ((strOfNums l).toList == (strOfNums l).toList) = true := by simp
  go_enter Try.func8, Try.ntmps8
  go_wp2_with (go_at_call 9; go_must (refine (alive_any _).mono ?_; rintro e w1 ⟨rfl, hf1⟩; have s1 := h.fr0 hf1))
  refine (sealone_any _ _ _ _ s1 (by omega)).mono ?_
  rintro e w2 ⟨v2, rfl, ho2, hf2⟩
  rw [HX.out] at ho2
  have s2 := ho2.sl hXw
  obtain ⟨a2, c2, rfl, hc2⟩ := s2.opn
  go_wp2_with fail
  refine (sealone_any _ _ _ _ s2 (by have := HXl.out; omega)).mono ?_
  rintro e w3 ⟨v3, rfl, ho3, hf3⟩
  rw [HY.out] at ho3
  have s3 := ho3.sl hYw
  obtain ⟨a3, c3, rfl, hc3⟩ := s3.opn
  go_wp2_with fail
  refine (open_any _ _ _ s3 (by have := HXl.out; have := HYl.out; omega)).mono ?_
  rintro e w4 ⟨v4, rfl, s4, hf4⟩
  rw [Hoy.out]
  rw [Hpy.out] at s4
  obtain ⟨a4, c4, rfl, hc4⟩ := s4.opn
  go_wp2_with fail
  refine (open_any _ _ _ s4 (by have := HXl.out; omega)).mono ?_
  rintro e w5 ⟨v5, rfl, s5, hf5⟩
  rw [Hox.out]
  rw [Hpx.out] at s5
  obtain ⟨a5, c5, rfl, hc5⟩ := s5.opn
  have g5 := (((hf1.thenN hf2).thenN hf3).thenN hf4).thenN hf5
  have s50 := h.fr0 g5
  go_wp2_with fail
  refine (sealone_any _ _ _ _ s50 (by omega)).mono ?_
  rintro e w6 ⟨v6, rfl, ho6, hf6⟩
  rw [HX.out] at ho6
  have s6 := ho6.sl hXw
  obtain ⟨a6, c6, rfl, hc6⟩ := s6.opn
  have hl3 : l.length + 3 ≤ X.length := by have := HXl.out; omega
  have s6t := s6.takeN (l.length + 3) hl3
  have Hlt : Hid ((opnI (X.take (l.length + 3))).length < l.length + 1) := by
    show _ < _
    unfold opnI
    split
    · simp; omega
    · simp
  obtain ⟨Z, HZ⟩ : ∃ Z, Hid (X.take (l.length + 3) = Z) := ⟨_, rfl⟩
  have hZl : Z.length = l.length + 3 := by rw [← HZ.out]; simp; omega
  rw [HZ.out] at s6t Hlt
  go_wp2_with (refine at_cut 24 _ _ _ _ rfl ?_; go_must (refine wpList_cuth rfl 24 _ _ rfl 5 Try.underlying24 1 size5 a6 X.length c6 rfl _ _ (l.length + 3) rfl (by omega) (by omega) ?_))
  refine (open_any _ _ _ s6t (by omega)).mono ?_
  rintro e w7 ⟨v7, rfl, s7, hf7⟩
  obtain ⟨M, HM⟩ : ∃ M, Hid (opnI Z = M) := ⟨_, rfl⟩
  obtain ⟨B, HB⟩ : ∃ B, Hid (okI Z = B) := ⟨_, rfl⟩
  rw [HM.out] at s7 Hlt
  rw [HB.out]
  obtain ⟨a7, c7, rfl, hc7⟩ := s7.opn
  have g7 := (g5.thenN hf6).thenN hf7
  have hml : (M.length : Int) < (l.length : Int) + 1 := by have := Hlt.out; omega
  have s57 := (s5.fr0 hf6).fr0 hf7
  have s07 := h.fr0 g7
  go_wp2_with (refine at_conv 24 9 _ rfl ?_; first | (refine wpList_str rfl _ 24 9 5 rfl Try.underlying24 Try.underlying5 Try.underlying9 _ _ rfl s57 ?_) | (refine wpList_str rfl _ 24 9 5 rfl Try.underlying24 Try.underlying5 Try.underlying9 _ _ rfl s07 ?_))
  go_ret
  exact ⟨rfl, g7.below⟩
end Go.Proofs.Ytaaiockknpeglaa
