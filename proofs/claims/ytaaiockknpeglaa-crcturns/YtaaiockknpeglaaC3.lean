/- Contracts of Open and Turn of package crc, and of crcAlive. -/
import Derived.Test.YtaaiockknpeglaaC2
import Derived.Test.YtaaiockknpeglaaB5a
namespace Go.Proofs.Ytaaiockknpeglaa
open Go.RowKit Go.Proofs.U

def okI (l : List Int) : Bool := decide (4 ≤ l.length) && decide (sealI (l.take (l.length - 4)) = l)
def opnI (l : List Int) : List Int := if okI l then l.take (l.length - 4) else []

set_option maxHeartbeats 1000000 in
theorem open_any (v : Value) (l : List Int) (w : World) (h : SlI .u8 w v l) (hb : l.length ≤ 1000000000000) :
    Calls Try.prog 14 #[v] w fun e w' => ∃ v', e = .returned (.tuple #[v', .bool (okI l)]) ∧ SlI .u8 w' v' (opnI l) ∧ Fr noB w w' := by
  obtain ⟨a, cap, rfl, hcap⟩ := h.opn
  by_cases h4 : (l.length : Int) - 4 < 0
  · have hok : okI l = false := by simp [okI]; omega
    rw [opnI, hok]
    go_enter Try.func14, Try.ntmps14
    go_wp2
    go_ret2
    exact ⟨_, rfl, SlI.nil _ _, Fr.refl _ _⟩
  · have ht := h.takeN (l.length - 4) (by omega)
    have Hok : Hid (decide (sealI (l.take (l.length - 4)) = l) = okI l) := by
      show _ = _
      simp [okI]; omega
    have hSl := sealI_wf _ ht.2
    have Hlen := Hid.mk (sealI_length (l.take (l.length - 4)))
    have hlt : (l.take (l.length - 4)).length = l.length - 4 := by simp
    have Hop : Hid (opnI l = if okI l then l.take (l.length - 4) else []) := rfl
    have HSt : Hid ((sealI (l.take (l.length - 4))).take (l.length - 4) = l.take (l.length - 4)) := by
      show _ = _
      rw [sealI, List.take_append, hlt, Nat.sub_self, List.take_zero, List.append_nil, List.take_of_length_le (by omega)]
    rw [hlt] at Hlen
    obtain ⟨M, HM⟩ : ∃ M, Hid (l.take (l.length - 4) = M) := ⟨_, rfl⟩
    rw [HM.out] at ht Hok hSl Hlen Hop HSt hlt
    obtain ⟨Y, HY⟩ : ∃ Y, Hid (sealI M = Y) := ⟨_, rfl⟩
    obtain ⟨B, HB⟩ : ∃ B, Hid (okI l = B) := ⟨_, rfl⟩
    rw [HY.out] at Hok hSl Hlen HSt
    rw [HB.out] at Hok Hop ⊢
    cases B with
    | false =>
      go_enter Try.func14, Try.ntmps14
      go_wp2_with (first
        | (refine at_cut 24 _ _ _ _ rfl ?_; go_must (refine wpList_cuth rfl 24 _ _ rfl 5 Try.underlying24 1 size5 _ _ _ rfl _ _ (l.length - 4) rfl (by omega) (by omega) ?_))
        | (go_at_call 12; go_must (refine (sealone_any _ _ _ _ ht (by omega)).mono ?_; rintro e w1 ⟨v1, rfl, ho1, hf1⟩; rw [HY.out] at ho1; have s1 := ho1.sl hSl; have s2 := h.fr0 hf1; obtain ⟨a1, c1, rfl, hc1⟩ := s1.opn))
        | (go_at_call 19; go_must (refine (equal_any _ _ _ _ _ s1 s2).mono ?_; rintro e w2 ⟨rfl, rfl⟩; rw [Hok.out])))
      go_ret2
      exact ⟨_, rfl, by rw [Hop.out]; exact SlI.nil _ _, hf1⟩
    | true =>
      go_enter Try.func14, Try.ntmps14
      go_wp2_with (first
        | (refine at_cut 24 _ _ _ _ rfl ?_; first | (refine wpList_cuth rfl 24 _ _ rfl 5 Try.underlying24 1 size5 a l.length cap rfl _ _ (l.length - 4) rfl (by omega) (by omega) ?_) | go_must (refine wpList_cuth rfl 24 _ _ rfl 5 Try.underlying24 1 size5 a1 Y.length c1 rfl _ _ (l.length - 4) rfl (by omega) (by have := Hlen.out; omega) ?_))
        | (go_at_call 12; go_must (refine (sealone_any _ _ _ _ ht (by omega)).mono ?_; rintro e w1 ⟨v1, rfl, ho1, hf1⟩; rw [HY.out] at ho1; have s1 := ho1.sl hSl; have s2 := h.fr0 hf1; obtain ⟨a1, c1, rfl, hc1⟩ := s1.opn))
        | (go_at_call 19; go_must (refine (equal_any _ _ _ _ _ s1 s2).mono ?_; rintro e w2 ⟨rfl, rfl⟩; rw [Hok.out])))
      go_ret2
      have s3 := s1.takeN (l.length - 4) (by have := Hlen.out; omega)
      rw [HSt.out] at s3
      exact ⟨_, rfl, by rw [Hop.out]; exact s3, hf1⟩
end Go.Proofs.Ytaaiockknpeglaa
