/- Contract of the document's own sum. -/
import Derived.Test.YtaaiockknpeglaaE2
import Derived.Deep.RegionHeld3
namespace Go.Proofs.Ytaaiockknpeglaa
open Go.RowKit Go.Proofs.U
set_option linter.unusedSimpArgs false
set_option linter.unusedVariables false

def ones (k : Nat) : List Bool := List.replicate k true ++ List.replicate (32 - k) false
theorem ones_set : ∀ k : Fin 32, (ones k.val).set k.val true = ones (k.val + 1) := by decide
theorem ones_len : ∀ k : Fin 33, (ones k.val).length = 32 := by decide
theorem ones_0 : ones 0 = List.replicate 32 false := by decide
theorem ones_end : ones 32 = bitsM ones32 := by decide

set_option maxHeartbeats 4000000 in
theorem rof_any (v : Value) (l : List Int) (w : World) (h : SlI .u8 w v l) (hb : l.length ≤ 1000000000000) :
    Calls Try.prog 10 #[v] w fun e w' => e = .returned (.int .u32 (crcI l)) ∧ Fr noB w w' := by
  obtain ⟨a1, c1, rfl, hc1⟩ := h.opn
  have Hall := Hid.mk (sN_all l h.2)
  go_enter Try.func10, Try.ntmps10
  go_wp2_with (first
    | (refine wpList_alloc32 rfl rfl w.heap.size rfl ?_; intro w1 hA1 hf1)
    | (refine wpList_build32 rfl rfl ?_; intro zs Hzs)
    | (refine wpList_store32 rfl _ _ rfl _ rfl _ _ rfl hA1 (by simp) (by rw [Hzs.out]; simp) ?_; intro w2 hA2 hf2 hs2))
  rw [Hzs.out, ← ones_0] at hA2
  have g2 : Fr noB w w2 := hf1.thenT hf2 (fun i hi q => by unfold onG at q; omega)
  generalize hG : w.heap.size = G at *
  have HG := Hid.mk hG
  clear hG hA1 hs2
  go_loopw [15] (fun i wr => ∃ k : Nat, k ≤ 32 ∧ i = .int .i64 k ∧ Arr wr G (ones k) ∧ Fr noB w wr) (fun i _ => 32 - (intOf i).toNat)
  case atStart => exact ⟨0, by omega, rfl, hA2, g2⟩
  case round =>
    obtain ⟨k, hk, rfl, hA, hf⟩ := hrel
    by_cases hlt : k < 32
    · have Hs := Hid.mk (ones_set ⟨k, hlt⟩)
      have Hl := Hid.mk (ones_len ⟨k, by omega⟩)
      simp only at Hs Hl
      obtain ⟨z1, z2⟩ := hA.cell k (by rw [Hl.out]; omega)
      go_wp2
      go_roundw
      case rel => exact ⟨k + 1, by omega, by go_num, by rw [← Hs.out]; exact hA.set k _, hf.setCell _ _ (fun q => by have := HG.out; simp only at q; omega)⟩
      case measure => simp [intOf]; omega
    · obtain rfl : k = 32 := by omega
      rw [ones_end] at hA
      go_wp2_with (first
        | (go_at_call 17; go_must (refine (poly_any _).mono ?_; rintro e w3 ⟨rfl, hf3⟩; have hA3 := hA.fr hf3 (fun q => q)))
        | (refine wpList_alloc32 rfl rfl w3.heap.size rfl ?_; intro w4 hP4 hf4; have hA4 := hA3.fr hf4 (fun q => q))
        | (refine wpList_store32 rfl _ _ rfl _ rfl _ _ rfl hP4 (by simp) pbits_len ?_; intro w5 hP5 hf5 hs5))
      have hne : G ≠ w3.heap.size := by have := hA3.lt; omega
      have hA5 := hA4.fr hf5 (fun q => by unfold onG at q; omega)
      have g5 : Fr noB w w5 := ((hf.thenN hf3).thenN hf4).thenT hf5 (fun i hi q => by have := hf.size; have := hf3.size; unfold onG at q; omega)
      have hwH : w.heap.size ≤ w3.heap.size := by have := hf.size; have := hf3.size; omega
      generalize hH : w3.heap.size = H at *
      clear hH hP4 hA3 hA4 hs5 hf5 hf4 hf3
      have e0 : bitsM ones32 = bitsM (sN l 0) := rfl
      rw [e0] at hA5
      go_loopw [6] (fun i wr => ∃ n : Nat, n ≤ 8 * l.length ∧ i = .int .i64 n ∧ Arr wr G (bitsM (sN l n)) ∧ Arr wr H pbits ∧ Fr noB w wr) (fun i _ => 8 * l.length - (intOf i).toNat)
      case atStart => exact ⟨0, by omega, rfl, hA5, hP5, g5⟩
      case round =>
        obtain ⟨n, hn, rfl, hA, hP, hf⟩ := hrel
        by_cases hlt : n < 8 * l.length
        · have hq : n / 8 < l.length := by omega
          have hS := (h.fr0 hf).1
          have hcb := u8_bd (h.2 l[n / 8] (by simp))
          have hd : l.getD (n / 8) 0 = l[n / 8] := by simp [List.getD, hq]
          have Hbit : Hid (bitAt l n = (l[n / 8] / 2 ^ (7 - n % 8) % 2 == 1)) := by show _ = _; unfold bitAt; rw [hd]
          have hi1 : (n : Int) < 8 * (l.length : Int) := by omega
          obtain ⟨z1, z2⟩ := hA.cell 0 (by rw [bitsM_len]; omega)
          rw [bitsM_get _ 0 (by omega)] at z1
          generalize l[n / 8] = c at *
          go_wp2_with (first
            | (refine wpList_idx1 rfl 24 _ _ rfl 5 Try.underlying24 size5 _ _ _ rfl hS _ _ (n / 8) rfl (by omega) hq ?_; intro p u hu hc; obtain rfl := getu _ _ _ _ hu; rw [hd] at hc)
            | (refine wpList_alloc32 rfl rfl wr.heap.size rfl ?_; intro w6 hN6 hf6)
            | (refine wpList_build32 rfl rfl ?_; intro zs2 Hzs2)
            | (refine wpList_store32 rfl _ _ rfl _ rfl _ _ rfl hN6 (by simp) (by rw [Hzs2.out]; simp) ?_; intro w7 hN7 hf7 hs7))
          have hx0 : 0 ≤ c / 2 ^ (7 - n % 8) := Int.ediv_nonneg hcb.1 (Int.le_of_lt (Int.pow_pos (by decide)))
          have hBt : ((c / 2 ^ (7 - n % 8)).tmod 2 == 1) = bitAt l n := by rw [Hbit.out, Int.tmod_eq_emod_of_nonneg hx0]
          rw [hBt]
          clear hBt
          have Hstep : Hid (sN l (n + 1) = rstep (sN l n) (bitAt l n)) := rfl
          generalize bitAt l n = B at *
          generalize sN l n = s at *
          have hT : (!(s.getMsbD 0 == B)) = (s.getMsbD 0 != B) := rfl
          rw [hT]
          generalize hTT : (s.getMsbD 0 != B) = T at *
          have HT := Hid.mk hTT
          clear hTT hT
          have hG7 : G < w7.heap.size := by have := hA.lt; have := hf6.size; omega
          have hA7 : Arr w7 G (bitsM s) := (hA.fr hf6 (fun q => q)).fr hf7 (fun q => by have := hA.lt; unfold onG at q; omega)
          have hP7 : Arr w7 H pbits := (hP.fr hf6 (fun q => q)).fr hf7 (fun q => by have := hP.lt; unfold onG at q; omega)
          have g7 : Fr noB w w7 := (hf.thenN hf6).thenT hf7 (fun i hi q => by have := hf.size; unfold onG at q; omega)
          have hnG : G ≠ wr.heap.size := by have := hA.lt; omega
          have hnH : H ≠ wr.heap.size := by have := hP.lt; omega
          have hwN : w.heap.size ≤ wr.heap.size := hf.size
          generalize hNN : wr.heap.size = N at *
          clear hNN hN6 hf6 hf7 z1 z2
          have dr : Fr noB w7 w7.drew := (Fr.refl _ _).drew
          have hN7d := hN7.fr dr (fun q => q)
          have hA7d := hA7.fr dr (fun q => q)
          go_region_held3 (fun _ => True) (trivial) ((refine step_copy32 rfl _ _ rfl N G rfl rfl zs2 (bitsM s) hN7d hA7d (by rw [Hzs2.out]; simp) (bitsM_len _) ?_; intro w8 hN8 hf8 hs8))
          have e31 : (bitsM s).drop 1 ++ zs2.drop 31 = nx s B 0 := by rw [Hzs2.out, nx_zero, ← bitsM_shift]; rfl
          rw [e31] at hN8
          have hA8 := hA7d.fr hf8 (fun q => by unfold onG at q; omega)
          have hP8 := (hP7.fr dr (fun q => q)).fr hf8 (fun q => by unfold onG at q; omega)
          have g8 : Fr noB w w8 := (g7.thenN dr).thenT hf8 (fun i hi q => by unfold onG at q; omega)
          clear hN7d hA7d hN7 hA7 hP7 e31
          have Hrb := Hid.mk (rstep_bit s B)
          rw [HT.out] at Hrb
          go_wp2_with fail
          go_loopw [48] (fun i wr' => ∃ k : Nat, k ≤ 32 ∧ i = .int .i64 k ∧ Arr wr' N (nx s B k) ∧ Arr wr' G (bitsM s) ∧ Arr wr' H pbits ∧ Fr noB w wr') (fun i _ => 32 - (intOf i).toNat)
          case atStart => exact ⟨0, by omega, rfl, hN8, hA8, hP8, g8⟩
          case round =>
            obtain ⟨k, hk, rfl, hN, hA, hP, hf⟩ := hrel
            by_cases hk32 : k < 32
            · have Hg := Hid.mk (nx_get s B k hk32)
              have Hl := Hid.mk (nx_len s B k hk)
              have Hr := Hid.mk (Hrb.out k hk32)
              have Hset := Hid.mk (nx_set s B k hk32)
              have Hsame := Hid.mk (nx_same s B k hk32)
              have hki : (k : Int) < 32 := by omega
              have hpk : pbits.getD k false = polyB.getMsbD k := by simp [pbits, List.getD, hk32]
              obtain ⟨p1, p2⟩ := hP.cell k (by rw [pbits_len]; omega)
              obtain ⟨n1, n2⟩ := hN.cell k (by rw [Hl.out]; omega)
              rw [Hg.out] at n1
              rw [hpk] at p1
              generalize polyB.getMsbD k = pk at *
              generalize (s <<< 1).getMsbD k = bk at *
              cases T with
              | false =>
                go_wp2
                go_roundw
                case rel => exact ⟨k + 1, by omega, by go_num, by rw [← Hsame.out (by rw [Hr.out]; simp)]; exact hN, hA, hP, hf⟩
                case measure => simp [intOf]; omega
              | true =>
                cases pk with
                | false =>
                  go_wp2
                  go_roundw
                  case rel => exact ⟨k + 1, by omega, by go_num, by rw [← Hsame.out (by rw [Hr.out]; simp)]; exact hN, hA, hP, hf⟩
                  case measure => simp [intOf]; omega
                | true =>
                  go_wp2
                  go_roundw
                  case rel =>
                    refine ⟨k + 1, by omega, by go_num, ?_, hA.fr ((Fr.refl (onG N) _).setCell _ _ (fun _ => rfl)) (fun q => by unfold onG at q; omega), hP.fr ((Fr.refl (onG N) _).setCell _ _ (fun _ => rfl)) (fun q => by unfold onG at q; omega), hf.setCell _ _ (fun q => by simp only at q; omega)⟩
                    rw [← Hset.out, Hr.out]
                    have e9 : (bk != (true && true)) = !bk := by cases bk <;> rfl
                    rw [e9]
                    exact hN.set k _
                  case measure => simp [intOf]; omega
            · obtain rfl : k = 32 := by omega
              rw [nx_end] at hN
              go_wp2_with (first
                | (refine wpList_load32 rfl _ rfl _ rfl _ hN (bitsM_len _) ?_)
                | (refine wpList_store32 rfl _ _ rfl _ rfl _ _ rfl hA (bitsM_len _) (bitsM_len _) ?_; intro w9 hA9 hf9 hs9))
              go_roundw
              case rel => exact ⟨n + 1, by omega, by go_num, by rw [Hstep.out]; exact hA9, hP.fr hf9 (fun q => by unfold onG at q; omega), hf.thenT hf9 (fun i hi q => by have := HG.out; unfold onG at q; omega)⟩
              case measure => simp [intOf]; omega
        · obtain rfl : n = 8 * l.length := by omega
          go_wp2_with (refine wpList_load32 rfl _ rfl _ rfl _ hA (bitsM_len _) ?_)
          generalize sN l (8 * l.length) = s at *
          have hs32 := s.isLt
          go_loop [11, 66] (fun x i => ∃ k : Nat, k ≤ 32 ∧ i = .int .i64 k ∧ x = .int .u32 ((s.toNat / 2 ^ (32 - k) : Nat) : Int)) (fun _ i => 32 - (intOf i).toNat)
          case atStart => exact ⟨0, by omega, rfl, by rw [Nat.div_eq_of_lt (by simpa using hs32)]; rfl⟩
          case round =>
            obtain ⟨k, hk, rfl, rfl⟩ := hrel
            by_cases hk32 : k < 32
            · have Hns := Hid.mk (num_step s k hk32)
              have hle : s.toNat / 2 ^ (31 - k) ≤ s.toNat := Nat.div_le_self _ _
              have hb2 : s.toNat / 2 ^ (32 - k) * 2 < 4294967296 := by
                have := Hns.out
                split at this <;> omega
              have hgb := bitsM_get s k hk32
              generalize hX : s.toNat / 2 ^ (32 - k) = X at *
              cases hbb : s.getMsbD k with
              | false =>
                rw [hbb] at hgb Hns
                have Hn2 := Hns
                clear hX hbb Hns
                go_wp2_with (refine wpList_index32 rfl _ _ rfl _ rfl (bitsM_len _) k rfl hk32 ?_; rw [hgb])
                go_round
                case rel => exact ⟨k + 1, by omega, by go_num, by have := Hn2.out; rw [show 32 - (k + 1) = 31 - k by omega, this]; simp⟩
                case measure => simp [intOf]; omega
              | true =>
                rw [hbb] at hgb Hns
                have Hn2 := Hns
                clear hX hbb Hns
                go_wp2_with (refine wpList_index32 rfl _ _ rfl _ rfl (bitsM_len _) k rfl hk32 ?_; rw [hgb])
                go_round
                case rel => exact ⟨k + 1, by omega, by go_num, by have := Hn2.out; rw [show 32 - (k + 1) = 31 - k by omega, this]; simp⟩
                case measure => simp [intOf]; omega
            · obtain rfl : k = 32 := by omega
              go_wp2
              go_ret
              refine ⟨?_, hf⟩
              rw [← Hall.out]; simp
end Go.Proofs.Ytaaiockknpeglaa
