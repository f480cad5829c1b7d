/- The walk of EndsBack: it answers true for every width and every list of numbers. -/
import Derived.Test.YtffdgbimpodopaaB6m
namespace Go.Proofs.Ytffdgbimpodopaa
open Go.RowKit Go.Proofs.U

theorem fits_all {W : Int} {l : List Int} (h : l.all (fits W) = true) (k : Nat) (hk : k < l.length) : fits W l[k] = true := by
  rw [List.all_eq_true] at h; exact h _ (by simp)

set_option maxHeartbeats 2000000 in
theorem back_walk (width : Int) (vl : Value) (l : List Int) (w : World) (_hw : (Lit.int .i64 width).wf = true) (hl : SlI .u64 w vl l) :
    Calls Try.prog 6 #[.int .i64 width, vl] w fun e w' => e = .returned (.bool true) ∧ Below w.heap.size w w' := by
  obtain ⟨a1, c1, rfl, hc1⟩ := hl.opn
  by_cases hA : (100 : Int) < (l.length : Int)
  · go_enter Try.func6, Try.ntmps6
    go_wp2_with (go_at_call 11; go_must (refine (alive_any _).mono ?_; rintro e w1 ⟨rfl, hf1⟩))
    go_ret
    exact ⟨rfl, hf1.below⟩
  cases hok : (isW width && l.all (fits width)) with
  | false =>
    have Hok := Hid.mk hok
    clear hok
    go_enter Try.func6, Try.ntmps6
    go_wp2_with (first | (go_at_call 11; go_must (refine (alive_any _).mono ?_; rintro e w1 ⟨rfl, hf1⟩; have ha1 := hl.fr0 hf1)) | (go_at_call 9; go_must (refine (put_no _ _ _ [] l _ (SlI.nil _ _) ha1 (by omega) Hok.out).mono ?_; rintro e w2 ⟨rfl, hf2⟩)))
    go_ret
    exact ⟨rfl, (hf1.thenN hf2).below⟩
  | true =>
    simp only [Bool.and_eq_true] at hok
    have Hwd := Hid.mk hok.1
    have Hfa := Hid.mk hok.2
    clear hok
    have hW8 : 1 ≤ width ∧ width ≤ 8 := by
      have : width = 1 ∨ width = 2 ∨ width = 4 ∨ width = 8 := by simpa [isW, or_assoc] using Hwd.out
      omega
    obtain ⟨W, rfl⟩ := Int.eq_ofNat_of_zero_le (show 0 ≤ width by omega)
    go_enter Try.func6, Try.ntmps6
    go_wp2_with (first | (go_at_call 11; go_must (refine (alive_any _).mono ?_; rintro e w1 ⟨rfl, hf1⟩; have ha1 := hl.fr0 hf1)))
    refine (put_yes _ Hwd.out _ _ [] l _ (SlI.nil _ _) ha1 (by decide) (by omega) Hfa.out).mono ?_
    rintro e w2 ⟨v2, rfl, ho2, hf2⟩
    rw [List.nil_append, Int.toNat_natCast] at ho2
    have HXl := Hid.mk (putB_length W l)
    have HXp := Hid.mk (putB_piece W l)
    have hpw := putB_wf W l
    generalize putB W l = X at *
    have hXl : X.length ≤ 800 := by
      rw [HXl.out]
      have : l.length * W ≤ 100 * 8 := Nat.mul_le_mul (by omega) (by omega)
      omega
    have g2 := hf1.thenN hf2
    have s2 := ho2.sl hpw
    obtain ⟨a2, c2, rfl, hc2⟩ := s2.opn
    go_wp2_with (first | (go_at_call 10; go_must (refine (new_any _ X _ s2 (by omega)).mono ?_; rintro e w3 ⟨b, vb, rfl, hb, hvb, hr3, hf3⟩)))
    have g3 := g2.thenN hf3
    have hbw : w.heap.size ≤ b := Nat.le_trans g2.size hb
    go_loopw [32] (fun i wr => ∃ k : Nat, k ≤ l.length ∧ i = .int .i64 k ∧ Rd wr b vb X (k * W) false ∧ Fr (onB b) w3 wr) (fun i _ => l.length - (intOf i).toNat)
    case atStart => exact ⟨0, Nat.zero_le _, rfl, by rw [Nat.zero_mul]; exact hr3, Fr.refl _ _⟩
    case round =>
      obtain ⟨k, hk, rfl, hr, hf⟩ := hrel
      have gk : Fr noB w wr := g3.thenT hf (fun i hi q => by unfold onB at q; omega)
      by_cases hlt : k < l.length
      · have hS := (hl.fr0 gk).1
        have hx0 := u64_bd (hl.2 l[k] (by simp))
        obtain ⟨n1, n2, n3⟩ := nm_whole X (k * W) W l[k] Hwd.out (by rw [HXl.out, ← Nat.succ_mul]; exact Nat.mul_le_mul_right _ hlt) (HXp.out k hlt) hx0.1 (fits_all Hfa.out k hlt)
        have hnum := num_any b vb X (k * W) false W wr hr
        rw [n1, n2, n3] at hnum
        have Hnum := Hid.mk hnum
        clear hnum n1 n2 n3
        go_wp2_with (first | (refine wpList_idx1 rfl 32 _ _ rfl 26 Try.underlying32 size26 _ _ _ rfl hS _ _ k rfl rfl hlt ?_; intro p u hu hc; obtain rfl := getu _ _ _ _ hu) | (go_at_call 12; go_must (refine Hnum.out.mono ?_; rintro e w4 ⟨rfl, hr4, hf4⟩)))
        go_roundw
        case rel => exact ⟨k + 1, by omega, by go_num, by rw [Nat.succ_mul]; exact hr4, hf.thenT hf4 (fun _ _ q => q)⟩
        case measure => simp [intOf]; omega
      · obtain rfl : k = l.length := by omega
        have hend := ended_any b vb X (l.length * W) false wr hr
        rw [show (decide (X.length = l.length * W) && !false) = true by rw [HXl.out]; simp] at hend
        have Hend := Hid.mk hend
        clear hend
        have hm0 : 0 ≤ (l.length : Int) * (W : Int) := Int.mul_nonneg (by omega) (by omega)
        have hm1 : (l.length : Int) * (W : Int) ≤ 800 := by
          have : ((l.length * W : Nat) : Int) = (l.length : Int) * (W : Int) := by simp
          have := HXl.out
          omega
        have hne : ((X.length : Int) != (l.length : Int) * (W : Int)) = false := by rw [HXl.out]; simp
        have s2r : SlI .u8 wr (.slice a2 X.length c2) X := (s2.fr0 hf3).fr hf (fun j hj q => by have := (ho2.newB j hj).2; unfold onB at q; omega)
        by_cases hz : ((l.length : Int) == 0) = true
        · go_wp2_with (go_at_call 15; go_must (refine Hend.out.mono ?_; rintro e w4 ⟨rfl, hf4⟩))
          go_ret
          exact ⟨rfl, (gk.thenN hf4).below⟩
        · have hz' : ((l.length : Int) == 0) = false := by simpa using hz
          clear hz
          have hl1 : 1 ≤ l.length := by have := beq_eq_false_iff_ne.1 hz'; omega
          have hX1 : 1 ≤ X.length := by rw [HXl.out]; exact Nat.mul_le_mul hl1 (show 1 ≤ W by omega)
          go_wp2_with (first
            | (go_at_call 15; go_must (refine Hend.out.mono ?_; rintro e w4 ⟨rfl, hf4⟩; have s4 := s2r.fr0 hf4; have g4 := gk.thenN hf4))
            | (refine at_cut 22 _ _ _ _ rfl ?_; go_must (refine wpList_cuth rfl 22 _ _ rfl 5 Try.underlying22 1 size5 _ _ _ rfl _ _ (X.length - 1) rfl (by omega) (by omega) ?_; have sy := s4.takeN (X.length - 1) (by omega)))
            | (go_at_call 10; go_must (refine (new_any _ (X.take (X.length - 1)) _ sy (by simp; omega)).mono ?_; rintro e w5 ⟨b5, vb5, rfl, hb5, hvb5, hr5, hf5⟩; have g5 := g4.thenN hf5; have sl5 := hl.fr0 g5))
            | (refine at_cut 32 _ _ _ _ rfl ?_; go_must (refine wpList_cuth rfl 32 _ _ rfl 26 Try.underlying32 1 size26 _ _ _ rfl _ _ (l.length - 1) rfl (by omega) (by omega) ?_)))
          have hYl : (X.take (X.length - 1)).length = X.length - 1 := by simp
          have HYp : Hid (∀ k (h : k < l.length - 1), (((X.take (X.length - 1)).drop (k * W)).take W = leB W l[k]) ∧ k * W + W ≤ X.length - 1) := by
            intro k hk
            have h2 : k * W + W ≤ X.length - 1 := by
              have h3 : (k + 1) * W ≤ (l.length - 1) * W := Nat.mul_le_mul_right _ (by omega)
              have h4 : (l.length - 1) * W = l.length * W - W := by rw [Nat.mul_sub_right_distrib]; simp
              have := HXl.out
              rw [Nat.succ_mul] at h3
              omega
            refine ⟨?_, h2⟩
            rw [List.drop_take, List.take_take, Nat.min_eq_left (by omega)]
            exact HXp.out k (by omega)
          have HYe : Hid ((X.take (X.length - 1)).length < (l.length - 1) * W + W ∧ (l.length - 1) * W ≤ (X.take (X.length - 1)).length) := by
            have h4 : (l.length - 1) * W = l.length * W - W := by rw [Nat.mul_sub_right_distrib]; simp
            have h5 : 1 * W ≤ l.length * W := Nat.mul_le_mul_right _ hl1
            have := HXl.out
            rw [hYl]
            show _ ∧ _
            omega
          have HYl := Hid.mk hYl
          clear hYl
          generalize X.take (X.length - 1) = Y at *
          have hb5w : w.heap.size ≤ b5 := Nat.le_trans g4.size hb5
          go_loopw [69] (fun i wr' => ∃ k : Nat, k ≤ l.length - 1 ∧ i = .int .i64 k ∧ Rd wr' b5 vb5 Y (k * W) false ∧ Fr (onB b5) w5 wr') (fun i _ => l.length - 1 - (intOf i).toNat)
          case atStart => exact ⟨0, Nat.zero_le _, rfl, by rw [Nat.zero_mul]; exact hr5, Fr.refl _ _⟩
          case round =>
            obtain ⟨k, hk', rfl, hr', hf'⟩ := hrel
            have gk' : Fr noB w wr := g5.thenT hf' (fun i hi q => by unfold onB at q; omega)
            by_cases hlt : k < l.length - 1
            · have hS := ((hl.fr0 gk').takeN (l.length - 1) (by omega)).1
              rw [List.length_take, Nat.min_eq_left (by omega)] at hS
              have hkl : k < l.length := by omega
              have hx0 := u64_bd (hl.2 l[k] (by simp))
              obtain ⟨y1, y2⟩ := HYp.out k hlt
              obtain ⟨n1, n2, n3⟩ := nm_whole Y (k * W) W l[k] Hwd.out (by rw [HYl.out]; exact y2) y1 hx0.1 (fits_all Hfa.out k hkl)
              have hnum := num_any b5 vb5 Y (k * W) false W wr hr'
              rw [n1, n2, n3] at hnum
              have Hnum := Hid.mk hnum
              clear hnum n1 n2 n3 y1 y2
              go_wp2_with (first | (refine wpList_idx1 rfl 32 _ _ rfl 26 Try.underlying32 size26 _ _ _ rfl hS _ _ k rfl rfl hlt ?_; intro p u hu hc; obtain rfl := getu _ _ _ _ hu; rw [show (l.take (l.length - 1)).getD k 0 = l[k] by simp [List.getD, hlt]] at hc) | (go_at_call 12; go_must (refine Hnum.out.mono ?_; rintro e w6 ⟨rfl, hr6, hf6⟩)))
              go_roundw
              case rel => exact ⟨k + 1, by omega, by go_num, by rw [Nat.succ_mul]; exact hr6, hf'.thenT hf6 (fun _ _ q => q)⟩
              case measure => simp [intOf]; omega
            · obtain rfl : k = l.length - 1 := by omega
              obtain ⟨n1, n2, n3⟩ := nm_short Y ((l.length - 1) * W) W Hwd.out HYe.out.1 HYe.out.2
              have Hn1 := Hid.mk n1
              have Hn2 := Hid.mk n2
              have Hn3 := Hid.mk n3
              clear n1 n2 n3
              go_wp2_with fail
              refine (failed_any _ _ _ _ _ _ hr').mono ?_
              rintro e w6 ⟨rfl, hf6⟩
              have hnum := num_any b5 vb5 Y _ false W w6 (hr'.fr0 hf6)
              rw [Hn1.out, Hn2.out, Hn3.out] at hnum
              have Hnum := Hid.mk hnum
              clear hnum
              go_wp2_with (go_at_call 12; go_must (refine Hnum.out.mono ?_; rintro e w7 ⟨rfl, hr7, hf7⟩))
              refine (failed_any _ _ _ _ _ _ hr7).mono ?_
              rintro e w8 ⟨rfl, hf8⟩
              go_wp2
              go_ret
              exact ⟨rfl, (((gk'.thenN hf6).thenT hf7 (fun i hi q => by unfold onB at q; omega)).thenN hf8).below⟩
end Go.Proofs.Ytffdgbimpodopaa
