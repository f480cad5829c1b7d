/- Contract of the document's own Put where it answers ErrWide; and the walk of EndsPuts. -/
import Derived.Test.YtffdgbimpodopaaR1
namespace Go.Proofs.Ytffdgbimpodopaa
open Go.RowKit Go.Proofs.U

set_option maxHeartbeats 1000000 in
theorem rput_no (width : Int) (vb vl : Value) (bs l : List Int) (w : World) (hb : SlI .u8 w vb bs) (hl : SlI .u64 w vl l) (hbm : bs.length ≤ 1000000000000) (hm : l.length ≤ 1000000000000) (hno : (isW width && l.all (fits width)) = false) :
    Calls Try.prog 16 #[vb, .int .i64 width, vl] w fun e w' => e = .returned (.tuple #[.slice none 0 0, .int .i64 11]) ∧ Fr noB w w' := by
  obtain ⟨a, cap, rfl, hcap⟩ := hb.opn
  obtain ⟨a2, cap2, rfl, hcap2⟩ := hl.opn
  cases hwd : isW width with
  | false =>
    have Hwd := Hid.mk hwd
    clear hwd hno
    go_enter Try.func16, Try.ntmps16
    go_wp2_with (go_at_call 24; refine (right_any _ _).mono ?_; rintro e w' ⟨rfl, rfl⟩; rw [Hwd.out])
    go_ret2
    exact ⟨rfl, Fr.refl _ _⟩
  | true =>
    have Hfit : Hid (l.all (fits width) = false) := by rw [hwd, Bool.true_and] at hno; exact hno
    have Hwd := Hid.mk hwd
    clear hno hwd
    have hw1 : (1 : Int) ≤ width ∧ width ≤ 8 := by
      have : width = 1 ∨ width = 2 ∨ width = 4 ∨ width = 8 := by simpa [isW, or_assoc] using Hwd.out
      omega
    obtain ⟨W, rfl⟩ := Int.eq_ofNat_of_zero_le (show 0 ≤ width by omega)
    go_enter Try.func16, Try.ntmps16
    go_wp2_with (first | (go_at_call 24; refine (right_any _ _).mono ?_; rintro e w' ⟨rfl, rfl⟩; rw [Hwd.out]) | (at_builtin; go_must (refine wpList_app rfl _ _ 22 rfl w.heap.size 5 _ 1 1 Try.underlying22 info5 rfl (by decide) _ _ _ rfl (World.ownsRow_made _ #[] 0 (Nat.le_refl _) (Nat.zero_le _) rfl) _ _ _ rfl (hb.1.fr0 ((Fr.refl _ _).alloc _)) (ones _ _) ?hq1 ?hq2 ?hq3 ?_; rotate_left 3; intro v2 w2 hown2 hgr2; have hf2 := ((Fr.refl noB w).alloc _).grown hgr2 (owns_new (World.ownsRow_made (e := 5) (size := 1) w #[] 0 (Nat.le_refl _) (Nat.zero_le _) rfl)))))
    case hq1 => unfold maxLen; omega
    case hq2 => omega
    case hq3 => simp
    have ho2 : OwnI .u8 5 w2 w.heap.size v2 bs := OwnI.mk _ hown2 (by simp)
    clear hown2 hgr2
    go_loopw [8, 21] (fun out i wr => ∃ k : Nat, k ≤ l.length ∧ i = .int .i64 k ∧ Hid ((l.take k).all (fits W) = true) ∧ OwnI .u8 5 wr w.heap.size out (bs ++ putB W (l.take k)) ∧ Fr noB w wr) (fun _ i _ => l.length - (intOf i).toNat)
    case atStart => exact ⟨0, Nat.zero_le _, rfl, show _ = _ by simp, by simpa [putB] using ho2, hf2⟩
    case round =>
      obtain ⟨k, hk, rfl, hall, ho, hf⟩ := hrel
      by_cases hlt : k < l.length
      · have hbd := u64_bd (hl.2 l[k] (by simp))
        have hlS := hl.1.fr0 hf
        have hlen : (bs ++ putB W (l.take k)).length ≤ 9000000000000 := by
          have h9 : k * W ≤ 1000000000000 * 8 := Nat.mul_le_mul (by omega) (by omega)
          simp [putB_length, Nat.min_eq_left hk]; omega
        have Hlen := Hid.mk (leB_length W l[k])
        have Hfi := Hid.mk (fits_iff W Hwd.out _ hbd.1)
        cases hfk : fits W l[k] with
        | false =>
          have Hok : Hid ((l[k] / 256 ^ W == 0) = false) := by show _ = _; rw [Hfi.out]; exact hfk
          clear hfk
          go_wp2_with (first
            | (refine wpList_idx1 rfl 32 _ _ rfl 26 Try.underlying32 size26 _ _ _ rfl hlS _ _ k rfl rfl hlt ?_; intro p u hu hc; obtain rfl := getu _ _ _ _ hu)
            | (go_at_call 25; go_must (refine (bytes_any l[k] W _ hbd (by omega)).mono ?_; rintro e w3 ⟨v3, rfl, ho3, hf3⟩; rw [Hok.out]; obtain ⟨a3, c3, rfl⟩ := ho3.opn)))
          go_ret2
          exact ⟨rfl, hf.thenN hf3⟩
        | true =>
          have Hok : Hid ((l[k] / 256 ^ W == 0) = true) := by show _ = _; rw [Hfi.out]; exact hfk
          have Hfk := Hid.mk hfk
          clear hfk
          go_wp2_with (first
            | (refine wpList_idx1 rfl 32 _ _ rfl 26 Try.underlying32 size26 _ _ _ rfl hlS _ _ k rfl rfl hlt ?_; intro p u hu hc; obtain rfl := getu _ _ _ _ hu)
            | (go_at_call 25; go_must (refine (bytes_any l[k] W _ hbd (by omega)).mono ?_; rintro e w3 ⟨v3, rfl, ho3, hf3⟩; rw [Hok.out]; obtain ⟨a3, c3, rfl⟩ := ho3.opn; have o3 := ho.fr hf3 (fun _ _ q => q)))
            | (at_builtin; go_must (refine wpList_app rfl _ _ 22 rfl w.heap.size 5 _ 1 1 Try.underlying22 info5 rfl (by decide) _ _ _ rfl o3 _ _ _ rfl (Sl.of_owns ho3) (ones _ _) ?hq1 ?hq2 (Nat.le_trans hf.size hf3.size) ?_; rotate_left 2; intro v4 w4 hown4 hgr4)))
          case hq1 => rw [Hlen.out]; unfold maxLen; omega
          case hq2 => rw [Hlen.out]; omega
          go_roundw
          case rel => exact ⟨k + 1, by omega, by go_num, show _ = _ by rw [all_take_succ _ _ _ hlt, hall.out, Hfk.out]; rfl, OwnI.mk _ hown4 (by rw [putB_take W l k hlt]; simp), (hf.thenN hf3).grown hgr4 (owns_new o3)⟩
          case measure => simp [intOf]; omega
      · exfalso
        have e : k = l.length := by omega
        subst e
        have := hall.out
        rw [List.take_length, Hfit.out] at this
        cases this

set_option maxHeartbeats 1000000 in
theorem puts_walk (vb : Value) (bs : List Int) (width : Int) (vl : Value) (l : List Int) (w : World) (hb : SlI .u8 w vb bs) (_hw : (Lit.int .i64 width).wf = true) (hl : SlI .u64 w vl l) :
    Calls Try.prog 4 #[vb, .int .i64 width, vl] w fun e w' => e = .returned (.bool true) ∧ Below w.heap.size w w' := by
  obtain ⟨a1, c1, rfl, hc1⟩ := hb.opn
  obtain ⟨a2, c2, rfl, hc2⟩ := hl.opn
  by_cases hA : (500 : Int) < (bs.length : Int)
  · go_enter Try.func4, Try.ntmps4
    go_wp2_with (go_at_call 11; go_must (refine (alive_any _).mono ?_; rintro e w1 ⟨rfl, hf1⟩))
    go_ret
    exact ⟨rfl, hf1.below⟩
  by_cases hB : (100 : Int) < (l.length : Int)
  · go_enter Try.func4, Try.ntmps4
    go_wp2_with (go_at_call 11; go_must (refine (alive_any _).mono ?_; rintro e w1 ⟨rfl, hf1⟩))
    go_ret
    exact ⟨rfl, hf1.below⟩
  go_enter Try.func4, Try.ntmps4
  go_wp2_with (first
    | (go_at_call 11; go_must (refine (alive_any _).mono ?_; rintro e w1 ⟨rfl, hf1⟩))
    | (at_builtin; go_must (refine wpList_app rfl _ _ 22 rfl w1.heap.size 5 _ 1 1 Try.underlying22 info5 rfl (by decide) _ _ _ rfl (World.ownsRow_made _ #[] 0 (Nat.le_refl _) (Nat.zero_le _) rfl) _ _ _ rfl (hb.1.fr0 (hf1.alloc _)) (ones _ _) ?hq1 ?hq2 ?hq3 ?_; rotate_left 3; intro v2 w2 hown2 hgr2; have hf2 := ((Fr.refl noB w1).alloc _).grown hgr2 (owns_new (World.ownsRow_made (e := 5) (size := 1) w1 #[] 0 (Nat.le_refl _) (Nat.zero_le _) rfl)); have o2 : OwnI .u8 5 w2 w1.heap.size v2 bs := OwnI.mk bs hown2 (by simp); obtain ⟨a3, c3, rfl⟩ := o2.opn)))
  case hq1 => unfold maxLen; omega
  case hq2 => omega
  case hq3 => simp
  have g2 := hf1.thenN hf2
  have s2 := o2.sl hb.2
  have sl2 := hl.fr0 g2
  cases hok : (isW width && l.all (fits width)) with
  | false =>
    have Hok := Hid.mk hok
    clear hok
    refine (put_no _ _ _ bs l _ s2 sl2 (by omega) Hok.out).mono ?_
    rintro e w3 ⟨rfl, hf3⟩
    have g3 := g2.thenN hf3
    have s3 := s2.fr0 hf3
    go_wp2_with (first
      | (go_at_call 16; go_must (refine (rput_no _ _ _ bs l _ (hb.fr0 g3) (hl.fr0 g3) (by omega) (by omega) Hok.out).mono ?_; rintro e w4 ⟨rfl, hf4⟩; have s4 := s3.fr0 hf4; have sb4 := hb.fr0 (g3.thenN hf4)))
      | (refine at_conv 22 9 _ rfl ?_; first | (refine wpList_str rfl _ 22 9 5 rfl Try.underlying22 Try.underlying5 Try.underlying9 _ _ rfl (SlI.nil _ _) ?_) | (refine wpList_str rfl _ 22 9 5 rfl Try.underlying22 Try.underlying5 Try.underlying9 _ _ rfl s4 ?_) | (refine wpList_str rfl _ 22 9 5 rfl Try.underlying22 Try.underlying5 Try.underlying9 _ _ rfl sb4 ?_)))
    go_ret
    exact ⟨rfl, (g3.thenN hf4).below⟩
  | true =>
    simp only [Bool.and_eq_true] at hok
    have Hwd := Hid.mk hok.1
    have Hfa := Hid.mk hok.2
    clear hok
    have hw0 : 0 ≤ width := by
      have : width = 1 ∨ width = 2 ∨ width = 4 ∨ width = 8 := by simpa [isW, or_assoc] using Hwd.out
      omega
    obtain ⟨W, rfl⟩ := Int.eq_ofNat_of_zero_le hw0
    refine (put_yes _ Hwd.out _ _ bs l _ s2 sl2 (by omega) (by omega) Hfa.out).mono ?_
    rintro e w3 ⟨v3, rfl, ho3, hf3⟩
    rw [Int.toNat_natCast] at ho3
    have hxw := wf_app hb.2 (putB_wf W l)
    have g3 := g2.thenN hf3
    have s3 := s2.fr0 hf3
    have hrp := rput_yes W Hwd.out _ _ bs l _ (hb.fr0 g3) (hl.fr0 g3) (by omega) (by omega) Hfa.out
    generalize bs ++ putB W l = X at *
    have Hrp := Hid.mk hrp
    clear hrp
    obtain ⟨a4, c4, rfl⟩ := ho3.opn
    have t3 := ho3.sl hxw
    go_wp2_with (first
      | (go_at_call 16; go_must (refine Hrp.out.mono ?_; rintro e w4 ⟨v4, rfl, ho4, hf4⟩; have s4 := s3.fr0 hf4; have sb4 := hb.fr0 (g3.thenN hf4); have t4 := t3.fr0 hf4; have u4 := ho4.sl hxw; obtain ⟨a5, c5, rfl⟩ := ho4.opn))
      | (refine at_conv 22 9 _ rfl ?_; first | (refine wpList_str rfl _ 22 9 5 rfl Try.underlying22 Try.underlying5 Try.underlying9 _ _ rfl t4 ?_) | (refine wpList_str rfl _ 22 9 5 rfl Try.underlying22 Try.underlying5 Try.underlying9 _ _ rfl u4 ?_) | (refine wpList_str rfl _ 22 9 5 rfl Try.underlying22 Try.underlying5 Try.underlying9 _ _ rfl s4 ?_) | (refine wpList_str rfl _ 22 9 5 rfl Try.underlying22 Try.underlying5 Try.underlying9 _ _ rfl sb4 ?_)))
    go_ret
    exact ⟨rfl, (g3.thenN hf4).below⟩
end Go.Proofs.Ytffdgbimpodopaa
