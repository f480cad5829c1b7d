/- The walk of EndsJoin: it answers true for every width and every two lists of numbers. -/
import Derived.Test.YtffdgbimpodopaaB3
namespace Go.Proofs.Ytffdgbimpodopaa
open Go.RowKit Go.Proofs.U

theorem info26 : (Try.prog.info? 26).map (fun i => (i.zero, i.size, i.bytes)) = some (some (.int .u64 0), 1, 8) := by kernel_rfl

set_option maxHeartbeats 1000000 in
theorem join_walk (width : Int) (va : Value) (a : List Int) (vb : Value) (b : List Int) (w : World) (_hw : (Lit.int .i64 width).wf = true) (ha : SlI .u64 w va a) (hb : SlI .u64 w vb b) :
    Calls Try.prog 7 #[.int .i64 width, va, vb] w fun e w' => e = .returned (.bool true) ∧ Below w.heap.size w w' := by
  obtain ⟨a1, c1, rfl, hc1⟩ := ha.opn
  obtain ⟨a2, c2, rfl, hc2⟩ := hb.opn
  by_cases hA : (60 : Int) < (a.length : Int)
  · go_enter Try.func7, Try.ntmps7
    go_wp2_with (go_at_call 11; go_must (refine (alive_any _).mono ?_; rintro e w1 ⟨rfl, hf1⟩))
    go_ret
    exact ⟨rfl, hf1.below⟩
  by_cases hB : (60 : Int) < (b.length : Int)
  · go_enter Try.func7, Try.ntmps7
    go_wp2_with (go_at_call 11; go_must (refine (alive_any _).mono ?_; rintro e w1 ⟨rfl, hf1⟩))
    go_ret
    exact ⟨rfl, hf1.below⟩
  cases hok : (isW width && a.all (fits width)) with
  | false =>
    have Hok := Hid.mk hok
    clear hok
    go_enter Try.func7, Try.ntmps7
    go_wp2_with (first | (go_at_call 11; go_must (refine (alive_any _).mono ?_; rintro e w1 ⟨rfl, hf1⟩; have ha1 := ha.fr0 hf1)) | (go_at_call 9; go_must (refine (put_no _ _ _ [] a _ (SlI.nil _ _) ha1 (by omega) Hok.out).mono ?_; rintro e w2 ⟨rfl, hf2⟩)))
    go_ret
    exact ⟨rfl, (hf1.thenN hf2).below⟩
  | true =>
    simp only [Bool.and_eq_true] at hok
    have Hwd := Hid.mk hok.1
    have Hfa := Hid.mk hok.2
    clear hok
    go_enter Try.func7, Try.ntmps7
    go_wp2_with (first | (go_at_call 11; go_must (refine (alive_any _).mono ?_; rintro e w1 ⟨rfl, hf1⟩; have ha1 := ha.fr0 hf1)))
    refine (put_yes _ Hwd.out _ _ [] a _ (SlI.nil _ _) ha1 (by decide) (by omega) Hfa.out).mono ?_
    rintro e w2 ⟨v2, rfl, ho2, hf2⟩
    rw [List.nil_append] at ho2
    have hW8 : width.toNat ≤ 8 := by
      have : width = 1 ∨ width = 2 ∨ width = 4 ∨ width = 8 := by simpa [isW, or_assoc] using Hwd.out
      omega
    have hXl : (putB width.toNat a).length ≤ 480 := by
      rw [putB_length]
      have : a.length * width.toNat ≤ 60 * 8 := Nat.mul_le_mul (by omega) hW8
      omega
    have hpw := putB_wf width.toNat a
    generalize hX : putB width.toNat a = X at *
    have HX := Hid.mk hX
    clear hX
    have g2 := hf1.thenN hf2
    have sb := hb.fr0 g2
    obtain ⟨a3, c3, rfl⟩ := ho2.opn
    have s2 := ho2.sl hpw
    cases hfb : b.all (fits width) with
    | false =>
      have Hfb : Hid ((isW width && b.all (fits width)) = false) := by show _ = _; rw [hfb]; simp
      have Hfab : Hid ((isW width && (a ++ b).all (fits width)) = false) := by show _ = _; rw [List.all_append, hfb]; simp
      clear hfb
      go_wp2_with fail
      refine (put_no _ _ _ X b _ s2 sb (by omega) Hfb.out).mono ?_
      rintro e w3 ⟨rfl, hf3⟩
      have g3 := g2.thenN hf3
      have sa3 := ha.fr0 g3
      have sb3 := hb.fr0 g3
      go_wp2_with (first
        | (at_builtin; refine wpList_app rfl _ _ 32 rfl w3.heap.size 26 _ 1 8 Try.underlying32 info26 rfl (by decide) _ _ _ rfl hown4 _ _ _ rfl (sb3.1.fr0 f4) (ones _ _) ?hr1 ?hr2 f4.size ?_; rotate_left 2; intro v5 w5 hown5 hgr5; have f5 := f4.grown hgr5 (owns_new hown4); have o5 := OwnI.mk (k := .u64) (a ++ b) hown5 (by simp); obtain ⟨a5, c5, rfl⟩ := o5.opn)
        | (at_builtin; go_must (refine wpList_app rfl _ _ 32 rfl w3.heap.size 26 _ 1 8 Try.underlying32 info26 rfl (by decide) _ _ _ rfl (World.ownsRow_made _ #[] 0 (Nat.le_refl _) (Nat.zero_le _) rfl) _ _ _ rfl (sa3.1.fr0 ((Fr.refl _ _).alloc _)) (ones _ _) ?hq1 ?hq2 ?hq3 ?_; rotate_left 3; intro v4 w4 hown4 hgr4; have f4 := ((Fr.refl noB w3).alloc _).grown hgr4 (owns_new (World.ownsRow_made (e := 26) (size := 1) w3 #[] 0 (Nat.le_refl _) (Nat.zero_le _) rfl)))))
      case hr1 => unfold maxLen; omega
      case hr2 => omega
      case hq1 => unfold maxLen; omega
      case hq2 => omega
      case hq3 => simp
      have s5 := o5.sl (wf_app ha.2 hb.2)
      rw [List.length_append] at s5
      have g5 := g3.thenN f5
      refine (put_no _ _ _ [] (a ++ b) _ (SlI.nil _ _) s5 (by simp; omega) Hfab.out).mono ?_
      rintro e w6 ⟨rfl, hf6⟩
      go_wp2_with (refine at_conv 22 9 _ rfl ?_; go_must (refine wpList_str rfl _ 22 9 5 rfl Try.underlying22 Try.underlying5 Try.underlying9 _ _ rfl (SlI.nil _ _) ?_))
      go_ret
      exact ⟨rfl, (g5.thenN hf6).below⟩
    | true =>
      have Hfb := Hid.mk hfb
      have Hfab : Hid ((a ++ b).all (fits width) = true) := by show _ = _; rw [List.all_append, hfb, Hfa.out]; rfl
      clear hfb
      go_wp2_with fail
      refine (put_yes _ Hwd.out _ _ X b _ s2 sb (by omega) (by omega) Hfb.out).mono ?_
      rintro e w3 ⟨v3, rfl, ho3, hf3⟩
      have hXY : putB width.toNat (a ++ b) = X ++ putB width.toNat b := by rw [← HX.out]; simp [putB]
      have HXY := Hid.mk hXY
      clear hXY
      have hyw := wf_app hpw (putB_wf width.toNat b)
      generalize X ++ putB width.toNat b = Y at *
      obtain ⟨ay, cy, rfl⟩ := ho3.opn
      have sy := ho3.sl hyw
      have g3 := g2.thenN hf3
      have sa3 := ha.fr0 g3
      have sb3 := hb.fr0 g3
      go_wp2_with (first
        | (at_builtin; refine wpList_app rfl _ _ 32 rfl w3.heap.size 26 _ 1 8 Try.underlying32 info26 rfl (by decide) _ _ _ rfl hown4 _ _ _ rfl (sb3.1.fr0 f4) (ones _ _) ?hr1 ?hr2 f4.size ?_; rotate_left 2; intro v5 w5 hown5 hgr5; have f5 := f4.grown hgr5 (owns_new hown4); have o5 := OwnI.mk (k := .u64) (a ++ b) hown5 (by simp); obtain ⟨a5, c5, rfl⟩ := o5.opn)
        | (at_builtin; go_must (refine wpList_app rfl _ _ 32 rfl w3.heap.size 26 _ 1 8 Try.underlying32 info26 rfl (by decide) _ _ _ rfl (World.ownsRow_made _ #[] 0 (Nat.le_refl _) (Nat.zero_le _) rfl) _ _ _ rfl (sa3.1.fr0 ((Fr.refl _ _).alloc _)) (ones _ _) ?hq1 ?hq2 ?hq3 ?_; rotate_left 3; intro v4 w4 hown4 hgr4; have f4 := ((Fr.refl noB w3).alloc _).grown hgr4 (owns_new (World.ownsRow_made (e := 26) (size := 1) w3 #[] 0 (Nat.le_refl _) (Nat.zero_le _) rfl)))))
      case hr1 => unfold maxLen; omega
      case hr2 => omega
      case hq1 => unfold maxLen; omega
      case hq2 => omega
      case hq3 => simp
      have s5 := o5.sl (wf_app ha.2 hb.2)
      rw [List.length_append] at s5
      have g5 := g3.thenN f5
      refine (put_yes _ Hwd.out _ _ [] (a ++ b) _ (SlI.nil _ _) s5 (by decide) (by simp; omega) Hfab.out).mono ?_
      rintro e w6 ⟨v6, rfl, ho6, hf6⟩
      rw [List.nil_append, HXY.out] at ho6
      obtain ⟨a6, c6, rfl⟩ := ho6.opn
      have s6 := ho6.sl hyw
      have sy6 := (sy.fr0 f5).fr0 hf6
      go_wp2_with (refine at_conv 22 9 _ rfl ?_; first | (refine wpList_str rfl _ 22 9 5 rfl Try.underlying22 Try.underlying5 Try.underlying9 _ _ rfl sy6 ?_) | (refine wpList_str rfl _ 22 9 5 rfl Try.underlying22 Try.underlying5 Try.underlying9 _ _ rfl s6 ?_))
      go_ret
      exact ⟨rfl, (g5.thenN hf6).below⟩
end Go.Proofs.Ytffdgbimpodopaa
