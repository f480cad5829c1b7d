/- LabelPuts: the walk. -/
import Derived.Test.YtcpkkdffedndiaaDoorOpenL
import Derived.Test.YtcpkkdffedndiaaDoorL9
import Derived.Test.YtcpkkdffedndiaaDoorQ2
import Derived.Test.YtcpkkdffedndiaaDoorCV
namespace Go.Proofs.YtcpkkdffedndiaaDoor
open Go.RowKit Go.Proofs.U
set_option linter.unusedSimpArgs false
set_option linter.unusedVariables false

theorem leB_wf (q : Nat) (x : Int) (h : 0 ≤ x) : ∀ n ∈ leB q x, (Lit.int .u8 n).wf = true := by
  induction q with
  | zero => intro n hn; simp [leB] at hn
  | succ q ih =>
    intro n hn
    rw [leB_snoc q x h] at hn
    simp at hn
    rcases hn with hn | rfl
    · exact ih n hn
    · simp [Lit.wf, IntKind.min, IntKind.max, IntKind.signed, IntKind.bits]; omega

set_option maxRecDepth 100000 in
set_option maxHeartbeats 2000000 in
theorem puts_walk (vb : Value) (bs : List Int) (vl : Value) (l : List (Int × Int)) (w : World) (hb : SlI .u8 w vb bs) (hl : SlL w vl l ∧ ∀ x ∈ l, U2 x.1 x.2) (ht : Tab w) :
    Calls Tryd.prog 6 #[vb, vl] w fun r w' => r = .returned (.bool true) ∧ Below w.heap.size w w' := by
  obtain ⟨hl, hU⟩ := hl
  obtain ⟨a, cap, rfl, hcap⟩ := hb.opn
  obtain ⟨sa, cap2, rfl, hcap2⟩ := hl.opn
  by_cases h1 : (200 : Int) < (bs.length : Int)
  · go_enter Tryd.func6, Tryd.ntmps6
    go_wp2_with (go_at_call 12; go_must (refine (alive_any _ ht).mono ?_; rintro e w1 ⟨rfl, F1⟩))
    go_ret
    exact ⟨rfl, F1.below⟩
  by_cases h2 : (100 : Int) < (l.length : Int)
  · go_enter Tryd.func6, Tryd.ntmps6
    go_wp2_with (go_at_call 12; go_must (refine (alive_any _ ht).mono ?_; rintro e w1 ⟨rfl, F1⟩))
    go_ret
    exact ⟨rfl, F1.below⟩
  obtain ⟨X, HX⟩ : ∃ X, Hid (bs ++ putB 4 (nums l) = X) := ⟨_, rfl⟩
  have hXw : Hid (∀ n ∈ X, (Lit.int .u8 n).wf = true) := by
    show ∀ n ∈ X, _
    rw [← HX.out]
    intro n hn
    rw [List.mem_append] at hn
    rcases hn with hn | hn
    · exact hb.2 n hn
    · unfold putB at hn
      rw [List.mem_flatMap] at hn
      obtain ⟨x, hx, hn⟩ := hn
      exact leB_wf 4 x (nums_bd l hU x hx).1 n hn
  go_enter Tryd.func6, Tryd.ntmps6
  go_wp2_with (first
    | (go_at_call 12; go_must (refine (alive_any _ ht).mono ?_; rintro e w1 ⟨rfl, F1⟩; have b1 := hb.1.fr0 F1))
    | (at_builtin; go_must (refine wpList_app rfl _ _ 38 rfl w1.heap.size 5 _ 1 1 Tryd.underlying38 info5 rfl (by decide) _ _ _ rfl (World.ownsRow_made w1 #[] 0 (Nat.le_refl _) (Nat.zero_le _) rfl) _ _ _ rfl (b1.fr0 ((Fr.refl _ _).alloc _)) (ones _ _) ?hq1 ?hq2 ?hq3 ?_; rotate_left 3; intro v2 w2 hown2 hgr2)))
  case hq1 => unfold maxLen; omega
  case hq2 => omega
  case hq3 => simp
  have own0 : (w1.alloc (.cells #[] 5)).ownsRow w1.heap.size 5 1 (.slice (some ⟨w1.heap.size, 0, none⟩) 0 0) 0 [] := World.ownsRow_made w1 #[] 0 (Nat.le_refl _) (Nat.zero_le _) rfl
  have o2 : OwnI .u8 5 w2 w1.heap.size v2 bs := OwnI.mk _ hown2 (by simp)
  have hf2 : Fr noB w1 w2 := ((Fr.refl _ _).alloc _).grown hgr2 (owns_new own0)
  have F2 := F1.thenN hf2
  have s2 := o2.sl hb.2
  clear hown2 hgr2 own0
  obtain ⟨a2, c2, rfl⟩ := o2.opn
  go_wp2_with fail
  --REG M6
  refine wp_region_lay (by kernel_rfl) [MFact.is (.slice a2 bs.length c2), MFact.is (.slice sa l.length cap2), MFact.sl .u8 X, MFact.is (.string (strOfNums X)), MFact.is (.slice a bs.length cap), MFact.is (.slice sa l.length cap2), MFact.sl .u8 X, MFact.is (.string (strOfNums X)), MFact.is (.bool true), MFact.is (.bool true), MFact.is (.slice a2 bs.length c2), MFact.is (.string (strOfNums bs)), MFact.is (.slice a bs.length cap), MFact.is (.string (strOfNums bs)), MFact.is (.bool true), MFact.is (.bool true), MFact.is (.bool true)] (by kernel_rfl) ⟨?o0, ?o1, ?o2, ?o3, ?o4, ?o5, ?o6, ?o7, ?o8, ?o9, ?o10, ?o11, ?o12, ?o13, ?o14, ?o15, ?o16, trivial⟩ ?oe
  case o0 =>
    intro A W hfr hbase hdep
    have e5 : A.eval (.tmp 5) = .slice a2 bs.length c2 := hbase 5 (by kernel_rfl)
    have f5 : A.tmps[5]?.getD undef = .slice a2 bs.length c2 := by simpa [Act.eval] using e5
    exact hands_val rfl (v := .slice a2 bs.length c2) (w' := W) (by simp [execOp, e5, f5]) (Fr.refl _ _) rfl
  case o1 =>
    intro A W hfr hbase hdep
    have e1 : A.eval (.tmp 1) = .slice sa l.length cap2 := hbase 1 (by kernel_rfl)
    have f1 : A.tmps[1]?.getD undef = .slice sa l.length cap2 := by simpa [Act.eval] using e1
    exact hands_val rfl (v := .slice sa l.length cap2) (w' := W) (by simp [execOp, e1, f1]) (Fr.refl _ _) rfl
  case o2 =>
    intro A W hfr hbase hdep
    have e19 : A.eval (.tmp 19) = .slice a2 bs.length c2 := hdep 0 19 (by kernel_rfl) (by kernel_rfl)
    have f19 : A.tmps[19]?.getD undef = .slice a2 bs.length c2 := by simpa [Act.eval] using e19
    have e20 : A.eval (.tmp 20) = .slice sa l.length cap2 := hdep 1 20 (by kernel_rfl) (by kernel_rfl)
    have f20 : A.tmps[20]?.getD undef = .slice sa l.length cap2 := by simpa [Act.eval] using e20
    refine hands_call rfl (args := #[.slice a2 bs.length c2, .slice sa l.length cap2]) (f := 22) (by simp [execOp, resolve, invoke, go_sem, e19, f19, e20, f20]) ?_
    refine (lput_any _ _ bs l _ ((s2.fr0 ((Fr.refl _ _).drew)).fr0 hfr) (((hl.fr0 F2).fr0 ((Fr.refl _ _).drew)).fr0 hfr) hU (by omega) (by omega)).mono ?_
    rintro e w' ⟨v', rfl, ho', f'⟩
    rw [HX.out] at ho'
    exact ⟨v', rfl, f', ho'.sl hXw.out⟩
  case o3 =>
    intro A W hfr hbase hdep
    have e21 := hdep 2 21 (by kernel_rfl) (by kernel_rfl)
    have hs := conv_run e21
    exact hands_val rfl (v := .string (strOfNums X)) (w' := W) (by simp [execOp, hs, Result.andThen]) (Fr.refl _ _) rfl
  case o4 =>
    intro A W hfr hbase hdep
    have e0 : A.eval (.tmp 0) = .slice a bs.length cap := hbase 0 (by kernel_rfl)
    have f0 : A.tmps[0]?.getD undef = .slice a bs.length cap := by simpa [Act.eval] using e0
    exact hands_val rfl (v := .slice a bs.length cap) (w' := W) (by simp [execOp, e0, f0]) (Fr.refl _ _) rfl
  case o5 =>
    intro A W hfr hbase hdep
    have e1 : A.eval (.tmp 1) = .slice sa l.length cap2 := hbase 1 (by kernel_rfl)
    have f1 : A.tmps[1]?.getD undef = .slice sa l.length cap2 := by simpa [Act.eval] using e1
    exact hands_val rfl (v := .slice sa l.length cap2) (w' := W) (by simp [execOp, e1, f1]) (Fr.refl _ _) rfl
  case o6 =>
    intro A W hfr hbase hdep
    have e23 : A.eval (.tmp 23) = .slice a bs.length cap := hdep 4 23 (by kernel_rfl) (by kernel_rfl)
    have f23 : A.tmps[23]?.getD undef = .slice a bs.length cap := by simpa [Act.eval] using e23
    have e24 : A.eval (.tmp 24) = .slice sa l.length cap2 := hdep 5 24 (by kernel_rfl) (by kernel_rfl)
    have f24 : A.tmps[24]?.getD undef = .slice sa l.length cap2 := by simpa [Act.eval] using e24
    refine hands_call rfl (args := #[.slice a bs.length cap, .slice sa l.length cap2]) (f := 23) (by simp [execOp, resolve, invoke, go_sem, e23, f23, e24, f24]) ?_
    refine (rput_any _ _ bs l _ (((hb.fr0 F2).fr0 ((Fr.refl _ _).drew)).fr0 hfr) (((hl.fr0 F2).fr0 ((Fr.refl _ _).drew)).fr0 hfr) hU (by omega) (by omega)).mono ?_
    rintro e w' ⟨v', rfl, ho', f'⟩
    rw [HX.out] at ho'
    exact ⟨v', rfl, f', ho'.sl hXw.out⟩
  case o7 =>
    intro A W hfr hbase hdep
    have e25 := hdep 6 25 (by kernel_rfl) (by kernel_rfl)
    have hs := conv_run e25
    exact hands_val rfl (v := .string (strOfNums X)) (w' := W) (by simp [execOp, hs, Result.andThen]) (Fr.refl _ _) rfl
  case o8 =>
    intro A W hfr hbase hdep
    have e22 : A.eval (.tmp 22) = .string (strOfNums X) := hdep 3 22 (by kernel_rfl) (by kernel_rfl)
    have f22 : A.tmps[22]?.getD undef = .string (strOfNums X) := by simpa [Act.eval] using e22
    have e26 : A.eval (.tmp 26) = .string (strOfNums X) := hdep 7 26 (by kernel_rfl) (by kernel_rfl)
    have f26 : A.tmps[26]?.getD undef = .string (strOfNums X) := by simpa [Act.eval] using e26
    exact hands_val rfl (v := .bool true) (w' := W) (by simp [execOp, go_sem, e22, f22, e26, f26]) (Fr.refl _ _) rfl
  case o9 =>
    intro A W hfr hbase hdep
    have e27 : A.eval (.tmp 27) = .bool true := hdep 8 27 (by kernel_rfl) (by kernel_rfl)
    have f27 : A.tmps[27]?.getD undef = .bool true := by simpa [Act.eval] using e27
    exact hands_val rfl (v := .bool true) (w' := W) (by simp [execOp, e27, f27]) (Fr.refl _ _) rfl
  case o10 =>
    intro A W hfr hbase hdep
    have e5 : A.eval (.tmp 5) = .slice a2 bs.length c2 := hbase 5 (by kernel_rfl)
    have f5 : A.tmps[5]?.getD undef = .slice a2 bs.length c2 := by simpa [Act.eval] using e5
    have eg : A.eval (.tmp 28) = .bool true := hdep 9 28 (by kernel_rfl) (by kernel_rfl)
    exact hands_val (wanted_of rfl (by kernel_rfl) eg) (v := .slice a2 bs.length c2) (w' := W) (by simp [execOp, e5, f5]) (Fr.refl _ _) rfl
  case o11 =>
    intro A W hfr hbase hdep
    have e29 : A.eval (.tmp 29) = .slice a2 bs.length c2 := hdep 10 29 (by kernel_rfl) (by kernel_rfl)
    have f29 : A.tmps[29]?.getD undef = .slice a2 bs.length c2 := by simpa [Act.eval] using e29
    have eg : A.eval (.tmp 28) = .bool true := hdep 9 28 (by kernel_rfl) (by kernel_rfl)
    have hs := conv_run ((s2.fr0 ((Fr.refl _ _).drew)).fr0 hfr)
    exact hands_val (wanted_of rfl (by kernel_rfl) eg) (v := .string (strOfNums bs)) (w' := W) (by simp [execOp, e29, hs, Result.andThen]) (Fr.refl _ _) rfl
  case o12 =>
    intro A W hfr hbase hdep
    have e0 : A.eval (.tmp 0) = .slice a bs.length cap := hbase 0 (by kernel_rfl)
    have f0 : A.tmps[0]?.getD undef = .slice a bs.length cap := by simpa [Act.eval] using e0
    have eg : A.eval (.tmp 28) = .bool true := hdep 9 28 (by kernel_rfl) (by kernel_rfl)
    exact hands_val (wanted_of rfl (by kernel_rfl) eg) (v := .slice a bs.length cap) (w' := W) (by simp [execOp, e0, f0]) (Fr.refl _ _) rfl
  case o13 =>
    intro A W hfr hbase hdep
    have e31 : A.eval (.tmp 31) = .slice a bs.length cap := hdep 12 31 (by kernel_rfl) (by kernel_rfl)
    have f31 : A.tmps[31]?.getD undef = .slice a bs.length cap := by simpa [Act.eval] using e31
    have eg : A.eval (.tmp 28) = .bool true := hdep 9 28 (by kernel_rfl) (by kernel_rfl)
    have hs := conv_run (((hb.fr0 F2).fr0 ((Fr.refl _ _).drew)).fr0 hfr)
    exact hands_val (wanted_of rfl (by kernel_rfl) eg) (v := .string (strOfNums bs)) (w' := W) (by simp [execOp, e31, hs, Result.andThen]) (Fr.refl _ _) rfl
  case o14 =>
    intro A W hfr hbase hdep
    have e30 : A.eval (.tmp 30) = .string (strOfNums bs) := hdep 11 30 (by kernel_rfl) (by kernel_rfl)
    have f30 : A.tmps[30]?.getD undef = .string (strOfNums bs) := by simpa [Act.eval] using e30
    have e32 : A.eval (.tmp 32) = .string (strOfNums bs) := hdep 13 32 (by kernel_rfl) (by kernel_rfl)
    have f32 : A.tmps[32]?.getD undef = .string (strOfNums bs) := by simpa [Act.eval] using e32
    have eg : A.eval (.tmp 28) = .bool true := hdep 9 28 (by kernel_rfl) (by kernel_rfl)
    exact hands_val (wanted_of rfl (by kernel_rfl) eg) (v := .bool true) (w' := W) (by simp [execOp, go_sem, e30, f30, e32, f32]) (Fr.refl _ _) rfl
  case o15 =>
    intro A W hfr hbase hdep
    have e28 : A.eval (.tmp 28) = .bool true := hdep 9 28 (by kernel_rfl) (by kernel_rfl)
    have f28 : A.tmps[28]?.getD undef = .bool true := by simpa [Act.eval] using e28
    have e33 : A.eval (.tmp 33) = .bool true := hdep 14 33 (by kernel_rfl) (by kernel_rfl)
    have f33 : A.tmps[33]?.getD undef = .bool true := by simpa [Act.eval] using e33
    exact hands_val rfl (v := .bool true) (w' := W) (by simp [execOp, go_sem, e28, f28, e33, f33]) (Fr.refl _ _) rfl
  case o16 =>
    intro A W hfr hbase hdep
    have e34 : A.eval (.tmp 34) = .bool true := hdep 15 34 (by kernel_rfl) (by kernel_rfl)
    have f34 : A.tmps[34]?.getD undef = .bool true := by simpa [Act.eval] using e34
    exact hands_val rfl (v := .bool true) (w' := W) (by simp [execOp, e34, f34]) (Fr.refl _ _) rfl
  case oe =>
    intro vs W' hfW hall
    have x0 : vs 0 = .slice a2 bs.length c2 := hall 0 (by rfl)
    have x1 : vs 1 = .slice sa l.length cap2 := hall 1 (by rfl)
    have x2 := hall 2 (by rfl)
    have x3 : vs 3 = .string (strOfNums X) := hall 3 (by rfl)
    have x4 : vs 4 = .slice a bs.length cap := hall 4 (by rfl)
    have x5 : vs 5 = .slice sa l.length cap2 := hall 5 (by rfl)
    have x6 := hall 6 (by rfl)
    have x7 : vs 7 = .string (strOfNums X) := hall 7 (by rfl)
    have x8 : vs 8 = .bool true := hall 8 (by rfl)
    have x9 : vs 9 = .bool true := hall 9 (by rfl)
    have x10 : vs 10 = .slice a2 bs.length c2 := hall 10 (by rfl)
    have x11 : vs 11 = .string (strOfNums bs) := hall 11 (by rfl)
    have x12 : vs 12 = .slice a bs.length cap := hall 12 (by rfl)
    have x13 : vs 13 = .string (strOfNums bs) := hall 13 (by rfl)
    have x14 : vs 14 = .bool true := hall 14 (by rfl)
    have x15 : vs 15 = .bool true := hall 15 (by rfl)
    have x16 : vs 16 = .bool true := hall 16 (by rfl)
    simp only [layL, Nat.reduceAdd, x0, x1, x3, x4, x5, x7, x8, x9, x10, x11, x12, x13, x14, x15, x16, Act.put, List.setIfInBounds_toArray, List.set_cons_zero, List.set_cons_succ]
    clear x0 x1 x3 x4 x5 x7 x8 x9 x10 x11 x12 x13 x14 x15 x16 hall
    generalize vs 2 = y2 at *
    generalize vs 6 = y6 at *
  --END M6
    go_wp2
    go_ret
    exact ⟨rfl, ((F2.drew).thenN hfW).below⟩
end Go.Proofs.YtcpkkdffedndiaaDoor
