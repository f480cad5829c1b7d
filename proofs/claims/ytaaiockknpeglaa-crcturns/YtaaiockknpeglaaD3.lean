/- The walk of CrcTurns: it answers true for all bytes, places and masks. -/
import Derived.Test.YtaaiockknpeglaaD3a
import Derived.Test.YtaaiockknpeglaaRI2
namespace Go.Proofs.Ytaaiockknpeglaa
open Go.RowKit Go.Proofs.U
set_option linter.unusedSimpArgs false
set_option linter.unusedVariables false

set_option maxHeartbeats 2000000 in
theorem turns_walk (v : Value) (l : List Int) (at' m : Int) (w : World) (h : SlI .u8 w v l) (_ha : (Lit.int .i64 at').wf = true) (hm0 : (Lit.int .u8 m).wf = true) :
    Calls Try.prog 5 #[v, .int .i64 at', .int .u8 m] w fun e w' => e = .returned (.bool true) ∧ Below w.heap.size w w' := by
  obtain ⟨a1, c1, rfl, hc1⟩ := h.opn
  by_cases hA : (500 : Int) < (l.length : Int)
  · go_enter Try.func5, Try.ntmps5
    go_wp2_with (go_at_call 9; go_must (refine (alive_any _).mono ?_; rintro e w1 ⟨rfl, hf1⟩))
    go_ret
    exact ⟨rfl, hf1.below⟩
  have hm := u8_bd hm0
  have hXw := turnI_wf l at' m h.2 hm
  have HXl := Hid.mk (turnI_length l at' m)
  have HXt := Hid.mk (turn_twice l at' m h.2)
  have HXd : Hid (turnI l at' m = if 0 ≤ at' ∧ at' < (l.length : Int) then l.set at'.toNat (xI (l.getD at'.toNat 0) m) else l) := rfl
  obtain ⟨X, HX⟩ : ∃ X, Hid (turnI l at' m = X) := ⟨_, rfl⟩
  rw [HX.out] at hXw HXl HXt HXd
  have hq1 : ((X.length : Int) != (l.length : Int)) = false := by rw [HXl.out]; simp
  go_enter Try.func5, Try.ntmps5
  go_wp2_with (first
    | (go_at_call 9; go_must (refine (alive_any _).mono ?_; rintro e w1 ⟨rfl, hf1⟩; have s1 := h.fr0 hf1))
    | (at_builtin; go_must (refine wpList_app rfl _ _ 24 rfl w1.heap.size 5 _ 1 1 Try.underlying24 info5 rfl (by decide) _ _ _ rfl (World.ownsRow_made _ #[] 0 (Nat.le_refl _) (Nat.zero_le _) rfl) _ _ _ rfl (s1.1.fr0 ((Fr.refl _ _).alloc _)) (ones _ _) ?hq1 ?hq2 ?hq3 ?_; rotate_left 3; intro v2 w2 hown2 hgr2; have hf2 := ((Fr.refl noB w1).alloc _).grown hgr2 (owns_new (World.ownsRow_made (e := 5) (size := 1) w1 #[] 0 (Nat.le_refl _) (Nat.zero_le _) rfl)); have ho2 : OwnI .u8 5 w2 w1.heap.size v2 l := OwnI.mk _ hown2 (by simp); have s2 := ho2.sl h.2; obtain ⟨a2, c2, rfl, hc2⟩ := s2.opn))
    | (go_at_call 16; go_must (refine (turn_any _ _ _ _ _ s2 (by omega) hm).mono ?_; rintro e w3 ⟨v3, rfl, ho3, hf3⟩; rw [HX.out] at ho3; have s3 := ho3.sl hXw; obtain ⟨a3, c3, rfl, hc3⟩ := s3.opn)))
  case hq1 => unfold maxLen; omega
  case hq2 => omega
  case hq3 => simp
  have g3 := (hf1.thenN hf2).thenN hf3
  have dr : Fr noB w3 w3.drew := (Fr.refl _ _).drew
  refine wp_region_lay (by kernel_rfl) [MFact.is (.slice a3 X.length c3), MFact.is (.int .i64 (X.length : Int)), MFact.is (.slice a1 l.length c1), MFact.is (.int .i64 (l.length : Int)), MFact.is (.bool false), MFact.is (.bool false), MFact.is (.slice a2 l.length c2), MFact.is (.string (strOfNums l)), MFact.is (.slice a1 l.length c1), MFact.is (.string (strOfNums l)), MFact.is (.bool false), MFact.is (.bool false), MFact.is (.bool false), MFact.is (.slice a3 X.length c3), MFact.is (.int .i64 at'), MFact.is (.int .u8 m), MFact.sl .u8 l, MFact.is (.string (strOfNums l)), MFact.is (.slice a1 l.length c1), MFact.is (.string (strOfNums l)), MFact.is (.bool false), MFact.is (.bool false)] (by kernel_rfl) ⟨?o0, ?o1, ?o2, ?o3, ?o4, ?o5, ?o6, ?o7, ?o8, ?o9, ?o10, ?o11, ?o12, ?o13, ?o14, ?o15, ?o16, ?o17, ?o18, ?o19, ?o20, ?o21, trivial⟩ ?oe
  case o0 =>
    intro A W hfr hbase hdep
    have e8 : A.eval (.tmp 8) = .slice a3 X.length c3 := hbase 8 (by kernel_rfl)
    have f8 : A.tmps[8]?.getD undef = .slice a3 X.length c3 := by simpa [Act.eval] using e8
    exact hands_val rfl (v := .slice a3 X.length c3) (w' := W) (by simp [execOp, e8, f8]) (Fr.refl _ _) rfl
  case o1 =>
    intro A W hfr hbase hdep
    have e23 : A.eval (.tmp 23) = .slice a3 X.length c3 := hdep 0 23 (by kernel_rfl) (by kernel_rfl)
    have f23 : A.tmps[23]?.getD undef = .slice a3 X.length c3 := by simpa [Act.eval] using e23
    exact hands_val rfl (v := .int .i64 (X.length : Int)) (w' := W) (by simp [execOp, go_sem, e23, f23]) (Fr.refl _ _) rfl
  case o2 =>
    intro A W hfr hbase hdep
    have e0 : A.eval (.tmp 0) = .slice a1 l.length c1 := hbase 0 (by kernel_rfl)
    have f0 : A.tmps[0]?.getD undef = .slice a1 l.length c1 := by simpa [Act.eval] using e0
    exact hands_val rfl (v := .slice a1 l.length c1) (w' := W) (by simp [execOp, e0, f0]) (Fr.refl _ _) rfl
  case o3 =>
    intro A W hfr hbase hdep
    have e25 : A.eval (.tmp 25) = .slice a1 l.length c1 := hdep 2 25 (by kernel_rfl) (by kernel_rfl)
    have f25 : A.tmps[25]?.getD undef = .slice a1 l.length c1 := by simpa [Act.eval] using e25
    exact hands_val rfl (v := .int .i64 (l.length : Int)) (w' := W) (by simp [execOp, go_sem, e25, f25]) (Fr.refl _ _) rfl
  case o4 =>
    intro A W hfr hbase hdep
    have e24 : A.eval (.tmp 24) = .int .i64 (X.length : Int) := hdep 1 24 (by kernel_rfl) (by kernel_rfl)
    have f24 : A.tmps[24]?.getD undef = .int .i64 (X.length : Int) := by simpa [Act.eval] using e24
    have e26 : A.eval (.tmp 26) = .int .i64 (l.length : Int) := hdep 3 26 (by kernel_rfl) (by kernel_rfl)
    have f26 : A.tmps[26]?.getD undef = .int .i64 (l.length : Int) := by simpa [Act.eval] using e26
    exact hands_val rfl (v := .bool false) (w' := W) (by simp [execOp, go_sem, f24, f26, HXl.out]) (Fr.refl _ _) rfl
  case o5 =>
    intro A W hfr hbase hdep
    have e27 : A.eval (.tmp 27) = .bool false := hdep 4 27 (by kernel_rfl) (by kernel_rfl)
    have f27 : A.tmps[27]?.getD undef = .bool false := by simpa [Act.eval] using e27
    exact hands_val rfl (v := .bool false) (w' := W) (by simp [execOp, e27, f27]) (Fr.refl _ _) rfl
  case o6 =>
    intro A W hfr hbase hdep
    have e7 : A.eval (.tmp 7) = .slice a2 l.length c2 := hbase 7 (by kernel_rfl)
    have f7 : A.tmps[7]?.getD undef = .slice a2 l.length c2 := by simpa [Act.eval] using e7
    have eg : A.eval (.tmp 28) = .bool false := hdep 5 28 (by kernel_rfl) (by kernel_rfl)
    exact hands_val (wanted_of rfl (by kernel_rfl) eg) (v := .slice a2 l.length c2) (w' := W) (by simp [execOp, e7, f7]) (Fr.refl _ _) rfl
  case o7 =>
    intro A W hfr hbase hdep
    have e29 : A.eval (.tmp 29) = .slice a2 l.length c2 := hdep 6 29 (by kernel_rfl) (by kernel_rfl)
    have f29 : A.tmps[29]?.getD undef = .slice a2 l.length c2 := by simpa [Act.eval] using e29
    have eg : A.eval (.tmp 28) = .bool false := hdep 5 28 (by kernel_rfl) (by kernel_rfl)
    have hs := conv_run (((s2.fr0 hf3).fr0 dr).fr0 hfr)
    exact hands_val (wanted_of rfl (by kernel_rfl) eg) (v := .string (strOfNums l)) (w' := W) (by simp [execOp, e29, hs, Result.andThen]) (Fr.refl _ _) rfl
  case o8 =>
    intro A W hfr hbase hdep
    have e0 : A.eval (.tmp 0) = .slice a1 l.length c1 := hbase 0 (by kernel_rfl)
    have f0 : A.tmps[0]?.getD undef = .slice a1 l.length c1 := by simpa [Act.eval] using e0
    have eg : A.eval (.tmp 28) = .bool false := hdep 5 28 (by kernel_rfl) (by kernel_rfl)
    exact hands_val (wanted_of rfl (by kernel_rfl) eg) (v := .slice a1 l.length c1) (w' := W) (by simp [execOp, e0, f0]) (Fr.refl _ _) rfl
  case o9 =>
    intro A W hfr hbase hdep
    have e31 : A.eval (.tmp 31) = .slice a1 l.length c1 := hdep 8 31 (by kernel_rfl) (by kernel_rfl)
    have f31 : A.tmps[31]?.getD undef = .slice a1 l.length c1 := by simpa [Act.eval] using e31
    have eg : A.eval (.tmp 28) = .bool false := hdep 5 28 (by kernel_rfl) (by kernel_rfl)
    have hs := conv_run (((h.fr0 g3).fr0 dr).fr0 hfr)
    exact hands_val (wanted_of rfl (by kernel_rfl) eg) (v := .string (strOfNums l)) (w' := W) (by simp [execOp, e31, hs, Result.andThen]) (Fr.refl _ _) rfl
  case o10 =>
    intro A W hfr hbase hdep
    have e30 : A.eval (.tmp 30) = .string (strOfNums l) := hdep 7 30 (by kernel_rfl) (by kernel_rfl)
    have f30 : A.tmps[30]?.getD undef = .string (strOfNums l) := by simpa [Act.eval] using e30
    have e32 : A.eval (.tmp 32) = .string (strOfNums l) := hdep 9 32 (by kernel_rfl) (by kernel_rfl)
    have f32 : A.tmps[32]?.getD undef = .string (strOfNums l) := by simpa [Act.eval] using e32
    have eg : A.eval (.tmp 28) = .bool false := hdep 5 28 (by kernel_rfl) (by kernel_rfl)
    exact hands_val (wanted_of rfl (by kernel_rfl) eg) (v := .bool false) (w' := W) (by simp [execOp, go_sem, e30, f30, e32, f32]) (Fr.refl _ _) rfl
  case o11 =>
    intro A W hfr hbase hdep
    have e28 : A.eval (.tmp 28) = .bool false := hdep 5 28 (by kernel_rfl) (by kernel_rfl)
    have f28 : A.tmps[28]?.getD undef = .bool false := by simpa [Act.eval] using e28
    have e33 : A.eval (.tmp 33) = .bool false := hdep 10 33 (by kernel_rfl) (by kernel_rfl)
    have f33 : A.tmps[33]?.getD undef = .bool false := by simpa [Act.eval] using e33
    exact hands_val rfl (v := .bool false) (w' := W) (by simp [execOp, go_sem, e28, f28, e33, f33]) (Fr.refl _ _) rfl
  case o12 =>
    intro A W hfr hbase hdep
    have e34 : A.eval (.tmp 34) = .bool false := hdep 11 34 (by kernel_rfl) (by kernel_rfl)
    have f34 : A.tmps[34]?.getD undef = .bool false := by simpa [Act.eval] using e34
    exact hands_val rfl (v := .bool false) (w' := W) (by simp [execOp, e34, f34]) (Fr.refl _ _) rfl
  case o13 =>
    intro A W hfr hbase hdep
    have e8 : A.eval (.tmp 8) = .slice a3 X.length c3 := hbase 8 (by kernel_rfl)
    have f8 : A.tmps[8]?.getD undef = .slice a3 X.length c3 := by simpa [Act.eval] using e8
    have eg : A.eval (.tmp 35) = .bool false := hdep 12 35 (by kernel_rfl) (by kernel_rfl)
    exact hands_val (wanted_of rfl (by kernel_rfl) eg) (v := .slice a3 X.length c3) (w' := W) (by simp [execOp, e8, f8]) (Fr.refl _ _) rfl
  case o14 =>
    intro A W hfr hbase hdep
    have e1 : A.eval (.tmp 1) = .int .i64 at' := hbase 1 (by kernel_rfl)
    have f1 : A.tmps[1]?.getD undef = .int .i64 at' := by simpa [Act.eval] using e1
    have eg : A.eval (.tmp 35) = .bool false := hdep 12 35 (by kernel_rfl) (by kernel_rfl)
    exact hands_val (wanted_of rfl (by kernel_rfl) eg) (v := .int .i64 at') (w' := W) (by simp [execOp, e1, f1]) (Fr.refl _ _) rfl
  case o15 =>
    intro A W hfr hbase hdep
    have e2 : A.eval (.tmp 2) = .int .u8 m := hbase 2 (by kernel_rfl)
    have f2 : A.tmps[2]?.getD undef = .int .u8 m := by simpa [Act.eval] using e2
    have eg : A.eval (.tmp 35) = .bool false := hdep 12 35 (by kernel_rfl) (by kernel_rfl)
    exact hands_val (wanted_of rfl (by kernel_rfl) eg) (v := .int .u8 m) (w' := W) (by simp [execOp, e2, f2]) (Fr.refl _ _) rfl
  case o16 =>
    intro A W hfr hbase hdep
    have e36 : A.eval (.tmp 36) = .slice a3 X.length c3 := hdep 13 36 (by kernel_rfl) (by kernel_rfl)
    have f36 : A.tmps[36]?.getD undef = .slice a3 X.length c3 := by simpa [Act.eval] using e36
    have e37 : A.eval (.tmp 37) = .int .i64 at' := hdep 14 37 (by kernel_rfl) (by kernel_rfl)
    have f37 : A.tmps[37]?.getD undef = .int .i64 at' := by simpa [Act.eval] using e37
    have e38 : A.eval (.tmp 38) = .int .u8 m := hdep 15 38 (by kernel_rfl) (by kernel_rfl)
    have f38 : A.tmps[38]?.getD undef = .int .u8 m := by simpa [Act.eval] using e38
    have eg : A.eval (.tmp 35) = .bool false := hdep 12 35 (by kernel_rfl) (by kernel_rfl)
    refine hands_call (wanted_of rfl (by kernel_rfl) eg) (args := #[.slice a3 X.length c3, .int .i64 at', .int .u8 m]) (f := 16) (by simp [execOp, resolve, invoke, go_sem, e36, f36, e37, f37, e38, f38]) ?_
    refine (turn_any _ X _ _ _ ((s3.fr0 dr).fr0 hfr) (by have := HXl.out; omega) hm).mono ?_
    rintro e w4 ⟨v4, rfl, ho4, hf4⟩
    rw [HXt.out] at ho4
    exact ⟨v4, rfl, hf4, ho4.sl h.2⟩
  case o17 =>
    intro A W hfr hbase hdep
    have e39 := hdep 16 39 (by kernel_rfl) (by kernel_rfl)
    have eg : A.eval (.tmp 35) = .bool false := hdep 12 35 (by kernel_rfl) (by kernel_rfl)
    have hs := conv_run e39
    exact hands_val (wanted_of rfl (by kernel_rfl) eg) (v := .string (strOfNums l)) (w' := W) (by simp [execOp, hs, Result.andThen]) (Fr.refl _ _) rfl
  case o18 =>
    intro A W hfr hbase hdep
    have e0 : A.eval (.tmp 0) = .slice a1 l.length c1 := hbase 0 (by kernel_rfl)
    have f0 : A.tmps[0]?.getD undef = .slice a1 l.length c1 := by simpa [Act.eval] using e0
    have eg : A.eval (.tmp 35) = .bool false := hdep 12 35 (by kernel_rfl) (by kernel_rfl)
    exact hands_val (wanted_of rfl (by kernel_rfl) eg) (v := .slice a1 l.length c1) (w' := W) (by simp [execOp, e0, f0]) (Fr.refl _ _) rfl
  case o19 =>
    intro A W hfr hbase hdep
    have e41 : A.eval (.tmp 41) = .slice a1 l.length c1 := hdep 18 41 (by kernel_rfl) (by kernel_rfl)
    have f41 : A.tmps[41]?.getD undef = .slice a1 l.length c1 := by simpa [Act.eval] using e41
    have eg : A.eval (.tmp 35) = .bool false := hdep 12 35 (by kernel_rfl) (by kernel_rfl)
    have hs := conv_run (((h.fr0 g3).fr0 dr).fr0 hfr)
    exact hands_val (wanted_of rfl (by kernel_rfl) eg) (v := .string (strOfNums l)) (w' := W) (by simp [execOp, e41, hs, Result.andThen]) (Fr.refl _ _) rfl
  case o20 =>
    intro A W hfr hbase hdep
    have e40 : A.eval (.tmp 40) = .string (strOfNums l) := hdep 17 40 (by kernel_rfl) (by kernel_rfl)
    have f40 : A.tmps[40]?.getD undef = .string (strOfNums l) := by simpa [Act.eval] using e40
    have e42 : A.eval (.tmp 42) = .string (strOfNums l) := hdep 19 42 (by kernel_rfl) (by kernel_rfl)
    have f42 : A.tmps[42]?.getD undef = .string (strOfNums l) := by simpa [Act.eval] using e42
    have eg : A.eval (.tmp 35) = .bool false := hdep 12 35 (by kernel_rfl) (by kernel_rfl)
    exact hands_val (wanted_of rfl (by kernel_rfl) eg) (v := .bool false) (w' := W) (by simp [execOp, go_sem, e40, f40, e42, f42]) (Fr.refl _ _) rfl
  case o21 =>
    intro A W hfr hbase hdep
    have e35 : A.eval (.tmp 35) = .bool false := hdep 12 35 (by kernel_rfl) (by kernel_rfl)
    have f35 : A.tmps[35]?.getD undef = .bool false := by simpa [Act.eval] using e35
    have e43 : A.eval (.tmp 43) = .bool false := hdep 20 43 (by kernel_rfl) (by kernel_rfl)
    have f43 : A.tmps[43]?.getD undef = .bool false := by simpa [Act.eval] using e43
    exact hands_val rfl (v := .bool false) (w' := W) (by simp [execOp, go_sem, e35, f35, e43, f43]) (Fr.refl _ _) rfl
  case oe =>
    intro vs W' hfW hall
    have x0 : vs 0 = .slice a3 X.length c3 := hall 0 (by rfl)
    have x1 : vs 1 = .int .i64 (X.length : Int) := hall 1 (by rfl)
    have x2 : vs 2 = .slice a1 l.length c1 := hall 2 (by rfl)
    have x3 : vs 3 = .int .i64 (l.length : Int) := hall 3 (by rfl)
    have x4 : vs 4 = .bool false := hall 4 (by rfl)
    have x5 : vs 5 = .bool false := hall 5 (by rfl)
    have x6 : vs 6 = .slice a2 l.length c2 := hall 6 (by rfl)
    have x7 : vs 7 = .string (strOfNums l) := hall 7 (by rfl)
    have x8 : vs 8 = .slice a1 l.length c1 := hall 8 (by rfl)
    have x9 : vs 9 = .string (strOfNums l) := hall 9 (by rfl)
    have x10 : vs 10 = .bool false := hall 10 (by rfl)
    have x11 : vs 11 = .bool false := hall 11 (by rfl)
    have x12 : vs 12 = .bool false := hall 12 (by rfl)
    have x13 : vs 13 = .slice a3 X.length c3 := hall 13 (by rfl)
    have x14 : vs 14 = .int .i64 at' := hall 14 (by rfl)
    have x15 : vs 15 = .int .u8 m := hall 15 (by rfl)
    have x16 := hall 16 (by rfl)
    have x17 : vs 17 = .string (strOfNums l) := hall 17 (by rfl)
    have x18 : vs 18 = .slice a1 l.length c1 := hall 18 (by rfl)
    have x19 : vs 19 = .string (strOfNums l) := hall 19 (by rfl)
    have x20 : vs 20 = .bool false := hall 20 (by rfl)
    have x21 : vs 21 = .bool false := hall 21 (by rfl)
    simp only [layL, Nat.reduceAdd, x0, x1, x2, x3, x4, x5, x6, x7, x8, x9, x10, x11, x12, x13, x14, x15, x17, x18, x19, x20, x21, Act.put, List.setIfInBounds_toArray, List.set_cons_zero, List.set_cons_succ]
    clear x0 x1 x2 x3 x4 x5 x6 x7 x8 x9 x10 x11 x12 x13 x14 x15 x17 x18 x19 x20 x21 hall
    generalize vs 16 = y16 at *
    have g4 : Fr noB w W' := (g3.thenN dr).thenN hfW
    have s04 := h.fr0 g4
    have s34 := (s3.fr0 dr).fr0 hfW
    go_wp2_with fail
    go_loop [47] (fun i => ∃ k : Nat, k ≤ l.length ∧ i = .int .i64 k) (fun i => l.length - (intOf i).toNat)
    case atStart => exact ⟨0, Nat.zero_le _, rfl⟩
    case round =>
      obtain ⟨k, hk, rfl⟩ := hrel
      by_cases hlt : k < l.length
      · have hlX : k < X.length := by rw [HXl.out]; exact hlt
        have hbd := u8_bd (h.2 l[k] (by simp))
        have hd : l.getD k 0 = l[k] := by simp [List.getD, hlt]
        by_cases hka : (k : Int) = at'
        · have hx : X.getD k 0 = xI l[k] m := by
            rw [HXd.out, if_pos (by omega), show at'.toNat = k by omega, hd]
            simp [List.getD, hlt]
          have hxx : bits .xor .u8 l[k] m = xI l[k] m := u8_xor _ _ hbd.1 hbd.2 hm.1 hm.2
          have hne : (xI l[k] m != xI l[k] m) = false := by simp
          have Hx := Hid.mk hx
          clear hx
          subst hka
          go_wp2_with (first | (refine wpList_idx1 rfl 24 _ _ rfl 5 Try.underlying24 size5 (.slice a1 l.length c1) _ _ rfl s04.1 _ _ k rfl rfl hlt ?_; intro p u hu hc; obtain rfl := getu _ _ _ _ hu; rw [hd] at hc) | (refine wpList_idx1 rfl 24 _ _ rfl 5 Try.underlying24 size5 (.slice a3 X.length c3) _ _ rfl s34.1 _ _ k rfl rfl hlX ?_; intro p u hu hc2; obtain rfl := getu _ _ _ _ hu; rw [Hx.out] at hc2))
          go_round
          case rel => exact ⟨k + 1, by omega, by go_num⟩
          case measure => simp [intOf]; omega
        · have hx : X.getD k 0 = l[k] := by
            rw [HXd.out]
            split
            · rename_i hc
              have : at'.toNat ≠ k := by omega
              simp [List.getD, hlt, List.getElem?_set, this]
            · exact hd
          have hkb : ((k : Int) == at') = false := by simpa using hka
          have hne : (l[k] != l[k]) = false := by simp
          have Hx := Hid.mk hx
          clear hx
          go_wp2_with (first | (refine wpList_idx1 rfl 24 _ _ rfl 5 Try.underlying24 size5 (.slice a1 l.length c1) _ _ rfl s04.1 _ _ k rfl rfl hlt ?_; intro p u hu hc; obtain rfl := getu _ _ _ _ hu; rw [hd] at hc) | (refine wpList_idx1 rfl 24 _ _ rfl 5 Try.underlying24 size5 (.slice a3 X.length c3) _ _ rfl s34.1 _ _ k rfl rfl hlX ?_; intro p u hu hc2; obtain rfl := getu _ _ _ _ hu; rw [Hx.out] at hc2))
          go_round
          case rel => exact ⟨k + 1, by omega, by go_num⟩
          case measure => simp [intOf]; omega
      · go_wp2
        go_ret
        exact ⟨rfl, g4.below⟩
end Go.Proofs.Ytaaiockknpeglaa
