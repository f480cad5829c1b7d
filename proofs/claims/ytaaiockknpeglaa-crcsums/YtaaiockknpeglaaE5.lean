/- The walk of CrcSums: it answers true for all parts. -/
import Derived.Test.YtaaiockknpeglaaE4
import Derived.Test.YtaaiockknpeglaaC5
namespace Go.Proofs.Ytaaiockknpeglaa
open Go.RowKit Go.Proofs.U
set_option linter.unusedSimpArgs false
set_option linter.unusedVariables false

set_option maxHeartbeats 2000000 in
theorem sums_walk (v : Value) (ls : List (List Int)) (w : World) (h : SlB w v ls) :
    Calls Try.prog 3 #[v] w fun e w' => e = .returned (.bool true) ∧ Below w.heap.size w w' := by
  have hB0 := h
  obtain ⟨a1, c1, rfl, hc1⟩ := h.opn
  by_cases hA : (20 : Int) < (ls.length : Int)
  · go_enter Try.func3, Try.ntmps3
    go_wp2_with (go_at_call 9; go_must (refine (alive_any _).mono ?_; rintro e w1 ⟨rfl, hf1⟩))
    go_ret
    exact ⟨rfl, hf1.below⟩
  obtain ⟨vs, hS, hin⟩ := h
  have hwf := mem_flat_wf hB0
  obtain ⟨F, hF0, hFe, hFs, hFl⟩ := parts ls
  have HF0 := Hid.mk hF0
  have HFe := Hid.mk hFe
  have HFs := Hid.mk hFs
  have HL : ∃ L, ls.flatten = L := ⟨_, rfl⟩
  obtain ⟨L, hL⟩ := HL
  rw [hL] at HFe hwf
  have HLL := Hid.mk hL
  clear hF0 hFe hFs hL hFl
  go_enter Try.func3, Try.ntmps3
  go_wp2_with (first
    | (go_at_call 9; go_must (refine (alive_any _).mono ?_; rintro e w1 ⟨rfl, hf1⟩)))
  go_loopw [3, 15] (fun out i wr => ∃ k : Nat, k ≤ ls.length ∧ i = .int .i64 k ∧ OwnI .u8 5 wr w1.heap.size out (F k) ∧ Fr noB w wr ∧ w1.heap.size ≤ wr.heap.size ∧ Hid ((F k).length ≤ 200 * k ∧ ∀ j (hj : j < ls.length), j < k → ls[j].length ≤ 200)) (fun _ i _ => ls.length - (intOf i).toNat)
  case atStart =>
    refine ⟨0, Nat.zero_le _, rfl, ?_, hf1.alloc _, by simp, ?_⟩
    · rw [HF0.out]
      exact OwnI.mk [] (World.ownsRow_made (e := 5) (size := 1) w1 #[] 0 (Nat.le_refl _) (Nat.zero_le _) rfl) rfl
    · rw [HF0.out]; exact ⟨by simp, fun j hj h => by omega⟩
  case round =>
    obtain ⟨k, hk, rfl, ho, hf, hsz, HQ⟩ := hrel
    by_cases hlt : k < ls.length
    · have hink := hin k hlt
      have hS' := hS.fr0 hf
      have hFk := HQ.out.1
      by_cases hbig : (200 : Int) < (ls[k].length : Int)
      · go_wp2_with (refine wpList_idx1 rfl 22 _ _ rfl 24 Try.underlying22 size24 _ _ _ rfl hS' _ _ k rfl rfl hlt ?_; intro p u hu hc; have hul := (hink u hu).fr0 hf; obtain ⟨a2, c2, rfl, hc2⟩ := hul.opn)
        go_ret
        exact ⟨rfl, hf.below⟩
      · go_wp2_with (first
          | (refine wpList_idx1 rfl 22 _ _ rfl 24 Try.underlying22 size24 _ _ _ rfl hS' _ _ k rfl rfl hlt ?_; intro p u hu hc; have hul := (hink u hu).fr0 hf; obtain ⟨a2, c2, rfl, hc2⟩ := hul.opn)
          | (at_builtin; go_must (refine wpList_app rfl _ _ 24 rfl w1.heap.size 5 _ 1 1 Try.underlying24 info5 rfl (by decide) _ _ _ rfl ho _ _ _ rfl hul.1 (U.ones _ _) ?hq1 ?hq2 hsz ?_; rotate_left 2; intro v4 w4 hown4 hgr4)))
        case hq1 => unfold maxLen; omega
        case hq2 => omega
        go_roundw
        case rel =>
          refine ⟨k + 1, by omega, by go_num, OwnI.mk _ hown4 (by rw [HFs.out k hlt]; simp), hf.grown hgr4 (fun j hj hjl => by have := (ho.newB j hj).1; have := hf1.size; omega), Nat.le_trans hsz hgr4.size, ?_⟩
          refine ⟨by rw [HFs.out k hlt, List.length_append]; omega, fun j hj h => ?_⟩
          by_cases hjk : j = k
          · subst hjk; omega
          · exact HQ.out.2 j hj (by omega)
        case measure => simp [intOf]; omega
    · obtain rfl : k = ls.length := by omega
      rw [HFe.out] at ho HQ
      have hsl := ho.sl hwf
      obtain ⟨a3, c3, rfl⟩ := ho.opn
      have hLb : L.length ≤ 4000 := by have := HQ.out.1; omega
      have hbig : big ls := ⟨by omega, fun l hl => by obtain ⟨j, hj, rfl⟩ := List.mem_iff_getElem.1 hl; have := HQ.out.2 j hj hj; omega⟩
      have hpB := hB0.fr0 hf
      have hYw := sealI_wf L hwf
      obtain ⟨Y, HY⟩ : ∃ Y, Hid (sealI L = Y) := ⟨_, rfl⟩
      rw [HY.out] at hYw
      obtain ⟨N, HN⟩ : ∃ N, Hid (crcI L = N) := ⟨_, rfl⟩
      go_wp2_with (first
        | (go_at_call 10; go_must (refine (rof_any _ _ _ hsl (by omega)).mono ?_; rintro e w5 ⟨rfl, hf5⟩; rw [HN.out])))
      have g5 := hf.thenN hf5
      have dr : Fr noB w5 w5.drew := (Fr.refl _ _).drew
      have hp5 := (hpB.fr0 hf5).fr0 dr
      have hs5 := (hsl.fr0 hf5).fr0 dr
      refine wp_region_lay (by kernel_rfl) [MFact.is (.slice a1 ls.length c1), MFact.is (.int .u32 N), MFact.is (.int .u32 N), MFact.is (.bool true), MFact.is (.bool true), MFact.is (.slice a3 L.length c3), MFact.one (.slice a3 L.length c3), MFact.is (.int .u32 N), MFact.is (.int .u32 N), MFact.is (.bool true), MFact.is (.bool true), MFact.is (.bool true), MFact.is (.slice a1 ls.length c1), MFact.sl .u8 Y, MFact.is (.string (strOfNums Y)), MFact.is (.slice a3 L.length c3), MFact.sl .u8 Y, MFact.is (.string (strOfNums Y)), MFact.is (.bool true), MFact.is (.bool true), MFact.is (.bool true)] (by kernel_rfl) ⟨?o0, ?o1, ?o2, ?o3, ?o4, ?o5, ?o6, ?o7, ?o8, ?o9, ?o10, ?o11, ?o12, ?o13, ?o14, ?o15, ?o16, ?o17, ?o18, ?o19, ?o20, trivial⟩ ?oe
      case o0 =>
        intro A W hfr hbase hdep
        have e0 : A.eval (.tmp 0) = .slice a1 ls.length c1 := hbase 0 (by kernel_rfl)
        have f0 : A.tmps[0]?.getD undef = .slice a1 ls.length c1 := by simpa [Act.eval] using e0
        exact hands_val rfl (v := .slice a1 ls.length c1) (w' := W) (by simp [execOp, e0, f0]) (Fr.refl _ _) rfl
      case o1 =>
        intro A W hfr hbase hdep
        have e28 : A.eval (.tmp 28) = .slice a1 ls.length c1 := hdep 0 28 (by kernel_rfl) (by kernel_rfl)
        have f28 : A.tmps[28]?.getD undef = .slice a1 ls.length c1 := by simpa [Act.eval] using e28
        refine hands_call rfl (args := #[.slice a1 ls.length c1]) (f := 11) (by simp [execOp, resolve, invoke, go_sem, e28, f28]) ?_
        refine (of_any _ ls _ (hp5.fr0 hfr) hbig).mono ?_
        rintro e w6 ⟨rfl, rfl⟩
        rw [HLL.out, HN.out]
        exact ⟨_, rfl, Fr.refl _ _, rfl⟩
      case o2 =>
        intro A W hfr hbase hdep
        have e6 : A.eval (.tmp 6) = .int .u32 N := hbase 6 (by kernel_rfl)
        have f6 : A.tmps[6]?.getD undef = .int .u32 N := by simpa [Act.eval] using e6
        exact hands_val rfl (v := .int .u32 N) (w' := W) (by simp [execOp, e6, f6]) (Fr.refl _ _) rfl
      case o3 =>
        intro A W hfr hbase hdep
        have e29 : A.eval (.tmp 29) = .int .u32 N := hdep 1 29 (by kernel_rfl) (by kernel_rfl)
        have f29 : A.tmps[29]?.getD undef = .int .u32 N := by simpa [Act.eval] using e29
        have e30 : A.eval (.tmp 30) = .int .u32 N := hdep 2 30 (by kernel_rfl) (by kernel_rfl)
        have f30 : A.tmps[30]?.getD undef = .int .u32 N := by simpa [Act.eval] using e30
        exact hands_val rfl (v := .bool true) (w' := W) (by simp [execOp, go_sem, e29, f29, e30, f30]) (Fr.refl _ _) rfl
      case o4 =>
        intro A W hfr hbase hdep
        have e31 : A.eval (.tmp 31) = .bool true := hdep 3 31 (by kernel_rfl) (by kernel_rfl)
        have f31 : A.tmps[31]?.getD undef = .bool true := by simpa [Act.eval] using e31
        exact hands_val rfl (v := .bool true) (w' := W) (by simp [execOp, e31, f31]) (Fr.refl _ _) rfl
      case o5 =>
        intro A W hfr hbase hdep
        have e3 : A.eval (.tmp 3) = .slice a3 L.length c3 := hbase 3 (by kernel_rfl)
        have f3 : A.tmps[3]?.getD undef = .slice a3 L.length c3 := by simpa [Act.eval] using e3
        have eg : A.eval (.tmp 32) = .bool true := hdep 4 32 (by kernel_rfl) (by kernel_rfl)
        exact hands_val (wanted_of rfl (by kernel_rfl) eg) (v := .slice a3 L.length c3) (w' := W) (by simp [execOp, e3, f3]) (Fr.refl _ _) rfl
      case o6 =>
        intro A W hfr hbase hdep
        have e33 : A.eval (.tmp 33) = .slice a3 L.length c3 := hdep 5 33 (by kernel_rfl) (by kernel_rfl)
        have f33 : A.tmps[33]?.getD undef = .slice a3 L.length c3 := by simpa [Act.eval] using e33
        have eg : A.eval (.tmp 32) = .bool true := hdep 4 32 (by kernel_rfl) (by kernel_rfl)
        refine hands_val (wanted_of rfl (by kernel_rfl) eg) (v := .slice (some ⟨W.heap.size, 0, none⟩) 1 1) (w' := W.alloc (.cells #[.slice a3 L.length c3] 24)) ?_ ((Fr.refl _ _).alloc _) ⟨W.heap.size, rfl, by simp⟩
        simp [execOp, go_sem, e33, f33]
      case o7 =>
        intro A W hfr hbase hdep
        obtain ⟨g34, e34, c34⟩ := hdep 6 34 (by kernel_rfl) (by kernel_rfl)
        have f34 : A.tmps[34]?.getD undef = .slice (some ⟨g34, 0, none⟩) 1 1 := by simpa [Act.eval] using e34
        have eg : A.eval (.tmp 32) = .bool true := hdep 4 32 (by kernel_rfl) (by kernel_rfl)
        refine hands_call (wanted_of rfl (by kernel_rfl) eg) (args := #[.slice (some ⟨g34, 0, none⟩) 1 1]) (f := 11) (by simp [execOp, resolve, invoke, go_sem, f34, e34]) ?_
        refine (of_one' L N HN.out _ g34 _ c34 (hs5.fr0 hfr) (by omega)).mono ?_
        rintro e w6 ⟨rfl, rfl⟩
        exact ⟨_, rfl, Fr.refl _ _, rfl⟩
      case o8 =>
        intro A W hfr hbase hdep
        have e6 : A.eval (.tmp 6) = .int .u32 N := hbase 6 (by kernel_rfl)
        have f6 : A.tmps[6]?.getD undef = .int .u32 N := by simpa [Act.eval] using e6
        have eg : A.eval (.tmp 32) = .bool true := hdep 4 32 (by kernel_rfl) (by kernel_rfl)
        exact hands_val (wanted_of rfl (by kernel_rfl) eg) (v := .int .u32 N) (w' := W) (by simp [execOp, e6, f6]) (Fr.refl _ _) rfl
      case o9 =>
        intro A W hfr hbase hdep
        have e35 : A.eval (.tmp 35) = .int .u32 N := hdep 7 35 (by kernel_rfl) (by kernel_rfl)
        have f35 : A.tmps[35]?.getD undef = .int .u32 N := by simpa [Act.eval] using e35
        have e36 : A.eval (.tmp 36) = .int .u32 N := hdep 8 36 (by kernel_rfl) (by kernel_rfl)
        have f36 : A.tmps[36]?.getD undef = .int .u32 N := by simpa [Act.eval] using e36
        have eg : A.eval (.tmp 32) = .bool true := hdep 4 32 (by kernel_rfl) (by kernel_rfl)
        exact hands_val (wanted_of rfl (by kernel_rfl) eg) (v := .bool true) (w' := W) (by simp [execOp, go_sem, e35, f35, e36, f36]) (Fr.refl _ _) rfl
      case o10 =>
        intro A W hfr hbase hdep
        have e32 : A.eval (.tmp 32) = .bool true := hdep 4 32 (by kernel_rfl) (by kernel_rfl)
        have f32 : A.tmps[32]?.getD undef = .bool true := by simpa [Act.eval] using e32
        have e37 : A.eval (.tmp 37) = .bool true := hdep 9 37 (by kernel_rfl) (by kernel_rfl)
        have f37 : A.tmps[37]?.getD undef = .bool true := by simpa [Act.eval] using e37
        exact hands_val rfl (v := .bool true) (w' := W) (by simp [execOp, go_sem, e32, f32, e37, f37]) (Fr.refl _ _) rfl
      case o11 =>
        intro A W hfr hbase hdep
        have e38 : A.eval (.tmp 38) = .bool true := hdep 10 38 (by kernel_rfl) (by kernel_rfl)
        have f38 : A.tmps[38]?.getD undef = .bool true := by simpa [Act.eval] using e38
        exact hands_val rfl (v := .bool true) (w' := W) (by simp [execOp, e38, f38]) (Fr.refl _ _) rfl
      case o12 =>
        intro A W hfr hbase hdep
        have e0 : A.eval (.tmp 0) = .slice a1 ls.length c1 := hbase 0 (by kernel_rfl)
        have f0 : A.tmps[0]?.getD undef = .slice a1 ls.length c1 := by simpa [Act.eval] using e0
        have eg : A.eval (.tmp 39) = .bool true := hdep 11 39 (by kernel_rfl) (by kernel_rfl)
        exact hands_val (wanted_of rfl (by kernel_rfl) eg) (v := .slice a1 ls.length c1) (w' := W) (by simp [execOp, e0, f0]) (Fr.refl _ _) rfl
      case o13 =>
        intro A W hfr hbase hdep
        have e40 : A.eval (.tmp 40) = .slice a1 ls.length c1 := hdep 12 40 (by kernel_rfl) (by kernel_rfl)
        have f40 : A.tmps[40]?.getD undef = .slice a1 ls.length c1 := by simpa [Act.eval] using e40
        have eg : A.eval (.tmp 39) = .bool true := hdep 11 39 (by kernel_rfl) (by kernel_rfl)
        refine hands_call (wanted_of rfl (by kernel_rfl) eg) (args := #[.slice a1 ls.length c1]) (f := 12) (by simp [execOp, resolve, invoke, go_sem, e40, f40]) ?_
        refine (seal_any _ ls L HLL.out _ (hp5.fr0 hfr) (by omega) (by omega)).mono ?_
        rintro e w7 ⟨v7, rfl, ho7, hf7⟩
        rw [HY.out] at ho7
        exact ⟨v7, rfl, hf7, ho7.sl hYw⟩
      case o14 =>
        intro A W hfr hbase hdep
        have e41 := hdep 13 41 (by kernel_rfl) (by kernel_rfl)
        have eg : A.eval (.tmp 39) = .bool true := hdep 11 39 (by kernel_rfl) (by kernel_rfl)
        have hs := conv_run e41
        exact hands_val (wanted_of rfl (by kernel_rfl) eg) (v := .string (strOfNums Y)) (w' := W) (by simp [execOp, hs, Result.andThen]) (Fr.refl _ _) rfl
      case o15 =>
        intro A W hfr hbase hdep
        have e3 : A.eval (.tmp 3) = .slice a3 L.length c3 := hbase 3 (by kernel_rfl)
        have f3 : A.tmps[3]?.getD undef = .slice a3 L.length c3 := by simpa [Act.eval] using e3
        have eg : A.eval (.tmp 39) = .bool true := hdep 11 39 (by kernel_rfl) (by kernel_rfl)
        exact hands_val (wanted_of rfl (by kernel_rfl) eg) (v := .slice a3 L.length c3) (w' := W) (by simp [execOp, e3, f3]) (Fr.refl _ _) rfl
      case o16 =>
        intro A W hfr hbase hdep
        have e43 : A.eval (.tmp 43) = .slice a3 L.length c3 := hdep 15 43 (by kernel_rfl) (by kernel_rfl)
        have f43 : A.tmps[43]?.getD undef = .slice a3 L.length c3 := by simpa [Act.eval] using e43
        have eg : A.eval (.tmp 39) = .bool true := hdep 11 39 (by kernel_rfl) (by kernel_rfl)
        refine hands_call (wanted_of rfl (by kernel_rfl) eg) (args := #[.slice a3 L.length c3]) (f := 13) (by simp [execOp, resolve, invoke, go_sem, e43, f43]) ?_
        refine (rseal_any _ L _ (hs5.fr0 hfr) (by omega)).mono ?_
        rintro e w8 ⟨v8, rfl, ho8, hf8⟩
        rw [HY.out] at ho8
        exact ⟨v8, rfl, hf8, ho8.sl hYw⟩
      case o17 =>
        intro A W hfr hbase hdep
        have e44 := hdep 16 44 (by kernel_rfl) (by kernel_rfl)
        have eg : A.eval (.tmp 39) = .bool true := hdep 11 39 (by kernel_rfl) (by kernel_rfl)
        have hs := conv_run e44
        exact hands_val (wanted_of rfl (by kernel_rfl) eg) (v := .string (strOfNums Y)) (w' := W) (by simp [execOp, hs, Result.andThen]) (Fr.refl _ _) rfl
      case o18 =>
        intro A W hfr hbase hdep
        have e42 : A.eval (.tmp 42) = .string (strOfNums Y) := hdep 14 42 (by kernel_rfl) (by kernel_rfl)
        have f42 : A.tmps[42]?.getD undef = .string (strOfNums Y) := by simpa [Act.eval] using e42
        have e45 : A.eval (.tmp 45) = .string (strOfNums Y) := hdep 17 45 (by kernel_rfl) (by kernel_rfl)
        have f45 : A.tmps[45]?.getD undef = .string (strOfNums Y) := by simpa [Act.eval] using e45
        have eg : A.eval (.tmp 39) = .bool true := hdep 11 39 (by kernel_rfl) (by kernel_rfl)
        exact hands_val (wanted_of rfl (by kernel_rfl) eg) (v := .bool true) (w' := W) (by simp [execOp, go_sem, e42, f42, e45, f45]) (Fr.refl _ _) rfl
      case o19 =>
        intro A W hfr hbase hdep
        have e39 : A.eval (.tmp 39) = .bool true := hdep 11 39 (by kernel_rfl) (by kernel_rfl)
        have f39 : A.tmps[39]?.getD undef = .bool true := by simpa [Act.eval] using e39
        have e46 : A.eval (.tmp 46) = .bool true := hdep 18 46 (by kernel_rfl) (by kernel_rfl)
        have f46 : A.tmps[46]?.getD undef = .bool true := by simpa [Act.eval] using e46
        exact hands_val rfl (v := .bool true) (w' := W) (by simp [execOp, go_sem, e39, f39, e46, f46]) (Fr.refl _ _) rfl
      case o20 =>
        intro A W hfr hbase hdep
        have e47 : A.eval (.tmp 47) = .bool true := hdep 19 47 (by kernel_rfl) (by kernel_rfl)
        have f47 : A.tmps[47]?.getD undef = .bool true := by simpa [Act.eval] using e47
        exact hands_val rfl (v := .bool true) (w' := W) (by simp [execOp, e47, f47]) (Fr.refl _ _) rfl
      case oe =>
        intro vs W' hfW hall
        have x0 : vs 0 = .slice a1 ls.length c1 := hall 0 (by rfl)
        have x1 : vs 1 = .int .u32 N := hall 1 (by rfl)
        have x2 : vs 2 = .int .u32 N := hall 2 (by rfl)
        have x3 : vs 3 = .bool true := hall 3 (by rfl)
        have x4 : vs 4 = .bool true := hall 4 (by rfl)
        have x5 : vs 5 = .slice a3 L.length c3 := hall 5 (by rfl)
        have x6 := hall 6 (by rfl)
        have x7 : vs 7 = .int .u32 N := hall 7 (by rfl)
        have x8 : vs 8 = .int .u32 N := hall 8 (by rfl)
        have x9 : vs 9 = .bool true := hall 9 (by rfl)
        have x10 : vs 10 = .bool true := hall 10 (by rfl)
        have x11 : vs 11 = .bool true := hall 11 (by rfl)
        have x12 : vs 12 = .slice a1 ls.length c1 := hall 12 (by rfl)
        have x13 := hall 13 (by rfl)
        have x14 : vs 14 = .string (strOfNums Y) := hall 14 (by rfl)
        have x15 : vs 15 = .slice a3 L.length c3 := hall 15 (by rfl)
        have x16 := hall 16 (by rfl)
        have x17 : vs 17 = .string (strOfNums Y) := hall 17 (by rfl)
        have x18 : vs 18 = .bool true := hall 18 (by rfl)
        have x19 : vs 19 = .bool true := hall 19 (by rfl)
        have x20 : vs 20 = .bool true := hall 20 (by rfl)
        simp only [layL, Nat.reduceAdd, x0, x1, x2, x3, x4, x5, x7, x8, x9, x10, x11, x12, x14, x15, x17, x18, x19, x20, Act.put, List.setIfInBounds_toArray, List.set_cons_zero, List.set_cons_succ]
        clear x0 x1 x2 x3 x4 x5 x7 x8 x9 x10 x11 x12 x14 x15 x17 x18 x19 x20 hall
        generalize vs 6 = y6 at *
        generalize vs 13 = y13 at *
        generalize vs 16 = y16 at *
        go_wp2_with fail
        go_ret
        exact ⟨rfl, ((g5.thenN dr).thenN hfW).below⟩
end Go.Proofs.Ytaaiockknpeglaa
