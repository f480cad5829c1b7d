/- LabelTexts: the walk. -/
import Derived.Test.YtcpkkdffedndiaaDoorOpenL
import Derived.Test.YtcpkkdffedndiaaDoorL9
import Derived.Test.YtcpkkdffedndiaaDoorN2
import Derived.Test.YtcpkkdffedndiaaDoorN3
import Derived.Laws.StructEq
namespace Go.Proofs.YtcpkkdffedndiaaDoor
open Go.RowKit Go.Proofs.U
set_option linter.unusedSimpArgs false
set_option linter.unusedVariables false

set_option maxRecDepth 100000 in
set_option maxHeartbeats 2000000 in
theorem texts_any (a1 a2 : Int) (ha : U2 a1 a2) (s : ByteArray) (hs : s.size ≤ maxLen) (w : World) (ht : Tab w) :
    Calls Tryd.prog 21 #[lab a1 a2, .string s] w fun r w' => r = .returned (.bool true) ∧ Fr noB w w' := by
  have hs63 : (s.size : Int) ≤ 9223372036854775807 := by unfold maxLen at hs; omega
  by_cases hlen : (200 : Int) < (s.size : Int)
  · go_enter Tryd.func21, Tryd.ntmps21
    go_wp2
    go_ret
    exact ⟨rfl, (Fr.refl _ _).alloc _⟩
  · obtain ⟨M, HM⟩ : ∃ M, Hid (prs s.data.toList = M) := ⟨_, rfl⟩
    have cP := fun w => parse_any s (by omega) w
    have dP := fun w => rparse_any s (by omega) w
    rw [prsR_eq] at dP
    rw [HM.out] at cP dP
    go_enter Tryd.func21, Tryd.ntmps21
    go_wp2_with (first
      | (go_at_call 24; go_must (refine (cP _).mono ?_; rintro e w2 ⟨rfl, f2⟩; have F2 : Fr noB w w2 := ((Fr.refl _ _).alloc _).thenN f2; have C2 := (Bx.made w a1 a2).fr0 f2; have t2 := C2.lt))
      | (go_at_call 29; go_must (refine (dP _).mono ?_; rintro e w4 ⟨rfl, f4⟩; have F4 := F3.thenN f4; have C4 := C3.fr0 f4; have E4 := E3.fr0 f4; have t4 := C4.lt; have u4 := E4.lt))
      | (with_reducible refine at_wp ?_; refine wpList_stL rfl _ _ rfl w4.heap.size rfl _ _ _ _ rfl (Bx.made w4 0 0) ?_; intro w5 h7 f5 z5; have F5 := ac3 F4 _ f5; have h2 := (C4.alloc _).fr f5 (fun q => by unfold onL at q; omega); have h5 := (E4.alloc _).fr f5 (fun q => by unfold onL at q; omega))
      | (with_reducible refine at_wp ?_; refine wpList_stL rfl _ _ rfl w2.heap.size rfl _ _ _ _ rfl (Bx.made w2 0 0) ?_; intro w3 E3 f3 z3; have F3 := ac3 F2 _ f3; have C3 := (C2.alloc _).fr f3 (fun q => by unfold onL at q; omega)))
    --REG M4
    refine wp_region_lay (by kernel_rfl) [MFact.is (.agg #[.int .u32 a1, .int .u32 a2]), MFact.is (.string (txt a1 a2)), MFact.is (.agg #[.int .u32 a1, .int .u32 a2]), MFact.is (.string (txt a1 a2)), MFact.is (.bool true), MFact.is (.bool true), MFact.is (.agg #[.int .u32 (M.1 : Int), .int .u32 (M.2.1 : Int)]), MFact.is (.agg #[.int .u32 (M.1 : Int), .int .u32 (M.2.1 : Int)]), MFact.is (.bool true), MFact.is (.bool true), MFact.is (.bool true), MFact.is (.int .i64 (M.2.2 : Int)), MFact.is (.int .i64 (M.2.2 : Int)), MFact.is (.bool true), MFact.is (.bool true), MFact.is (.bool true)] (by kernel_rfl) ⟨?o0, ?o1, ?o2, ?o3, ?o4, ?o5, ?o6, ?o7, ?o8, ?o9, ?o10, ?o11, ?o12, ?o13, ?o14, ?o15, trivial⟩ ?oe
    case o0 =>
      intro A W hfr hbase hdep
      have e2 : A.eval (.tmp 2) = .pointer (some ⟨w.heap.size, 0, none⟩) := hbase 2 (by kernel_rfl)
      have f2 : A.tmps[2]?.getD undef = .pointer (some ⟨w.heap.size, 0, none⟩) := by simpa [Act.eval] using e2
      have hc0 := hfr.cell ((h2.fr0 ((Fr.refl _ _).drew)).all.1) (fun q => q)
      have hc1 := hfr.cell ((h2.fr0 ((Fr.refl _ _).drew)).all.2.1) (fun q => q)
      exact hands_val rfl (v := .agg #[.int .u32 a1, .int .u32 a2]) (w' := W) (by simp [execOp, go_sem, e2, f2, hc0, hc1]) (Fr.refl _ _) rfl
    case o1 =>
      intro A W hfr hbase hdep
      have e22 : A.eval (.tmp 22) = .agg #[.int .u32 a1, .int .u32 a2] := hdep 0 22 (by kernel_rfl) (by kernel_rfl)
      have f22 : A.tmps[22]?.getD undef = .agg #[.int .u32 a1, .int .u32 a2] := by simpa [Act.eval] using e22
      refine hands_call rfl (args := #[.agg #[.int .u32 a1, .int .u32 a2]]) (f := 25) (by simp [execOp, resolve, invoke, go_sem, e22, f22]) ?_
      refine (text_any _ _ ha _ ((ht.fr0 (F5.drew)).fr0 hfr)).mono ?_
      rintro e w' ⟨rfl, f'⟩
      exact ⟨_, rfl, f', rfl⟩
    case o2 =>
      intro A W hfr hbase hdep
      have e2 : A.eval (.tmp 2) = .pointer (some ⟨w.heap.size, 0, none⟩) := hbase 2 (by kernel_rfl)
      have f2 : A.tmps[2]?.getD undef = .pointer (some ⟨w.heap.size, 0, none⟩) := by simpa [Act.eval] using e2
      have hc0 := hfr.cell ((h2.fr0 ((Fr.refl _ _).drew)).all.1) (fun q => q)
      have hc1 := hfr.cell ((h2.fr0 ((Fr.refl _ _).drew)).all.2.1) (fun q => q)
      exact hands_val rfl (v := .agg #[.int .u32 a1, .int .u32 a2]) (w' := W) (by simp [execOp, go_sem, e2, f2, hc0, hc1]) (Fr.refl _ _) rfl
    case o3 =>
      intro A W hfr hbase hdep
      have e24 : A.eval (.tmp 24) = .agg #[.int .u32 a1, .int .u32 a2] := hdep 2 24 (by kernel_rfl) (by kernel_rfl)
      have f24 : A.tmps[24]?.getD undef = .agg #[.int .u32 a1, .int .u32 a2] := by simpa [Act.eval] using e24
      refine hands_call rfl (args := #[.agg #[.int .u32 a1, .int .u32 a2]]) (f := 30) (by simp [execOp, resolve, invoke, go_sem, e24, f24]) ?_
      refine (rtext_any _ _ ha _).mono ?_
      rintro e w' ⟨rfl, f'⟩
      exact ⟨_, rfl, f', rfl⟩
    case o4 =>
      intro A W hfr hbase hdep
      have e23 : A.eval (.tmp 23) = .string (txt a1 a2) := hdep 1 23 (by kernel_rfl) (by kernel_rfl)
      have f23 : A.tmps[23]?.getD undef = .string (txt a1 a2) := by simpa [Act.eval] using e23
      have e25 : A.eval (.tmp 25) = .string (txt a1 a2) := hdep 3 25 (by kernel_rfl) (by kernel_rfl)
      have f25 : A.tmps[25]?.getD undef = .string (txt a1 a2) := by simpa [Act.eval] using e25
      exact hands_val rfl (v := .bool true) (w' := W) (by simp [execOp, go_sem, e23, f23, e25, f25]) (Fr.refl _ _) rfl
    case o5 =>
      intro A W hfr hbase hdep
      have e26 : A.eval (.tmp 26) = .bool true := hdep 4 26 (by kernel_rfl) (by kernel_rfl)
      have f26 : A.tmps[26]?.getD undef = .bool true := by simpa [Act.eval] using e26
      exact hands_val rfl (v := .bool true) (w' := W) (by simp [execOp, e26, f26]) (Fr.refl _ _) rfl
    case o6 =>
      intro A W hfr hbase hdep
      have e5 : A.eval (.tmp 5) = .pointer (some ⟨w2.heap.size, 0, none⟩) := hbase 5 (by kernel_rfl)
      have f5 : A.tmps[5]?.getD undef = .pointer (some ⟨w2.heap.size, 0, none⟩) := by simpa [Act.eval] using e5
      have eg : A.eval (.tmp 27) = .bool true := hdep 5 27 (by kernel_rfl) (by kernel_rfl)
      have hc0 := hfr.cell ((h5.fr0 ((Fr.refl _ _).drew)).all.1) (fun q => q)
      have hc1 := hfr.cell ((h5.fr0 ((Fr.refl _ _).drew)).all.2.1) (fun q => q)
      exact hands_val (wanted_of rfl (by kernel_rfl) eg) (v := .agg #[.int .u32 (M.1 : Int), .int .u32 (M.2.1 : Int)]) (w' := W) (by simp [execOp, go_sem, e5, f5, hc0, hc1]) (Fr.refl _ _) rfl
    case o7 =>
      intro A W hfr hbase hdep
      have e7 : A.eval (.tmp 7) = .pointer (some ⟨w4.heap.size, 0, none⟩) := hbase 7 (by kernel_rfl)
      have f7 : A.tmps[7]?.getD undef = .pointer (some ⟨w4.heap.size, 0, none⟩) := by simpa [Act.eval] using e7
      have eg : A.eval (.tmp 27) = .bool true := hdep 5 27 (by kernel_rfl) (by kernel_rfl)
      have hc0 := hfr.cell ((h7.fr0 ((Fr.refl _ _).drew)).all.1) (fun q => q)
      have hc1 := hfr.cell ((h7.fr0 ((Fr.refl _ _).drew)).all.2.1) (fun q => q)
      exact hands_val (wanted_of rfl (by kernel_rfl) eg) (v := .agg #[.int .u32 (M.1 : Int), .int .u32 (M.2.1 : Int)]) (w' := W) (by simp [execOp, go_sem, e7, f7, hc0, hc1]) (Fr.refl _ _) rfl
    case o8 =>
      intro A W hfr hbase hdep
      have e28 : A.eval (.tmp 28) = .agg #[.int .u32 (M.1 : Int), .int .u32 (M.2.1 : Int)] := hdep 6 28 (by kernel_rfl) (by kernel_rfl)
      have f28 : A.tmps[28]?.getD undef = .agg #[.int .u32 (M.1 : Int), .int .u32 (M.2.1 : Int)] := by simpa [Act.eval] using e28
      have e29 : A.eval (.tmp 29) = .agg #[.int .u32 (M.1 : Int), .int .u32 (M.2.1 : Int)] := hdep 7 29 (by kernel_rfl) (by kernel_rfl)
      have f29 : A.tmps[29]?.getD undef = .agg #[.int .u32 (M.1 : Int), .int .u32 (M.2.1 : Int)] := by simpa [Act.eval] using e29
      have eg : A.eval (.tmp 27) = .bool true := hdep 5 27 (by kernel_rfl) (by kernel_rfl)
      exact hands_val (wanted_of rfl (by kernel_rfl) eg) (v := .bool true) (w' := W) (by simp [execOp, go_sem, e28, f28, e29, f29]) (Fr.refl _ _) rfl
    case o9 =>
      intro A W hfr hbase hdep
      have e27 : A.eval (.tmp 27) = .bool true := hdep 5 27 (by kernel_rfl) (by kernel_rfl)
      have f27 : A.tmps[27]?.getD undef = .bool true := by simpa [Act.eval] using e27
      have e30 : A.eval (.tmp 30) = .bool true := hdep 8 30 (by kernel_rfl) (by kernel_rfl)
      have f30 : A.tmps[30]?.getD undef = .bool true := by simpa [Act.eval] using e30
      exact hands_val rfl (v := .bool true) (w' := W) (by simp [execOp, go_sem, e27, f27, e30, f30]) (Fr.refl _ _) rfl
    case o10 =>
      intro A W hfr hbase hdep
      have e31 : A.eval (.tmp 31) = .bool true := hdep 9 31 (by kernel_rfl) (by kernel_rfl)
      have f31 : A.tmps[31]?.getD undef = .bool true := by simpa [Act.eval] using e31
      exact hands_val rfl (v := .bool true) (w' := W) (by simp [execOp, e31, f31]) (Fr.refl _ _) rfl
    case o11 =>
      intro A W hfr hbase hdep
      have e6 : A.eval (.tmp 6) = .int .i64 (M.2.2 : Int) := hbase 6 (by kernel_rfl)
      have f6 : A.tmps[6]?.getD undef = .int .i64 (M.2.2 : Int) := by simpa [Act.eval] using e6
      have eg : A.eval (.tmp 32) = .bool true := hdep 10 32 (by kernel_rfl) (by kernel_rfl)
      exact hands_val (wanted_of rfl (by kernel_rfl) eg) (v := .int .i64 (M.2.2 : Int)) (w' := W) (by simp [execOp, e6, f6]) (Fr.refl _ _) rfl
    case o12 =>
      intro A W hfr hbase hdep
      have e8 : A.eval (.tmp 8) = .int .i64 (M.2.2 : Int) := hbase 8 (by kernel_rfl)
      have f8 : A.tmps[8]?.getD undef = .int .i64 (M.2.2 : Int) := by simpa [Act.eval] using e8
      have eg : A.eval (.tmp 32) = .bool true := hdep 10 32 (by kernel_rfl) (by kernel_rfl)
      exact hands_val (wanted_of rfl (by kernel_rfl) eg) (v := .int .i64 (M.2.2 : Int)) (w' := W) (by simp [execOp, e8, f8]) (Fr.refl _ _) rfl
    case o13 =>
      intro A W hfr hbase hdep
      have e33 : A.eval (.tmp 33) = .int .i64 (M.2.2 : Int) := hdep 11 33 (by kernel_rfl) (by kernel_rfl)
      have f33 : A.tmps[33]?.getD undef = .int .i64 (M.2.2 : Int) := by simpa [Act.eval] using e33
      have e34 : A.eval (.tmp 34) = .int .i64 (M.2.2 : Int) := hdep 12 34 (by kernel_rfl) (by kernel_rfl)
      have f34 : A.tmps[34]?.getD undef = .int .i64 (M.2.2 : Int) := by simpa [Act.eval] using e34
      have eg : A.eval (.tmp 32) = .bool true := hdep 10 32 (by kernel_rfl) (by kernel_rfl)
      exact hands_val (wanted_of rfl (by kernel_rfl) eg) (v := .bool true) (w' := W) (by simp [execOp, go_sem, e33, f33, e34, f34]) (Fr.refl _ _) rfl
    case o14 =>
      intro A W hfr hbase hdep
      have e32 : A.eval (.tmp 32) = .bool true := hdep 10 32 (by kernel_rfl) (by kernel_rfl)
      have f32 : A.tmps[32]?.getD undef = .bool true := by simpa [Act.eval] using e32
      have e35 : A.eval (.tmp 35) = .bool true := hdep 13 35 (by kernel_rfl) (by kernel_rfl)
      have f35 : A.tmps[35]?.getD undef = .bool true := by simpa [Act.eval] using e35
      exact hands_val rfl (v := .bool true) (w' := W) (by simp [execOp, go_sem, e32, f32, e35, f35]) (Fr.refl _ _) rfl
    case o15 =>
      intro A W hfr hbase hdep
      have e36 : A.eval (.tmp 36) = .bool true := hdep 14 36 (by kernel_rfl) (by kernel_rfl)
      have f36 : A.tmps[36]?.getD undef = .bool true := by simpa [Act.eval] using e36
      exact hands_val rfl (v := .bool true) (w' := W) (by simp [execOp, e36, f36]) (Fr.refl _ _) rfl
    case oe =>
      intro vs W' hfW hall
      have x0 : vs 0 = .agg #[.int .u32 a1, .int .u32 a2] := hall 0 (by rfl)
      have x1 : vs 1 = .string (txt a1 a2) := hall 1 (by rfl)
      have x2 : vs 2 = .agg #[.int .u32 a1, .int .u32 a2] := hall 2 (by rfl)
      have x3 : vs 3 = .string (txt a1 a2) := hall 3 (by rfl)
      have x4 : vs 4 = .bool true := hall 4 (by rfl)
      have x5 : vs 5 = .bool true := hall 5 (by rfl)
      have x6 : vs 6 = .agg #[.int .u32 (M.1 : Int), .int .u32 (M.2.1 : Int)] := hall 6 (by rfl)
      have x7 : vs 7 = .agg #[.int .u32 (M.1 : Int), .int .u32 (M.2.1 : Int)] := hall 7 (by rfl)
      have x8 : vs 8 = .bool true := hall 8 (by rfl)
      have x9 : vs 9 = .bool true := hall 9 (by rfl)
      have x10 : vs 10 = .bool true := hall 10 (by rfl)
      have x11 : vs 11 = .int .i64 (M.2.2 : Int) := hall 11 (by rfl)
      have x12 : vs 12 = .int .i64 (M.2.2 : Int) := hall 12 (by rfl)
      have x13 : vs 13 = .bool true := hall 13 (by rfl)
      have x14 : vs 14 = .bool true := hall 14 (by rfl)
      have x15 : vs 15 = .bool true := hall 15 (by rfl)
      simp only [layL, Nat.reduceAdd, x0, x1, x2, x3, x4, x5, x6, x7, x8, x9, x10, x11, x12, x13, x14, x15, Act.put, List.setIfInBounds_toArray, List.set_cons_zero, List.set_cons_succ]
      clear x0 x1 x2 x3 x4 x5 x6 x7 x8 x9 x10 x11 x12 x13 x14 x15 hall
    --END M4
      go_wp2
      go_ret
      exact ⟨rfl, (F5.drew).thenN hfW⟩

set_option maxHeartbeats 2000000 in
theorem texts_walk (va : Value) (a : Int × Int) (s : ByteArray) (w : World) (ha : va = lab a.1 a.2 ∧ U2 a.1 a.2) (hs : s.size ≤ maxLen) (ht : Tab w) :
    Calls Tryd.prog 5 #[va, .string s] w fun r w' => r = .returned (.bool true) ∧ Below w.heap.size w w' := by
  obtain ⟨a1, a2⟩ := a
  obtain ⟨rfl, ha⟩ := ha
  simp only at ha ⊢
  have F0 : Fr noB w (w.alloc (.cells #[.int .u32 a1, .int .u32 a2] 24)) := (Fr.refl _ _).alloc _
  go_enter Tryd.func5, Tryd.ntmps5
  go_wp2_with (first
    | (go_at_call 12; go_must (refine (alive_any _ (ht.fr0 F0)).mono ?_; rintro e w1 ⟨rfl, f1⟩; have F1 := F0.thenN f1; have C1 := (Bx.made w a1 a2).fr0 f1; obtain ⟨k1, k2, k3, k4⟩ := C1.all))
    | (go_at_call 21; go_must (refine (texts_any a1 a2 ha s hs _ (ht.fr0 F1)).mono ?_; rintro e w2 ⟨rfl, f2⟩)))
  go_ret
  exact ⟨rfl, (F1.thenN f2).below⟩
end Go.Proofs.YtcpkkdffedndiaaDoor
