/- Contract of Compare of package label. -/
import Derived.Test.YtcpkkdffedndiaaDoorLB
namespace Go.Proofs.YtcpkkdffedndiaaDoor
open Go.RowKit Go.Proofs.U
set_option linter.unusedSimpArgs false
set_option linter.unusedVariables false

set_option maxHeartbeats 1000000 in
theorem cmp_any (a b c d : Int) (w : World) :
    Calls Tryd.prog 18 #[lab a b, lab c d] w fun r w' => r = .returned (.int .i64 (cmpL a b c d)) ∧ Fr noB w w' := by
  go_enter Tryd.func18, Tryd.ntmps18
  go_wp2_with fail
  --REG L3
  refine wp_region_lay (by kernel_rfl) [MFact.is (.pointer (some ⟨w.heap.size, 0, none⟩)), MFact.is (.int .u32 a), MFact.is (.pointer (some ⟨w.heap.size + 1, 0, none⟩)), MFact.is (.int .u32 c), MFact.is (.int .i64 (c1 a c)), MFact.is (.pointer (some ⟨w.heap.size, 1, none⟩)), MFact.is (.int .u32 b), MFact.is (.pointer (some ⟨w.heap.size + 1, 1, none⟩)), MFact.is (.int .u32 d), MFact.is (.int .i64 (c1 b d)), MFact.two (.int .i64 (c1 a c)) (.int .i64 (c1 b d)), MFact.is (.int .i64 (cmpL a b c d)), MFact.is (.int .i64 (cmpL a b c d))] (by kernel_rfl) ⟨?o0, ?o1, ?o2, ?o3, ?o4, ?o5, ?o6, ?o7, ?o8, ?o9, ?o10, ?o11, ?o12, trivial⟩ ?oe
  case o0 =>
    intro A W hfr hbase hdep
    have e2 : A.eval (.tmp 2) = .pointer (some ⟨w.heap.size, 0, none⟩) := hbase 2 (by kernel_rfl)
    have f2 : A.tmps[2]?.getD undef = .pointer (some ⟨w.heap.size, 0, none⟩) := by simpa [Act.eval] using e2
    exact hands_val rfl (v := .pointer (some ⟨w.heap.size, 0, none⟩)) (w' := W) (by simp [execOp, go_sem, e2, f2]) (Fr.refl _ _) rfl
  case o1 =>
    intro A W hfr hbase hdep
    have e5 : A.eval (.tmp 5) = .pointer (some ⟨w.heap.size, 0, none⟩) := hdep 0 5 (by kernel_rfl) (by kernel_rfl)
    have f5 : A.tmps[5]?.getD undef = .pointer (some ⟨w.heap.size, 0, none⟩) := by simpa [Act.eval] using e5
    have hc0 := hfr.cell (show _ = some (Value.int .u32 a) from (by simp : ((w.alloc (.cells #[.int .u32 a, .int .u32 b] 24)).alloc (.cells #[.int .u32 c, .int .u32 d] 24)).drew.cell? ⟨w.heap.size, 0, none⟩ = some (Value.int .u32 a))) (fun q => q)
    exact hands_val rfl (v := .int .u32 a) (w' := W) (by simp [execOp, go_sem, e5, f5, hc0]) (Fr.refl _ _) rfl
  case o2 =>
    intro A W hfr hbase hdep
    have e3 : A.eval (.tmp 3) = .pointer (some ⟨w.heap.size + 1, 0, none⟩) := hbase 3 (by kernel_rfl)
    have f3 : A.tmps[3]?.getD undef = .pointer (some ⟨w.heap.size + 1, 0, none⟩) := by simpa [Act.eval] using e3
    exact hands_val rfl (v := .pointer (some ⟨w.heap.size + 1, 0, none⟩)) (w' := W) (by simp [execOp, go_sem, e3, f3]) (Fr.refl _ _) rfl
  case o3 =>
    intro A W hfr hbase hdep
    have e7 : A.eval (.tmp 7) = .pointer (some ⟨w.heap.size + 1, 0, none⟩) := hdep 2 7 (by kernel_rfl) (by kernel_rfl)
    have f7 : A.tmps[7]?.getD undef = .pointer (some ⟨w.heap.size + 1, 0, none⟩) := by simpa [Act.eval] using e7
    have hc0 := hfr.cell (show _ = some (Value.int .u32 c) from (by simp : ((w.alloc (.cells #[.int .u32 a, .int .u32 b] 24)).alloc (.cells #[.int .u32 c, .int .u32 d] 24)).drew.cell? ⟨w.heap.size + 1, 0, none⟩ = some (Value.int .u32 c))) (fun q => q)
    exact hands_val rfl (v := .int .u32 c) (w' := W) (by simp [execOp, go_sem, e7, f7, hc0]) (Fr.refl _ _) rfl
  case o4 =>
    intro A W hfr hbase hdep
    have e6 : A.eval (.tmp 6) = .int .u32 a := hdep 1 6 (by kernel_rfl) (by kernel_rfl)
    have f6 : A.tmps[6]?.getD undef = .int .u32 a := by simpa [Act.eval] using e6
    have e8 : A.eval (.tmp 8) = .int .u32 c := hdep 3 8 (by kernel_rfl) (by kernel_rfl)
    have f8 : A.tmps[8]?.getD undef = .int .u32 c := by simpa [Act.eval] using e8
    refine hands_call rfl (args := #[.int .u32 a, .int .u32 c]) (f := 27) (by simp [execOp, resolve, invoke, go_sem, e6, f6, e8, f8]) ?_
    refine (c1_any _ _ _).mono ?_
    rintro e w4 ⟨rfl, rfl⟩
    exact ⟨_, rfl, Fr.refl _ _, rfl⟩
  case o5 =>
    intro A W hfr hbase hdep
    have e2 : A.eval (.tmp 2) = .pointer (some ⟨w.heap.size, 0, none⟩) := hbase 2 (by kernel_rfl)
    have f2 : A.tmps[2]?.getD undef = .pointer (some ⟨w.heap.size, 0, none⟩) := by simpa [Act.eval] using e2
    exact hands_val rfl (v := .pointer (some ⟨w.heap.size, 1, none⟩)) (w' := W) (by simp [execOp, go_sem, e2, f2]) (Fr.refl _ _) rfl
  case o6 =>
    intro A W hfr hbase hdep
    have e10 : A.eval (.tmp 10) = .pointer (some ⟨w.heap.size, 1, none⟩) := hdep 5 10 (by kernel_rfl) (by kernel_rfl)
    have f10 : A.tmps[10]?.getD undef = .pointer (some ⟨w.heap.size, 1, none⟩) := by simpa [Act.eval] using e10
    have hc0 := hfr.cell (show _ = some (Value.int .u32 b) from (by simp : ((w.alloc (.cells #[.int .u32 a, .int .u32 b] 24)).alloc (.cells #[.int .u32 c, .int .u32 d] 24)).drew.cell? ⟨w.heap.size, 1, none⟩ = some (Value.int .u32 b))) (fun q => q)
    exact hands_val rfl (v := .int .u32 b) (w' := W) (by simp [execOp, go_sem, e10, f10, hc0]) (Fr.refl _ _) rfl
  case o7 =>
    intro A W hfr hbase hdep
    have e3 : A.eval (.tmp 3) = .pointer (some ⟨w.heap.size + 1, 0, none⟩) := hbase 3 (by kernel_rfl)
    have f3 : A.tmps[3]?.getD undef = .pointer (some ⟨w.heap.size + 1, 0, none⟩) := by simpa [Act.eval] using e3
    exact hands_val rfl (v := .pointer (some ⟨w.heap.size + 1, 1, none⟩)) (w' := W) (by simp [execOp, go_sem, e3, f3]) (Fr.refl _ _) rfl
  case o8 =>
    intro A W hfr hbase hdep
    have e12 : A.eval (.tmp 12) = .pointer (some ⟨w.heap.size + 1, 1, none⟩) := hdep 7 12 (by kernel_rfl) (by kernel_rfl)
    have f12 : A.tmps[12]?.getD undef = .pointer (some ⟨w.heap.size + 1, 1, none⟩) := by simpa [Act.eval] using e12
    have hc0 := hfr.cell (show _ = some (Value.int .u32 d) from (by simp : ((w.alloc (.cells #[.int .u32 a, .int .u32 b] 24)).alloc (.cells #[.int .u32 c, .int .u32 d] 24)).drew.cell? ⟨w.heap.size + 1, 1, none⟩ = some (Value.int .u32 d))) (fun q => q)
    exact hands_val rfl (v := .int .u32 d) (w' := W) (by simp [execOp, go_sem, e12, f12, hc0]) (Fr.refl _ _) rfl
  case o9 =>
    intro A W hfr hbase hdep
    have e11 : A.eval (.tmp 11) = .int .u32 b := hdep 6 11 (by kernel_rfl) (by kernel_rfl)
    have f11 : A.tmps[11]?.getD undef = .int .u32 b := by simpa [Act.eval] using e11
    have e13 : A.eval (.tmp 13) = .int .u32 d := hdep 8 13 (by kernel_rfl) (by kernel_rfl)
    have f13 : A.tmps[13]?.getD undef = .int .u32 d := by simpa [Act.eval] using e13
    refine hands_call rfl (args := #[.int .u32 b, .int .u32 d]) (f := 27) (by simp [execOp, resolve, invoke, go_sem, e11, f11, e13, f13]) ?_
    refine (c1_any _ _ _).mono ?_
    rintro e w4 ⟨rfl, rfl⟩
    exact ⟨_, rfl, Fr.refl _ _, rfl⟩
  case o10 =>
    intro A W hfr hbase hdep
    have e9 : A.eval (.tmp 9) = .int .i64 (c1 a c) := hdep 4 9 (by kernel_rfl) (by kernel_rfl)
    have f9 : A.tmps[9]?.getD undef = .int .i64 (c1 a c) := by simpa [Act.eval] using e9
    have e14 : A.eval (.tmp 14) = .int .i64 (c1 b d) := hdep 9 14 (by kernel_rfl) (by kernel_rfl)
    have f14 : A.tmps[14]?.getD undef = .int .i64 (c1 b d) := by simpa [Act.eval] using e14
    refine hands_val rfl (v := .slice (some ⟨W.heap.size, 0, none⟩) 2 2) (w' := W.alloc (.cells #[.int .i64 (c1 a c), .int .i64 (c1 b d)] 3)) ?_ ((Fr.refl _ _).alloc _) ⟨W.heap.size, rfl, by simp, by simp⟩
    simp [execOp, go_sem, e9, f9, e14, f14]
  case o11 =>
    intro A W hfr hbase hdep
    obtain ⟨g15, e15, c15, d15⟩ := hdep 10 15 (by kernel_rfl) (by kernel_rfl)
    have f15 : A.tmps[15]?.getD undef = .slice (some ⟨g15, 0, none⟩) 2 2 := by simpa [Act.eval] using e15
    refine hands_call rfl (args := #[.slice (some ⟨g15, 0, none⟩) 2 2]) (f := 26) (by simp [execOp, resolve, invoke, go_sem, f15, e15]) ?_
    refine (or_two _ _ _ _ c15 d15).mono ?_
    rintro e w4 ⟨rfl, rfl⟩
    exact ⟨_, rfl, Fr.refl _ _, rfl⟩
  case o12 =>
    intro A W hfr hbase hdep
    have e16 : A.eval (.tmp 16) = .int .i64 (cmpL a b c d) := hdep 11 16 (by kernel_rfl) (by kernel_rfl)
    have f16 : A.tmps[16]?.getD undef = .int .i64 (cmpL a b c d) := by simpa [Act.eval] using e16
    exact hands_val rfl (v := .int .i64 (cmpL a b c d)) (w' := W) (by simp [execOp, e16, f16]) (Fr.refl _ _) rfl
  case oe =>
    intro vs W' hfW hall
    have x0 : vs 0 = .pointer (some ⟨w.heap.size, 0, none⟩) := hall 0 (by rfl)
    have x1 : vs 1 = .int .u32 a := hall 1 (by rfl)
    have x2 : vs 2 = .pointer (some ⟨w.heap.size + 1, 0, none⟩) := hall 2 (by rfl)
    have x3 : vs 3 = .int .u32 c := hall 3 (by rfl)
    have x4 : vs 4 = .int .i64 (c1 a c) := hall 4 (by rfl)
    have x5 : vs 5 = .pointer (some ⟨w.heap.size, 1, none⟩) := hall 5 (by rfl)
    have x6 : vs 6 = .int .u32 b := hall 6 (by rfl)
    have x7 : vs 7 = .pointer (some ⟨w.heap.size + 1, 1, none⟩) := hall 7 (by rfl)
    have x8 : vs 8 = .int .u32 d := hall 8 (by rfl)
    have x9 : vs 9 = .int .i64 (c1 b d) := hall 9 (by rfl)
    have x10 := hall 10 (by rfl)
    have x11 : vs 11 = .int .i64 (cmpL a b c d) := hall 11 (by rfl)
    have x12 : vs 12 = .int .i64 (cmpL a b c d) := hall 12 (by rfl)
    simp only [layL, Nat.reduceAdd, x0, x1, x2, x3, x4, x5, x6, x7, x8, x9, x11, x12, Act.put, List.setIfInBounds_toArray, List.set_cons_zero, List.set_cons_succ]
    clear x0 x1 x2 x3 x4 x5 x6 x7 x8 x9 x11 x12 hall
    generalize vs 10 = y10 at *
  --END L3
    go_wp2
    go_ret
    exact ⟨rfl, ((((Fr.refl _ _).alloc _).alloc _).drew).thenN hfW⟩

theorem lessL_c1 (a b c d : Int) : (if lessL a b c d then -1 else if lessL c d a b then 1 else 0) = cmpL a b c d := by
  unfold cmpL c1 lessL
  by_cases h1 : a < c
  · simp [h1]
  · by_cases h2 : c < a
    · have h3 : ¬ a = c := by omega
      simp [h1, h2, h3]
    · have h3 : a = c := by omega
      subst h3
      simp

set_option maxHeartbeats 1000000 in
theorem rcmp_any (a b c d : Int) (w : World) :
    Calls Tryd.prog 19 #[lab a b, lab c d] w fun r w' => r = .returned (.int .i64 (cmpL a b c d)) ∧ Fr noB w w' := by
  rw [← lessL_c1]
  by_cases h1 : lessL a b c d = true
  · go_enter Tryd.func19, Tryd.ntmps19
    go_wp2_with (go_at_call 28; go_must (refine (rless_any _ _ _ _ _).mono ?_; rintro e w1 ⟨rfl, f1⟩))
    go_ret
    exact ⟨rfl, (((Fr.refl _ _).alloc _).alloc _).thenN f1⟩
  · have h1 : lessL a b c d = false := by simpa using h1
    obtain ⟨L, HL⟩ : ∃ L, Hid (lessL c d a b = L) := ⟨_, rfl⟩
    have go1 : ∀ w1, Fr noB ((w.alloc (.cells #[.int .u32 a, .int .u32 b] 24)).alloc (.cells #[.int .u32 c, .int .u32 d] 24)) w1 →
        w1.cell? ⟨w.heap.size, 0, none⟩ = some (.int .u32 a) ∧ w1.cell? ⟨w.heap.size, 1, none⟩ = some (.int .u32 b) ∧ w1.cell? ⟨w.heap.size + 1, 0, none⟩ = some (.int .u32 c) ∧ w1.cell? ⟨w.heap.size + 1, 1, none⟩ = some (.int .u32 d) :=
      fun w1 f1 => ⟨f1.cell (by simp) (fun q => q), f1.cell (by simp) (fun q => q), f1.cell (by simp) (fun q => q), f1.cell (by simp) (fun q => q)⟩
    cases L with
    | true =>
      have h2 := HL.out
      go_enter Tryd.func19, Tryd.ntmps19
      go_wp2_with fail
      refine (rless_any _ _ _ _ _).mono ?_; rintro e w1 ⟨rfl, f1⟩
      obtain ⟨k1, k2, k3, k4⟩ := go1 w1 f1
      go_wp2_with fail
      refine (rless_any _ _ _ _ _).mono ?_; rintro e w2 ⟨rfl, f2⟩
      go_wp2
      go_ret
      exact ⟨rfl, ((((Fr.refl _ _).alloc _).alloc _).thenN f1).thenN f2⟩
    | false =>
      have h2 := HL.out
      go_enter Tryd.func19, Tryd.ntmps19
      go_wp2_with fail
      refine (rless_any _ _ _ _ _).mono ?_; rintro e w1 ⟨rfl, f1⟩
      obtain ⟨k1, k2, k3, k4⟩ := go1 w1 f1
      go_wp2_with fail
      refine (rless_any _ _ _ _ _).mono ?_; rintro e w2 ⟨rfl, f2⟩
      go_wp2
      go_ret
      exact ⟨rfl, ((((Fr.refl _ _).alloc _).alloc _).thenN f1).thenN f2⟩
end Go.Proofs.YtcpkkdffedndiaaDoor
