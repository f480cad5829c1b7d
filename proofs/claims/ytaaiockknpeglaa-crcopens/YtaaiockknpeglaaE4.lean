/- Contracts of the document's own Seal and Open; the walk of CrcOpens: it answers true for all bytes. -/
import Derived.Test.YtaaiockknpeglaaE3
import Derived.Test.YtaaiockknpeglaaD6
import Derived.Test.YtaaiockknpeglaaRI2
namespace Go.Proofs.Ytaaiockknpeglaa
open Go.RowKit Go.Proofs.U
set_option linter.unusedSimpArgs false
set_option linter.unusedVariables false

set_option maxHeartbeats 2000000 in
theorem rseal_any (v : Value) (l : List Int) (w : World) (h : SlI .u8 w v l) (hb : l.length ≤ 1000000000000) :
    Calls Try.prog 13 #[v] w fun e w' => ∃ v', e = .returned v' ∧ OwnI .u8 5 w' w.heap.size v' (sealI l) ∧ Fr noB w w' := by
  obtain ⟨a1, c1, rfl, hc1⟩ := h.opn
  have hcb := crcI_bd l
  obtain ⟨N, HN⟩ : ∃ N, Hid (crcI l = N) := ⟨_, rfl⟩
  rw [HN.out] at hcb
  go_enter Try.func13, Try.ntmps13
  go_wp2_with (first
    | (go_at_call 10; go_must (refine (rof_any _ _ _ h hb).mono ?_; rintro e w1 ⟨rfl, hf1⟩; rw [HN.out]; have s1 := h.fr0 hf1))
    | (at_builtin; first
      | (refine wpList_app rfl (.tmp 7) (.tmp 8) 24 rfl w1.heap.size 5 _ 1 1 Try.underlying24 info5 rfl (by decide) _ _ _ rfl (World.ownsRow_made _ #[] 0 (Nat.le_refl _) (Nat.zero_le _) rfl) _ _ _ rfl (s1.1.fr0 ((Fr.refl _ _).alloc _)) (U.ones _ _) ?hq1 ?hq2 ?hq3 ?_; rotate_left 3; intro v2 w2 hown2 hgr2; have hf2 := ((Fr.refl noB w1).alloc _).grown hgr2 (owns_new (World.ownsRow_made (e := 5) (size := 1) w1 #[] 0 (Nat.le_refl _) (Nat.zero_le _) rfl)); have ho2 : OwnI .u8 5 w2 w1.heap.size v2 l := OwnI.mk _ hown2 (by simp); obtain ⟨a2, c2, rfl⟩ := ho2.opn)
      | go_must (refine wpList_app rfl (.tmp 10) (.tmp 25) 24 rfl w1.heap.size 5 _ 1 1 Try.underlying24 info5 rfl (by decide) _ _ _ rfl (owns_alloc ho2 _) _ _ _ rfl (Sl_made _ _ _ 4 _ rfl (by simp)) ?h1 ?hr1 ?hr2 ?hr3 ?_; rotate_left 4; intro v4 w4 hown4 hgr4)))
  case h1 => simp [Value.oneCell']
  case hr1 => unfold maxLen; omega
  case hr2 => omega
  case hr3 => have := hf2.size; simp; omega
  case hq1 => unfold maxLen; omega
  case hq2 => omega
  case hq3 => simp
  go_ret
  exact ⟨_, rfl, (OwnI.mk _ hown4 (by simp [sealI, be4I, HN.out]) : OwnI .u8 5 w4 w1.heap.size v4 (sealI l)).rebase hf1.size, hf1.thenN ((hf2.alloc _).grown hgr4 (owns_new ho2))⟩

set_option maxHeartbeats 2000000 in
theorem ropen_any (v : Value) (l : List Int) (w : World) (h : SlI .u8 w v l) (hb : l.length ≤ 1000000000000) :
    Calls Try.prog 15 #[v] w fun e w' => ∃ v', e = .returned (.tuple #[v', .bool (okI l)]) ∧ SlI .u8 w' v' (opnI l) ∧ Fr noB w w' := by
  obtain ⟨a, cap, rfl, hcap⟩ := h.opn
  by_cases h4 : (l.length : Int) < 4
  · have hok : okI l = false := by simp [okI]; omega
    rw [opnI, hok]
    go_enter Try.func15, Try.ntmps15
    go_wp2_with fail
    go_quiet (fail)
    go_wp2_with fail
    go_ret2
    exact ⟨_, rfl, SlI.nil _ _, (Fr.refl _ _).drewN _⟩
  · have ht := h.takeN (l.length - 4) (by omega)
    have hSl := sealI_wf _ ht.2
    have hlt : (l.take (l.length - 4)).length = l.length - 4 := by simp
    have Hx := Hid.mk (strs_beq _ _ hSl h.2)
    have Hok : Hid (decide (sealI (l.take (l.length - 4)) = l) = okI l) := by
      show _ = _
      simp [okI]; omega
    have Hop : Hid (opnI l = if okI l then l.take (l.length - 4) else []) := rfl
    rw [Hok.out] at Hx
    obtain ⟨M, HM⟩ : ∃ M, Hid (l.take (l.length - 4) = M) := ⟨_, rfl⟩
    rw [HM.out] at ht hSl Hop hlt Hx
    obtain ⟨Y, HY⟩ : ∃ Y, Hid (sealI M = Y) := ⟨_, rfl⟩
    obtain ⟨B, HB⟩ : ∃ B, Hid (okI l = B) := ⟨_, rfl⟩
    rw [HY.out] at hSl Hx
    rw [HB.out] at Hop Hx ⊢
    have hx := Hx.out
    clear Hx Hok
    have hgu : decide ((l.length : Int) < 4) = false := decide_eq_false h4
    have hwr : IntKind.i64.wrap ((l.length : Int) - 4) = ((l.length - 4 : Nat) : Int) := by simp [IntKind.wrap, IntKind.bits, IntKind.signed]; omega
    have hi0 : (0 : Int) ≤ ((l.length - 4 : Nat) : Int) := by omega
    have hi1 : ((l.length - 4 : Nat) : Int) ≤ (cap : Int) := by omega
    have dr : Fr noB w w.drew := (Fr.refl _ _).drew
    have htd := ht.fr0 dr
    go_enter Try.func15, Try.ntmps15
    go_wp2_with fail
    refine wp_region_lay (by kernel_rfl) [MFact.is (.slice a l.length cap), MFact.is (.int .i64 (l.length : Int)), MFact.is (.bool false), MFact.is (.bool false), MFact.is (.slice a l.length cap), MFact.is (.slice a l.length cap), MFact.is (.int .i64 (l.length : Int)), MFact.is (.int .i64 ((l.length - 4 : Nat) : Int)), MFact.is (.slice a (l.length - 4) cap), MFact.sl .u8 Y, MFact.is (.string (strOfNums Y)), MFact.is (.slice a l.length cap), MFact.is (.string (strOfNums l)), MFact.is (.bool !B), MFact.is (.bool !B)] (by kernel_rfl) ⟨?o0, ?o1, ?o2, ?o3, ?o4, ?o5, ?o6, ?o7, ?o8, ?o9, ?o10, ?o11, ?o12, ?o13, ?o14, trivial⟩ ?oe
    case o0 =>
      intro A W hfr hbase hdep
      have e0 : A.eval (.tmp 0) = .slice a l.length cap := hbase 0 (by kernel_rfl)
      have f0 : A.tmps[0]?.getD undef = .slice a l.length cap := by simpa [Act.eval] using e0
      exact hands_val rfl (v := .slice a l.length cap) (w' := W) (by simp [execOp, e0, f0]) (Fr.refl _ _) rfl
    case o1 =>
      intro A W hfr hbase hdep
      have e4 : A.eval (.tmp 4) = .slice a l.length cap := hdep 0 4 (by kernel_rfl) (by kernel_rfl)
      have f4 : A.tmps[4]?.getD undef = .slice a l.length cap := by simpa [Act.eval] using e4
      exact hands_val rfl (v := .int .i64 (l.length : Int)) (w' := W) (by simp [execOp, go_sem, e4, f4]) (Fr.refl _ _) rfl
    case o2 =>
      intro A W hfr hbase hdep
      have e5 : A.eval (.tmp 5) = .int .i64 (l.length : Int) := hdep 1 5 (by kernel_rfl) (by kernel_rfl)
      have f5 : A.tmps[5]?.getD undef = .int .i64 (l.length : Int) := by simpa [Act.eval] using e5
      exact hands_val rfl (v := .bool false) (w' := W) (by simp [execOp, go_sem, f5, hgu]) (Fr.refl _ _) rfl
    case o3 =>
      intro A W hfr hbase hdep
      have e6 : A.eval (.tmp 6) = .bool false := hdep 2 6 (by kernel_rfl) (by kernel_rfl)
      have f6 : A.tmps[6]?.getD undef = .bool false := by simpa [Act.eval] using e6
      exact hands_val rfl (v := .bool false) (w' := W) (by simp [execOp, e6, f6]) (Fr.refl _ _) rfl
    case o4 =>
      intro A W hfr hbase hdep
      have e0 : A.eval (.tmp 0) = .slice a l.length cap := hbase 0 (by kernel_rfl)
      have f0 : A.tmps[0]?.getD undef = .slice a l.length cap := by simpa [Act.eval] using e0
      have eg : A.eval (.tmp 7) = .bool false := hdep 3 7 (by kernel_rfl) (by kernel_rfl)
      exact hands_val (wanted_of rfl (by kernel_rfl) eg) (v := .slice a l.length cap) (w' := W) (by simp [execOp, e0, f0]) (Fr.refl _ _) rfl
    case o5 =>
      intro A W hfr hbase hdep
      have e0 : A.eval (.tmp 0) = .slice a l.length cap := hbase 0 (by kernel_rfl)
      have f0 : A.tmps[0]?.getD undef = .slice a l.length cap := by simpa [Act.eval] using e0
      have eg : A.eval (.tmp 7) = .bool false := hdep 3 7 (by kernel_rfl) (by kernel_rfl)
      exact hands_val (wanted_of rfl (by kernel_rfl) eg) (v := .slice a l.length cap) (w' := W) (by simp [execOp, e0, f0]) (Fr.refl _ _) rfl
    case o6 =>
      intro A W hfr hbase hdep
      have e9 : A.eval (.tmp 9) = .slice a l.length cap := hdep 5 9 (by kernel_rfl) (by kernel_rfl)
      have f9 : A.tmps[9]?.getD undef = .slice a l.length cap := by simpa [Act.eval] using e9
      have eg : A.eval (.tmp 7) = .bool false := hdep 3 7 (by kernel_rfl) (by kernel_rfl)
      exact hands_val (wanted_of rfl (by kernel_rfl) eg) (v := .int .i64 (l.length : Int)) (w' := W) (by simp [execOp, go_sem, e9, f9]) (Fr.refl _ _) rfl
    case o7 =>
      intro A W hfr hbase hdep
      have e10 : A.eval (.tmp 10) = .int .i64 (l.length : Int) := hdep 6 10 (by kernel_rfl) (by kernel_rfl)
      have f10 : A.tmps[10]?.getD undef = .int .i64 (l.length : Int) := by simpa [Act.eval] using e10
      have eg : A.eval (.tmp 7) = .bool false := hdep 3 7 (by kernel_rfl) (by kernel_rfl)
      exact hands_val (wanted_of rfl (by kernel_rfl) eg) (v := .int .i64 ((l.length - 4 : Nat) : Int)) (w' := W) (by simp [execOp, go_sem, f10, hwr]) (Fr.refl _ _) rfl
    case o8 =>
      intro A W hfr hbase hdep
      have e8 : A.eval (.tmp 8) = .slice a l.length cap := hdep 4 8 (by kernel_rfl) (by kernel_rfl)
      have f8 : A.tmps[8]?.getD undef = .slice a l.length cap := by simpa [Act.eval] using e8
      have e11 : A.eval (.tmp 11) = .int .i64 ((l.length - 4 : Nat) : Int) := hdep 7 11 (by kernel_rfl) (by kernel_rfl)
      have f11 : A.tmps[11]?.getD undef = .int .i64 ((l.length - 4 : Nat) : Int) := by simpa [Act.eval] using e11
      have eg : A.eval (.tmp 7) = .bool false := hdep 3 7 (by kernel_rfl) (by kernel_rfl)
      exact hands_val (wanted_of rfl (by kernel_rfl) eg) (v := .slice a (l.length - 4) cap) (w' := W) (by simp [execOp, e8, e11, run_cuth 24 5 Try.underlying24 1 size5 a l.length cap .i64 (l.length - 4) (by omega), Result.andThen]) (Fr.refl _ _) rfl
    case o9 =>
      intro A W hfr hbase hdep
      have e12 : A.eval (.tmp 12) = .slice a (l.length - 4) cap := hdep 8 12 (by kernel_rfl) (by kernel_rfl)
      have f12 : A.tmps[12]?.getD undef = .slice a (l.length - 4) cap := by simpa [Act.eval] using e12
      have eg : A.eval (.tmp 7) = .bool false := hdep 3 7 (by kernel_rfl) (by kernel_rfl)
      refine hands_call (wanted_of rfl (by kernel_rfl) eg) (args := #[.slice a (l.length - 4) cap]) (f := 13) (by simp [execOp, resolve, invoke, go_sem, e12, f12]) ?_
      refine (rseal_any _ M _ (htd.fr0 hfr) (by omega)).mono ?_
      rintro e w1 ⟨v1, rfl, ho1, hf1⟩
      rw [HY.out] at ho1
      exact ⟨v1, rfl, hf1, ho1.sl hSl⟩
    case o10 =>
      intro A W hfr hbase hdep
      have e13 := hdep 9 13 (by kernel_rfl) (by kernel_rfl)
      have eg : A.eval (.tmp 7) = .bool false := hdep 3 7 (by kernel_rfl) (by kernel_rfl)
      have hs := conv_run e13
      exact hands_val (wanted_of rfl (by kernel_rfl) eg) (v := .string (strOfNums Y)) (w' := W) (by simp [execOp, hs, Result.andThen]) (Fr.refl _ _) rfl
    case o11 =>
      intro A W hfr hbase hdep
      have e0 : A.eval (.tmp 0) = .slice a l.length cap := hbase 0 (by kernel_rfl)
      have f0 : A.tmps[0]?.getD undef = .slice a l.length cap := by simpa [Act.eval] using e0
      have eg : A.eval (.tmp 7) = .bool false := hdep 3 7 (by kernel_rfl) (by kernel_rfl)
      exact hands_val (wanted_of rfl (by kernel_rfl) eg) (v := .slice a l.length cap) (w' := W) (by simp [execOp, e0, f0]) (Fr.refl _ _) rfl
    case o12 =>
      intro A W hfr hbase hdep
      have e15 : A.eval (.tmp 15) = .slice a l.length cap := hdep 11 15 (by kernel_rfl) (by kernel_rfl)
      have f15 : A.tmps[15]?.getD undef = .slice a l.length cap := by simpa [Act.eval] using e15
      have eg : A.eval (.tmp 7) = .bool false := hdep 3 7 (by kernel_rfl) (by kernel_rfl)
      have hs := conv_run ((h.fr0 dr).fr0 hfr)
      exact hands_val (wanted_of rfl (by kernel_rfl) eg) (v := .string (strOfNums l)) (w' := W) (by simp [execOp, e15, hs, Result.andThen]) (Fr.refl _ _) rfl
    case o13 =>
      intro A W hfr hbase hdep
      have e14 : A.eval (.tmp 14) = .string (strOfNums Y) := hdep 10 14 (by kernel_rfl) (by kernel_rfl)
      have f14 : A.tmps[14]?.getD undef = .string (strOfNums Y) := by simpa [Act.eval] using e14
      have e16 : A.eval (.tmp 16) = .string (strOfNums l) := hdep 12 16 (by kernel_rfl) (by kernel_rfl)
      have f16 : A.tmps[16]?.getD undef = .string (strOfNums l) := by simpa [Act.eval] using e16
      have eg : A.eval (.tmp 7) = .bool false := hdep 3 7 (by kernel_rfl) (by kernel_rfl)
      exact hands_val (wanted_of rfl (by kernel_rfl) eg) (v := .bool !B) (w' := W) (by simp [execOp, go_sem, f14, f16, hx]) (Fr.refl _ _) rfl
    case o14 =>
      intro A W hfr hbase hdep
      have e7 : A.eval (.tmp 7) = .bool false := hdep 3 7 (by kernel_rfl) (by kernel_rfl)
      have f7 : A.tmps[7]?.getD undef = .bool false := by simpa [Act.eval] using e7
      have e17 : A.eval (.tmp 17) = .bool !B := hdep 13 17 (by kernel_rfl) (by kernel_rfl)
      have f17 : A.tmps[17]?.getD undef = .bool !B := by simpa [Act.eval] using e17
      exact hands_val rfl (v := .bool !B) (w' := W) (by simp [execOp, go_sem, e7, f7, e17, f17]) (Fr.refl _ _) rfl
    case oe =>
      intro vs W' hfW hall
      have x0 : vs 0 = .slice a l.length cap := hall 0 (by rfl)
      have x1 : vs 1 = .int .i64 (l.length : Int) := hall 1 (by rfl)
      have x2 : vs 2 = .bool false := hall 2 (by rfl)
      have x3 : vs 3 = .bool false := hall 3 (by rfl)
      have x4 : vs 4 = .slice a l.length cap := hall 4 (by rfl)
      have x5 : vs 5 = .slice a l.length cap := hall 5 (by rfl)
      have x6 : vs 6 = .int .i64 (l.length : Int) := hall 6 (by rfl)
      have x7 : vs 7 = .int .i64 ((l.length - 4 : Nat) : Int) := hall 7 (by rfl)
      have x8 : vs 8 = .slice a (l.length - 4) cap := hall 8 (by rfl)
      have x9 := hall 9 (by rfl)
      have x10 : vs 10 = .string (strOfNums Y) := hall 10 (by rfl)
      have x11 : vs 11 = .slice a l.length cap := hall 11 (by rfl)
      have x12 : vs 12 = .string (strOfNums l) := hall 12 (by rfl)
      have x13 : vs 13 = .bool !B := hall 13 (by rfl)
      have x14 : vs 14 = .bool !B := hall 14 (by rfl)
      simp only [layL, Nat.reduceAdd, x0, x1, x2, x3, x4, x5, x6, x7, x8, x10, x11, x12, x13, x14, Act.put, List.setIfInBounds_toArray, List.set_cons_zero, List.set_cons_succ]
      clear x0 x1 x2 x3 x4 x5 x6 x7 x8 x10 x11 x12 x13 x14 hall
      generalize vs 9 = y9 at *
      have g1 : Fr noB w W' := dr.thenN hfW
      cases B with
      | false =>
        go_wp2_with fail
        go_ret2
        exact ⟨_, rfl, by rw [Hop.out]; exact SlI.nil _ _, g1⟩
      | true =>
        have s2 := ht.fr0 g1
        go_wp2_with (first
          | (refine at_cut 24 _ _ _ _ rfl ?_; go_must (refine wpList_cuth rfl 24 _ _ rfl 5 Try.underlying24 1 size5 a l.length cap rfl _ _ (l.length - 4) rfl (by omega) (by omega) ?_))
          | (at_builtin; go_must (refine wpList_app rfl _ _ 24 rfl W'.heap.size 5 _ 1 1 Try.underlying24 info5 rfl (by decide) _ _ _ rfl (World.ownsRow_made _ #[] 0 (Nat.le_refl _) (Nat.zero_le _) rfl) _ _ _ rfl (s2.1.fr0 ((Fr.refl _ _).alloc _)) (U.ones _ _) ?hq1 ?hq2 ?hq3 ?_; rotate_left 3; intro v2 w2 hown2 hgr2; have hf2 := ((Fr.refl noB W').alloc _).grown hgr2 (owns_new (World.ownsRow_made (e := 5) (size := 1) W' #[] 0 (Nat.le_refl _) (Nat.zero_le _) rfl)); have ho2 : OwnI .u8 5 w2 W'.heap.size v2 M := OwnI.mk _ hown2 (by simp))))
        case hq1 => unfold maxLen; omega
        case hq2 => omega
        go_ret2
        exact ⟨_, rfl, by rw [Hop.out]; exact ho2.sl ht.2, g1.thenN hf2⟩

set_option maxHeartbeats 2000000 in
theorem opens_walk (v : Value) (l : List Int) (w : World) (h : SlI .u8 w v l) :
    Calls Try.prog 4 #[v] w fun e w' => e = .returned (.bool true) ∧ Below w.heap.size w w' := by
  obtain ⟨a1, c1, rfl, hc1⟩ := h.opn
  by_cases hA : (500 : Int) < (l.length : Int)
  · go_enter Try.func4, Try.ntmps4
    go_wp2_with (go_at_call 9; go_must (refine (alive_any _).mono ?_; rintro e w1 ⟨rfl, hf1⟩))
    go_ret
    exact ⟨rfl, hf1.below⟩
  obtain ⟨P, HP⟩ : ∃ P, Hid (opnI l = P) := ⟨_, rfl⟩
  obtain ⟨B, HB⟩ : ∃ B, Hid (okI l = B) := ⟨_, rfl⟩
  have hst : ((strOfNums l).toList == (strOfNums l).toList) = true := by simp
  have hsp : ((strOfNums P).toList == (strOfNums P).toList) = true := by simp
  go_enter Try.func4, Try.ntmps4
  go_wp2_with (first
    | (go_at_call 9; go_must (refine (alive_any _).mono ?_; rintro e w1 ⟨rfl, hf1⟩; have s1 := h.fr0 hf1))
    | (at_builtin; go_must (refine wpList_app rfl _ _ 24 rfl w1.heap.size 5 _ 1 1 Try.underlying24 info5 rfl (by decide) _ _ _ rfl (World.ownsRow_made _ #[] 0 (Nat.le_refl _) (Nat.zero_le _) rfl) _ _ _ rfl (s1.1.fr0 ((Fr.refl _ _).alloc _)) (U.ones _ _) ?hq1 ?hq2 ?hq3 ?_; rotate_left 3; intro v2 w2 hown2 hgr2; have hf2 := ((Fr.refl noB w1).alloc _).grown hgr2 (owns_new (World.ownsRow_made (e := 5) (size := 1) w1 #[] 0 (Nat.le_refl _) (Nat.zero_le _) rfl)); have ho2 : OwnI .u8 5 w2 w1.heap.size v2 l := OwnI.mk _ hown2 (by simp); have s2 := ho2.sl h.2; obtain ⟨a2, c2, rfl, hc2⟩ := s2.opn))
    | (go_at_call 14; go_must (refine (open_any _ _ _ s2 (by omega)).mono ?_; rintro e w3 ⟨v3, rfl, s3, hf3⟩; rw [HB.out]; rw [HP.out] at s3; obtain ⟨a3, c3, rfl, hc3⟩ := s3.opn; have g3 := (hf1.thenN hf2).thenN hf3; have s03 := h.fr0 g3))
    | (go_at_call 15; go_must (refine (ropen_any _ _ _ s03 (by omega)).mono ?_; rintro e w4 ⟨v4, rfl, s4, hf4⟩; rw [HB.out]; rw [HP.out] at s4; obtain ⟨a4, c4, rfl, hc4⟩ := s4.opn; have g4 := g3.thenN hf4; have s04 := h.fr0 g4; have s24 := (s2.fr0 hf3).fr0 hf4; have s34 := s3.fr0 hf4))
    | (refine at_conv 24 9 _ rfl ?_; refine wpList_str rfl _ 24 9 5 rfl Try.underlying24 Try.underlying5 Try.underlying9 (.slice a3 P.length c3) _ rfl s34 ?_)
    | (refine at_conv 24 9 _ rfl ?_; refine wpList_str rfl _ 24 9 5 rfl Try.underlying24 Try.underlying5 Try.underlying9 (.slice a4 P.length c4) _ rfl s4 ?_)
    | (refine at_conv 24 9 _ rfl ?_; refine wpList_str rfl _ 24 9 5 rfl Try.underlying24 Try.underlying5 Try.underlying9 (.slice a2 l.length c2) _ rfl s24 ?_)
    | (refine at_conv 24 9 _ rfl ?_; refine wpList_str rfl _ 24 9 5 rfl Try.underlying24 Try.underlying5 Try.underlying9 (.slice a1 l.length c1) _ rfl s04 ?_))
  case hq1 => unfold maxLen; omega
  case hq2 => omega
  case hq3 => simp
  go_ret
  exact ⟨rfl, g4.below⟩
end Go.Proofs.Ytaaiockknpeglaa
