/- Texts T14 of the proof of TallyPages, one behind the other. -/
import Derived.Test.YtdfffbbdeaefeaaBundleTallyPages1
import Derived.Test.YtdfffbbdeaefeaaBundleTallyPages2
import Derived.Test.YtdfffbbdeaefeaaBundleTallyPages3
import Derived.Test.YtdfffbbdeaefeaaBundleTallyPages4
import Derived.Test.YtdfffbbdeaefeaaBundleTallyPages5
import Derived.Test.YtdfffbbdeaefeaaBundleTallyPages6
import Derived.Test.YtdfffbbdeaefeaaBundleTallyPages7
import Derived.Test.YtdfffbbdeaefeaaBundleTallyPages8
import Derived.Test.YtdfffbbdeaefeaaBundleTallyPages9
import Derived.Test.YtdfffbbdeaefeaaBundleTallyPages10
import Derived.Test.YtdfffbbdeaefeaaBundleTallyPages11
/- TallyPages. (Written by t14_gen.py.) -/
namespace Go.Proofs.Ytdfffbbdeaefeaa
open Go.RowKit Go.Proofs.U
set_option linter.unusedSimpArgs false
set_option linter.unusedVariables false
/-- While two pages are made; memory may have grown. -/
def JT3 (w0 : World) (P Q : Value) : List Value → World → Prop
  | [], W => Fr noB w0 W
  | [v], W => v = P ∧ Fr noB w0 W
  | [v, u], W => v = P ∧ u = Q ∧ Fr noB w0 W
  | _, _ => False
theorem JT3.fr {w0 : World} {P Q : Value} : ∀ {hv : List Value} {W : World}, JT3 w0 P Q hv W → Fr noB w0 W
  | [], _, h => h
  | [_], _, h => h.2
  | [_, _], _, h => h.2.2
  | _ :: _ :: _ :: _, _, h => h.elim
theorem JT3.grow {w0 : World} {P Q : Value} {W' : World} : ∀ {hv : List Value} {W : World}, JT3 w0 P Q hv W → Fr noB W W' → JT3 w0 P Q hv W'
  | [], _, h, f => Fr.thenN h f
  | [_], _, h, f => ⟨h.1, h.2.thenN f⟩
  | [_, _], _, h, f => ⟨h.1, h.2.1, h.2.2.thenN f⟩
  | _ :: _ :: _ :: _, _, h, _ => h.elim
theorem JT3.at0 {w0 : World} {P Q : Value} {x : Value} : ∀ {hv : List Value} {W : World}, JT3 w0 P Q hv W → hv[0]? = some x → x = P
  | [], _, h, k => by cases k
  | [_], _, h, k => by cases k; exact h.1
  | [_, _], _, h, k => by cases k; exact h.1
  | _ :: _ :: _ :: _, _, h, _ => h.elim
theorem JT3.at1 {w0 : World} {P Q : Value} {x : Value} : ∀ {hv : List Value} {W : World}, JT3 w0 P Q hv W → hv[1]? = some x → x = Q
  | [], _, h, k => by cases k
  | [_], _, h, k => by cases k
  | [_, _], _, h, k => by cases k; exact h.2.1
  | _ :: _ :: _ :: _, _, h, _ => h.elim
set_option maxRecDepth 100000 in
set_option maxHeartbeats 4000000 in
theorem tpages_walk (G : Int) (vc : Value) (c : List Int) (vp : Value) (p : List Int) (w : World) (hG : (Lit.int .u64 G).wf = true) (hc : IsArr vc 240 c) (hp : IsArr vp 256 p) :
    Calls Try.prog 4 #[.int .u64 G, vc, vp] w fun r w' => r = .returned (.bool true) ∧ Below w.heap.size w w' := by
  obtain ⟨rfl, hcl, hcb⟩ := hc
  obtain ⟨rfl, hpl, hpb⟩ := hp
  have hG := g64_wf hG
  have hp1 := show Hid _ from fun W => tpage_any G hG c hcl hcb W
  have hp2 := show Hid _ from fun W => dpage_any G hG c hcl hcb W
  have hus := show Hid _ from fun W => used_any c hcl W
  have ho1 := show Hid _ from fun W => topen_any p hpl hpb G hG W
  have ho2 := show Hid _ from fun W => dopen_any p hpl hpb G hG W
  have hP := tlyP_len G hcl
  have hR := opT_len hpl G
  obtain ⟨P, HP⟩ : ∃ P, Hid (tlyP G c = P) := ⟨_, rfl⟩
  obtain ⟨⟨R, E⟩, HR⟩ : ∃ P, Hid (opT p G = P) := ⟨_, rfl⟩
  obtain ⟨N, HN⟩ : ∃ P, Hid (usedN c = P) := ⟨_, rfl⟩
  obtain ⟨Z, HZ⟩ : ∃ Z, Hid (zerB 240 = Z) := ⟨_, rfl⟩
  have hZl : Hid (Z.length = 240) := by show _ = _; rw [← HZ.out]; exact zerB_len 240
  simp only [HP.out] at hp1 hp2 hP
  simp only [HR.out] at ho1 ho2 hR
  rw [HN.out] at hus
  have hPl := show Hid _ from hP
  have hRl := show Hid _ from hR
  have Hc := show Hid _ from hcl
  have Hp := show Hid _ from hpl
  have epp : Hid ((P == P) = true) := by show _ = _; exact beq_self_eq_true P
  have err : Hid ((R == R) = true) := by show _ = _; exact beq_self_eq_true R
  clear hP hR hcl hpl
  go_enter Try.func4, Try.ntmps4
  go_wp2_with (first
    | (with_reducible refine at_wpP ?_; refine wpList_boxV rfl 22 _ rfl (pgv c) rfl ?_; intro g4 w1 hg4 b1 f1 s1; have l1 := b1.lt; have z1 := f1.size)
    | (with_reducible refine at_wpP ?_; refine wpList_boxV rfl 33 _ rfl (pgv p) rfl ?_; intro g5 w2 hg5 b2 f2 s2; have l2 := b2.lt; have z2 := f2.size)
    | (go_at_call 10; go_must (refine (talive_any _).mono ?_; rintro e w3 ⟨rfl, f3⟩; have z3 := f3.size; have C3 := (b1.fr0 f2).fr0 f3; have P3 := b2.fr0 f3))
    | (with_reducible refine at_wpP ?_; refine at_ld 33 _ rfl ?_; go_must (first | refine wpList_loadA arr_page rfl _ rfl g5 rfl p P6 Hp.out ?_ | refine wpList_loadA arr_page rfl _ rfl g5 rfl p P3 Hp.out ?_))
    | (go_at_call 12; go_must (refine (ho1.out _).mono ?_; rintro e w4 ⟨rfl, f4⟩; have z4 := f4.size))
    | (with_reducible refine at_wpP ?_; refine wpList_allocA arr_counts rfl rfl ?_; rw [HZ.out]; intro g7 w5 hg7 b5 f5 s5; have l5 := b5.lt; have z5 := f5.size)
    | (with_reducible refine at_wpP ?_; refine at_st 23 _ _ rfl ?_; go_must (refine wpList_storeA arr_counts rfl _ _ rfl g7 rfl R rfl _ b5 hRl.out hZl.out ?_; intro w6 b6 f6; have z6 := f6.size; have P6 := ((P3.fr0 f4).fr0 f5).ne f6 (by omega); have C6 := ((C3.fr0 f4).fr0 f5).ne f6 (by omega)))
    | (go_at_call 13; go_must (refine (ho2.out _).mono ?_; rintro e w7 ⟨rfl, f7⟩; have z7 := f7.size))
    | (with_reducible refine at_wpP ?_; refine wpList_allocA arr_240 rfl rfl ?_; rw [HZ.out]; intro g9 w8 hg9 b8 f8 s8; have l8 := b8.lt; have z8 := f8.size)
    | (with_reducible refine at_wpP ?_; refine at_st 22 _ _ rfl ?_; go_must (refine wpList_storeA arr_240 rfl _ _ rfl g9 rfl R rfl _ b8 hRl.out hZl.out ?_; intro w9 b9 f9; have z9 := f9.size; have C9 := ((C6.fr0 f7).fr0 f8).ne f9 (by omega); have X9 := ((b6.fr0 f7).fr0 f8).ne f9 (by omega)))
    | (with_reducible refine at_wpP ?_; refine at_ld 22 _ rfl ?_; go_must (refine wpList_loadA arr_240 rfl _ rfl g4 rfl c C9 Hc.out ?_)))
  have F9 : Fr noB w w9 := ((((((((f1.thenN f2).thenN f3).thenN f4).thenN f5).thenT f6 (fun i hi q => by unfold onB1 at q; omega)).thenN f7).thenN f8).thenT f9 (fun i hi q => by unfold onB1 at q; omega))
  go_loop [11, 29] (fun u i => ∃ (k : Nat) (m : Nat), k ≤ 240 ∧ i = .int .i64 (k : Int) ∧ u = .int .i64 (m : Int) ∧ Hid (usedN (c.take k) = m)) (fun _ i => 240 - (intOf i).toNat)
  case atStart => exact ⟨0, 0, by omega, rfl, rfl, rfl⟩
  case round =>
    obtain ⟨k, m, hk, rfl, rfl, hm⟩ := hrel
    have hml : m ≤ 240 := by
      have := usedN_le (c.take k)
      rw [hm.out, List.length_take, Hc.out] at this; omega
    by_cases hlt : k < 240
    · have d2 : (k : Int) < 240 := by omega
      have hs := show Hid _ from usedN_succ c k (by rw [Hc.out]; exact hlt)
      rw [hm.out] at hs
      obtain ⟨y, Hy⟩ : ∃ y, Hid (c.getD k 0 = y) := ⟨_, rfl⟩
      rw [Hy.out] at hs
      by_cases hy : y = 0
      · subst hy
        rw [if_pos rfl] at hs
        go_wp2_with (first
          | (refine at_index 22 _ _ rfl ?_; go_must (refine wpList_indexA arr_240 rfl _ _ rfl c rfl Hc.out k rfl hlt ?_; rw [Hy.out])))
        go_round
        case rel => exact ⟨k + 1, m, by omega, by go_num, rfl, hs⟩
        case measure => simp [intOf]; omega
      · rw [if_neg hy] at hs
        go_wp2_with (first
          | (refine at_index 22 _ _ rfl ?_; go_must (refine wpList_indexA arr_240 rfl _ _ rfl c rfl Hc.out k rfl hlt ?_; rw [Hy.out])))
        go_round
        case rel => exact ⟨k + 1, m + 1, by omega, by go_num, by go_num, hs⟩
        case measure => simp [intOf]; omega
    · obtain rfl : k = 240 := by omega
      rw [List.take_of_length_le (by rw [Hc.out]; exact Nat.le_refl _)] at hm
      have hmN : N = m := HN.out.symm.trans hm.out
      subst hmN
      go_wp2
      obtain ⟨w0, HW⟩ : ∃ w0, Hid (w9.drew = w0) := ⟨_, rfl⟩
      have f0 : Fr noB w9 w0 := by rw [← HW.out]; exact (Fr.refl _ _).drew
      have HW1 : Hid (Fr noB w0 w9.drew) := by rw [HW.out]; exact Fr.refl _ _
      have C0 := C9.fr0 f0
      have X0 := X9.fr0 f0
      have Y0 := b9.fr0 f0
      have F0 := F9.thenN f0
      refine wp_region_chain_lay (by kernel_rfl) [2, 5] [none, none, some 0, none, none, some 1, none, none, none, none, none, none, none, none, none, none, none, none, none, none, none, none, none, none, none, none, none, none, none, none, none]
        [fun v => v = .int .u64 G, fun v => v = pgV c, fun _ => True, fun v => v = .int .u64 G, fun v => v = pgV c, fun _ => True, fun v => v = .bool true, fun v => v = .bool true, fun v => v = pgV R, fun v => v = pgV R, fun v => v = .bool true, fun v => v = .bool true, fun v => v = .bool true, fun v => v = .int .i64 E, fun v => v = .int .i64 E, fun v => v = .bool true, fun v => v = .bool true, fun v => v = .bool true, fun v => v = .int .u64 G, fun v => v = .int .i64 (2 + G % 2), fun v => v = .int .u64 G, fun v => v = .int .i64 (2 + G % 2), fun v => v = .bool true, fun v => v = .bool true, fun v => v = .bool true, fun v => v = pgV c, fun v => v = .int .i64 (N : Int), fun v => v = .int .i64 (N : Int), fun v => v = .bool true, fun v => v = .bool true, fun v => v = .bool true]
        (JT3 w0 (pgV P) (pgV P)) (HW1.out) (by kernel_rfl) (by kernel_rfl) (by decide) ⟨?o0, ?o1, ?o2, ?o3, ?o4, ?o5, ?o6, ?o7, ?o8, ?o9, ?o10, ?o11, ?o12, ?o13, ?o14, ?o15, ?o16, ?o17, ?o18, ?o19, ?o20, ?o21, ?o22, ?o23, ?o24, ?o25, ?o26, ?o27, ?o28, ?o29, ?o30, trivial⟩ ?oe
      case o0 =>
        intro A W hv hlen hJ hbase hdL hdH
        have e0 : A.eval (.tmp 0) = .int .u64 G := hbase 0 (by kernel_rfl)
        have f0 : A.tmps[0]?.getD undef = .int .u64 G := by simpa [Act.eval] using e0
        exact light_val rfl (v := .int .u64 G) (by simp [execOp, e0, f0]) hJ rfl
      case o1 =>
        intro A W hv hlen hJ hbase hdL hdH
        have e4 : A.eval (.tmp 4) = ptr g4 := hbase 4 (by kernel_rfl)
        have f4 : A.tmps[4]?.getD undef = ptr g4 := by simpa [Act.eval] using e4
        have hr := run_loadA arr_240 W g4 0 c (bxAll (C0.fr0 hJ.fr)) Hc.out
        exact light_val rfl (v := pgV c) (by simp [execOp, e4, hr, Result.andThen]) hJ rfl
      case o2 =>
        intro A W hv hlen hJ hbase hdL hdH
        have e37 : A.eval (.tmp 37) = .int .u64 G := hdL 0 37 (by kernel_rfl) (by kernel_rfl) (by kernel_rfl)
        have f37 : A.tmps[37]?.getD undef = .int .u64 G := by simpa [Act.eval] using e37
        have e38 : A.eval (.tmp 38) = pgV c := hdL 1 38 (by kernel_rfl) (by kernel_rfl) (by kernel_rfl)
        have f38 : A.tmps[38]?.getD undef = pgV c := by simpa [Act.eval] using e38
        obtain rfl : hv = [] := List.eq_nil_of_length_eq_zero hlen
        refine heavy_call rfl (f := 14) (args := #[.int .u64 G, pgV c]) (by simp [execOp, resolve, invoke, go_sem, e37, f37, e38, f38]) ?_
        refine (hp1.out _).mono ?_
        rintro e w' ⟨rfl, f'⟩
        exact ⟨_, rfl, rfl, Fr.thenN hJ f'⟩
      case o3 =>
        intro A W hv hlen hJ hbase hdL hdH
        have e0 : A.eval (.tmp 0) = .int .u64 G := hbase 0 (by kernel_rfl)
        have f0 : A.tmps[0]?.getD undef = .int .u64 G := by simpa [Act.eval] using e0
        exact light_val rfl (v := .int .u64 G) (by simp [execOp, e0, f0]) hJ rfl
      case o4 =>
        intro A W hv hlen hJ hbase hdL hdH
        have e4 : A.eval (.tmp 4) = ptr g4 := hbase 4 (by kernel_rfl)
        have f4 : A.tmps[4]?.getD undef = ptr g4 := by simpa [Act.eval] using e4
        have hr := run_loadA arr_240 W g4 0 c (bxAll (C0.fr0 hJ.fr)) Hc.out
        exact light_val rfl (v := pgV c) (by simp [execOp, e4, hr, Result.andThen]) hJ rfl
      case o5 =>
        intro A W hv hlen hJ hbase hdL hdH
        have e40 : A.eval (.tmp 40) = .int .u64 G := hdL 3 40 (by kernel_rfl) (by kernel_rfl) (by kernel_rfl)
        have f40 : A.tmps[40]?.getD undef = .int .u64 G := by simpa [Act.eval] using e40
        have e41 : A.eval (.tmp 41) = pgV c := hdL 4 41 (by kernel_rfl) (by kernel_rfl) (by kernel_rfl)
        have f41 : A.tmps[41]?.getD undef = pgV c := by simpa [Act.eval] using e41
        match hv, hlen with
        | [v39], _ =>
          obtain ⟨rfl, hf⟩ := hJ
          refine heavy_call rfl (f := 15) (args := #[.int .u64 G, pgV c]) (by simp [execOp, resolve, invoke, go_sem, e40, f40, e41, f41]) ?_
          refine (hp2.out _).mono ?_
          rintro e w' ⟨rfl, f'⟩
          exact ⟨_, rfl, rfl, rfl, hf.thenN f'⟩
      case o6 =>
        intro A W hv hlen hJ hbase hdL hdH
        have e39 := hJ.at0 (hdH 2 39 0 (by kernel_rfl) rfl (by kernel_rfl))
        have e42 := hJ.at1 (hdH 5 42 1 (by kernel_rfl) rfl (by kernel_rfl))
        have hr := run_eqlA arr_page W P P hPl.out hPl.out
        rw [epp.out] at hr
        exact light_val rfl (v := .bool true) (by simp [execOp, e39, e42, hr, eqgA arr_page, Result.andThen]) hJ rfl
      case o7 =>
        intro A W hv hlen hJ hbase hdL hdH
        have e43 : A.eval (.tmp 43) = .bool true := hdL 6 43 (by kernel_rfl) (by kernel_rfl) (by kernel_rfl)
        have f43 : A.tmps[43]?.getD undef = .bool true := by simpa [Act.eval] using e43
        exact light_val rfl (v := .bool true) (by simp [execOp, e43, f43]) hJ rfl
      case o8 =>
        intro A W hv hlen hJ hbase hdL hdH
        have e7 : A.eval (.tmp 7) = ptr g7 := hbase 7 (by kernel_rfl)
        have f7 : A.tmps[7]?.getD undef = ptr g7 := by simpa [Act.eval] using e7
        have eg : A.eval (.tmp 44) = .bool true := hdL 7 44 (by kernel_rfl) (by kernel_rfl) (by kernel_rfl)
        have hr := run_loadA arr_counts W g7 0 R (bxAll (X0.fr0 hJ.fr)) hRl.out
        exact light_val (wanted_of rfl (by kernel_rfl) eg) (v := pgV R) (by simp [execOp, e7, hr, Result.andThen]) hJ rfl
      case o9 =>
        intro A W hv hlen hJ hbase hdL hdH
        have e9 : A.eval (.tmp 9) = ptr g9 := hbase 9 (by kernel_rfl)
        have f9 : A.tmps[9]?.getD undef = ptr g9 := by simpa [Act.eval] using e9
        have eg : A.eval (.tmp 44) = .bool true := hdL 7 44 (by kernel_rfl) (by kernel_rfl) (by kernel_rfl)
        have hr := run_loadA arr_240 W g9 0 R (bxAll (Y0.fr0 hJ.fr)) hRl.out
        exact light_val (wanted_of rfl (by kernel_rfl) eg) (v := pgV R) (by simp [execOp, e9, hr, Result.andThen]) hJ rfl
      case o10 =>
        intro A W hv hlen hJ hbase hdL hdH
        have e45 : A.eval (.tmp 45) = pgV R := hdL 8 45 (by kernel_rfl) (by kernel_rfl) (by kernel_rfl)
        have f45 : A.tmps[45]?.getD undef = pgV R := by simpa [Act.eval] using e45
        have e46 : A.eval (.tmp 46) = pgV R := hdL 9 46 (by kernel_rfl) (by kernel_rfl) (by kernel_rfl)
        have f46 : A.tmps[46]?.getD undef = pgV R := by simpa [Act.eval] using e46
        have eg : A.eval (.tmp 44) = .bool true := hdL 7 44 (by kernel_rfl) (by kernel_rfl) (by kernel_rfl)
        have hr := run_eqlA arr_240 W R R hRl.out hRl.out
        rw [err.out] at hr
        exact light_val (wanted_of rfl (by kernel_rfl) eg) (v := .bool true) (by simp [execOp, e45, e46, hr, eqgA arr_240, Result.andThen]) hJ rfl
      case o11 =>
        intro A W hv hlen hJ hbase hdL hdH
        have e44 : A.eval (.tmp 44) = .bool true := hdL 7 44 (by kernel_rfl) (by kernel_rfl) (by kernel_rfl)
        have f44 : A.tmps[44]?.getD undef = .bool true := by simpa [Act.eval] using e44
        have e47 : A.eval (.tmp 47) = .bool true := hdL 10 47 (by kernel_rfl) (by kernel_rfl) (by kernel_rfl)
        have f47 : A.tmps[47]?.getD undef = .bool true := by simpa [Act.eval] using e47
        exact light_val rfl (v := .bool true) (by simp [execOp, go_sem, e44, f44, e47, f47]) hJ rfl
      case o12 =>
        intro A W hv hlen hJ hbase hdL hdH
        have e48 : A.eval (.tmp 48) = .bool true := hdL 11 48 (by kernel_rfl) (by kernel_rfl) (by kernel_rfl)
        have f48 : A.tmps[48]?.getD undef = .bool true := by simpa [Act.eval] using e48
        exact light_val rfl (v := .bool true) (by simp [execOp, e48, f48]) hJ rfl
      case o13 =>
        intro A W hv hlen hJ hbase hdL hdH
        have e8 : A.eval (.tmp 8) = .int .i64 E := hbase 8 (by kernel_rfl)
        have f8 : A.tmps[8]?.getD undef = .int .i64 E := by simpa [Act.eval] using e8
        have eg : A.eval (.tmp 49) = .bool true := hdL 12 49 (by kernel_rfl) (by kernel_rfl) (by kernel_rfl)
        exact light_val (wanted_of rfl (by kernel_rfl) eg) (v := .int .i64 E) (by simp [execOp, e8, f8]) hJ rfl
      case o14 =>
        intro A W hv hlen hJ hbase hdL hdH
        have e10 : A.eval (.tmp 10) = .int .i64 E := hbase 10 (by kernel_rfl)
        have f10 : A.tmps[10]?.getD undef = .int .i64 E := by simpa [Act.eval] using e10
        have eg : A.eval (.tmp 49) = .bool true := hdL 12 49 (by kernel_rfl) (by kernel_rfl) (by kernel_rfl)
        exact light_val (wanted_of rfl (by kernel_rfl) eg) (v := .int .i64 E) (by simp [execOp, e10, f10]) hJ rfl
      case o15 =>
        intro A W hv hlen hJ hbase hdL hdH
        have e50 : A.eval (.tmp 50) = .int .i64 E := hdL 13 50 (by kernel_rfl) (by kernel_rfl) (by kernel_rfl)
        have f50 : A.tmps[50]?.getD undef = .int .i64 E := by simpa [Act.eval] using e50
        have e51 : A.eval (.tmp 51) = .int .i64 E := hdL 14 51 (by kernel_rfl) (by kernel_rfl) (by kernel_rfl)
        have f51 : A.tmps[51]?.getD undef = .int .i64 E := by simpa [Act.eval] using e51
        have eg : A.eval (.tmp 49) = .bool true := hdL 12 49 (by kernel_rfl) (by kernel_rfl) (by kernel_rfl)
        exact light_val (wanted_of rfl (by kernel_rfl) eg) (v := .bool true) (by simp [execOp, go_sem, e50, f50, e51, f51]) hJ rfl
      case o16 =>
        intro A W hv hlen hJ hbase hdL hdH
        have e49 : A.eval (.tmp 49) = .bool true := hdL 12 49 (by kernel_rfl) (by kernel_rfl) (by kernel_rfl)
        have f49 : A.tmps[49]?.getD undef = .bool true := by simpa [Act.eval] using e49
        have e52 : A.eval (.tmp 52) = .bool true := hdL 15 52 (by kernel_rfl) (by kernel_rfl) (by kernel_rfl)
        have f52 : A.tmps[52]?.getD undef = .bool true := by simpa [Act.eval] using e52
        exact light_val rfl (v := .bool true) (by simp [execOp, go_sem, e49, f49, e52, f52]) hJ rfl
      case o17 =>
        intro A W hv hlen hJ hbase hdL hdH
        have e53 : A.eval (.tmp 53) = .bool true := hdL 16 53 (by kernel_rfl) (by kernel_rfl) (by kernel_rfl)
        have f53 : A.tmps[53]?.getD undef = .bool true := by simpa [Act.eval] using e53
        exact light_val rfl (v := .bool true) (by simp [execOp, e53, f53]) hJ rfl
      case o18 =>
        intro A W hv hlen hJ hbase hdL hdH
        have e0 : A.eval (.tmp 0) = .int .u64 G := hbase 0 (by kernel_rfl)
        have f0 : A.tmps[0]?.getD undef = .int .u64 G := by simpa [Act.eval] using e0
        have eg : A.eval (.tmp 54) = .bool true := hdL 17 54 (by kernel_rfl) (by kernel_rfl) (by kernel_rfl)
        exact light_val (wanted_of rfl (by kernel_rfl) eg) (v := .int .u64 G) (by simp [execOp, e0, f0]) hJ rfl
      case o19 =>
        intro A W hv hlen hJ hbase hdL hdH
        have e55 : A.eval (.tmp 55) = .int .u64 G := hdL 18 55 (by kernel_rfl) (by kernel_rfl) (by kernel_rfl)
        have f55 : A.tmps[55]?.getD undef = .int .u64 G := by simpa [Act.eval] using e55
        have eg : A.eval (.tmp 54) = .bool true := hdL 17 54 (by kernel_rfl) (by kernel_rfl) (by kernel_rfl)
        refine light_callT (wanted_of rfl (by kernel_rfl) eg) (f := 11) (args := #[.int .u64 G]) (by simp [execOp, resolve, invoke, go_sem, e55, f55]) ?_
        refine (area_any G hG _).mono ?_
        rintro e w' ⟨rfl, rfl⟩
        exact ⟨_, rfl, hJ, rfl⟩
      case o20 =>
        intro A W hv hlen hJ hbase hdL hdH
        have e0 : A.eval (.tmp 0) = .int .u64 G := hbase 0 (by kernel_rfl)
        have f0 : A.tmps[0]?.getD undef = .int .u64 G := by simpa [Act.eval] using e0
        have eg : A.eval (.tmp 54) = .bool true := hdL 17 54 (by kernel_rfl) (by kernel_rfl) (by kernel_rfl)
        exact light_val (wanted_of rfl (by kernel_rfl) eg) (v := .int .u64 G) (by simp [execOp, e0, f0]) hJ rfl
      case o21 =>
        intro A W hv hlen hJ hbase hdL hdH
        have e57 : A.eval (.tmp 57) = .int .u64 G := hdL 20 57 (by kernel_rfl) (by kernel_rfl) (by kernel_rfl)
        have f57 : A.tmps[57]?.getD undef = .int .u64 G := by simpa [Act.eval] using e57
        have eg : A.eval (.tmp 54) = .bool true := hdL 17 54 (by kernel_rfl) (by kernel_rfl) (by kernel_rfl)
        refine light_callT (wanted_of rfl (by kernel_rfl) eg) (f := 16) (args := #[.int .u64 G]) (by simp [execOp, resolve, invoke, go_sem, e57, f57]) ?_
        refine (rarea_any G hG _).mono ?_
        rintro e w' ⟨rfl, rfl⟩
        exact ⟨_, rfl, hJ, rfl⟩
      case o22 =>
        intro A W hv hlen hJ hbase hdL hdH
        have e56 : A.eval (.tmp 56) = .int .i64 (2 + G % 2) := hdL 19 56 (by kernel_rfl) (by kernel_rfl) (by kernel_rfl)
        have f56 : A.tmps[56]?.getD undef = .int .i64 (2 + G % 2) := by simpa [Act.eval] using e56
        have e58 : A.eval (.tmp 58) = .int .i64 (2 + G % 2) := hdL 21 58 (by kernel_rfl) (by kernel_rfl) (by kernel_rfl)
        have f58 : A.tmps[58]?.getD undef = .int .i64 (2 + G % 2) := by simpa [Act.eval] using e58
        have eg : A.eval (.tmp 54) = .bool true := hdL 17 54 (by kernel_rfl) (by kernel_rfl) (by kernel_rfl)
        exact light_val (wanted_of rfl (by kernel_rfl) eg) (v := .bool true) (by simp [execOp, go_sem, e56, f56, e58, f58]) hJ rfl
      case o23 =>
        intro A W hv hlen hJ hbase hdL hdH
        have e54 : A.eval (.tmp 54) = .bool true := hdL 17 54 (by kernel_rfl) (by kernel_rfl) (by kernel_rfl)
        have f54 : A.tmps[54]?.getD undef = .bool true := by simpa [Act.eval] using e54
        have e59 : A.eval (.tmp 59) = .bool true := hdL 22 59 (by kernel_rfl) (by kernel_rfl) (by kernel_rfl)
        have f59 : A.tmps[59]?.getD undef = .bool true := by simpa [Act.eval] using e59
        exact light_val rfl (v := .bool true) (by simp [execOp, go_sem, e54, f54, e59, f59]) hJ rfl
      case o24 =>
        intro A W hv hlen hJ hbase hdL hdH
        have e60 : A.eval (.tmp 60) = .bool true := hdL 23 60 (by kernel_rfl) (by kernel_rfl) (by kernel_rfl)
        have f60 : A.tmps[60]?.getD undef = .bool true := by simpa [Act.eval] using e60
        exact light_val rfl (v := .bool true) (by simp [execOp, e60, f60]) hJ rfl
      case o25 =>
        intro A W hv hlen hJ hbase hdL hdH
        have e4 : A.eval (.tmp 4) = ptr g4 := hbase 4 (by kernel_rfl)
        have f4 : A.tmps[4]?.getD undef = ptr g4 := by simpa [Act.eval] using e4
        have eg : A.eval (.tmp 61) = .bool true := hdL 24 61 (by kernel_rfl) (by kernel_rfl) (by kernel_rfl)
        have hr := run_loadA arr_240 W g4 0 c (bxAll (C0.fr0 hJ.fr)) Hc.out
        exact light_val (wanted_of rfl (by kernel_rfl) eg) (v := pgV c) (by simp [execOp, e4, hr, Result.andThen]) hJ rfl
      case o26 =>
        intro A W hv hlen hJ hbase hdL hdH
        have e62 : A.eval (.tmp 62) = pgV c := hdL 25 62 (by kernel_rfl) (by kernel_rfl) (by kernel_rfl)
        have f62 : A.tmps[62]?.getD undef = pgV c := by simpa [Act.eval] using e62
        have eg : A.eval (.tmp 61) = .bool true := hdL 24 61 (by kernel_rfl) (by kernel_rfl) (by kernel_rfl)
        refine light_callT (wanted_of rfl (by kernel_rfl) eg) (f := 17) (args := #[pgV c]) (by simp [execOp, resolve, invoke, go_sem, e62, f62]) ?_
        refine (hus.out _).mono ?_
        rintro e w' ⟨rfl, f'⟩
        exact ⟨_, rfl, hJ.grow f', rfl⟩
      case o27 =>
        intro A W hv hlen hJ hbase hdL hdH
        have e11 : A.eval (.tmp 11) = .int .i64 (N : Int) := hbase 11 (by kernel_rfl)
        have f11 : A.tmps[11]?.getD undef = .int .i64 (N : Int) := by simpa [Act.eval] using e11
        have eg : A.eval (.tmp 61) = .bool true := hdL 24 61 (by kernel_rfl) (by kernel_rfl) (by kernel_rfl)
        exact light_val (wanted_of rfl (by kernel_rfl) eg) (v := .int .i64 (N : Int)) (by simp [execOp, e11, f11]) hJ rfl
      case o28 =>
        intro A W hv hlen hJ hbase hdL hdH
        have e63 : A.eval (.tmp 63) = .int .i64 (N : Int) := hdL 26 63 (by kernel_rfl) (by kernel_rfl) (by kernel_rfl)
        have f63 : A.tmps[63]?.getD undef = .int .i64 (N : Int) := by simpa [Act.eval] using e63
        have e64 : A.eval (.tmp 64) = .int .i64 (N : Int) := hdL 27 64 (by kernel_rfl) (by kernel_rfl) (by kernel_rfl)
        have f64 : A.tmps[64]?.getD undef = .int .i64 (N : Int) := by simpa [Act.eval] using e64
        have eg : A.eval (.tmp 61) = .bool true := hdL 24 61 (by kernel_rfl) (by kernel_rfl) (by kernel_rfl)
        exact light_val (wanted_of rfl (by kernel_rfl) eg) (v := .bool true) (by simp [execOp, go_sem, e63, f63, e64, f64]) hJ rfl
      case o29 =>
        intro A W hv hlen hJ hbase hdL hdH
        have e61 : A.eval (.tmp 61) = .bool true := hdL 24 61 (by kernel_rfl) (by kernel_rfl) (by kernel_rfl)
        have f61 : A.tmps[61]?.getD undef = .bool true := by simpa [Act.eval] using e61
        have e65 : A.eval (.tmp 65) = .bool true := hdL 28 65 (by kernel_rfl) (by kernel_rfl) (by kernel_rfl)
        have f65 : A.tmps[65]?.getD undef = .bool true := by simpa [Act.eval] using e65
        exact light_val rfl (v := .bool true) (by simp [execOp, go_sem, e61, f61, e65, f65]) hJ rfl
      case o30 =>
        intro A W hv hlen hJ hbase hdL hdH
        have e66 : A.eval (.tmp 66) = .bool true := hdL 29 66 (by kernel_rfl) (by kernel_rfl) (by kernel_rfl)
        have f66 : A.tmps[66]?.getD undef = .bool true := by simpa [Act.eval] using e66
        exact light_val rfl (v := .bool true) (by simp [execOp, e66, f66]) hJ rfl
      case oe =>
        intro vs W' hv hlen hJ hL hH
        match hv, hlen with
        | [x0, x1], _ =>
          have hx : vs 30 = .bool true := hL 30 (by rfl) (by rfl)
          have hf' := hJ.fr
          simp only [layL, Nat.reduceAdd, Act.put, List.setIfInBounds_toArray, List.set_cons_zero, List.set_cons_succ]
          clear hL hH
          generalize vs 0 = y100 at *
          generalize vs 1 = y101 at *
          generalize vs 2 = y102 at *
          generalize vs 3 = y103 at *
          generalize vs 4 = y104 at *
          generalize vs 5 = y105 at *
          generalize vs 6 = y106 at *
          generalize vs 7 = y107 at *
          generalize vs 8 = y108 at *
          generalize vs 9 = y109 at *
          generalize vs 10 = y110 at *
          generalize vs 11 = y111 at *
          generalize vs 12 = y112 at *
          generalize vs 13 = y113 at *
          generalize vs 14 = y114 at *
          generalize vs 15 = y115 at *
          generalize vs 16 = y116 at *
          generalize vs 17 = y117 at *
          generalize vs 18 = y118 at *
          generalize vs 19 = y119 at *
          generalize vs 20 = y120 at *
          generalize vs 21 = y121 at *
          generalize vs 22 = y122 at *
          generalize vs 23 = y123 at *
          generalize vs 24 = y124 at *
          generalize vs 25 = y125 at *
          generalize vs 26 = y126 at *
          generalize vs 27 = y127 at *
          generalize vs 28 = y128 at *
          generalize vs 29 = y129 at *
          generalize vs 30 = y130 at *
          subst hx
          go_wp2
          go_ret
          exact ⟨rfl, (F0.thenN hf').below⟩
end Go.Proofs.Ytdfffbbdeaefeaa
