/- Texts T13 of the proof of TallyApart, one behind the other. -/
import Derived.Test.YtdfffbbdeaefeaaBundleTallyApart1
import Derived.Test.YtdfffbbdeaefeaaBundleTallyApart2
import Derived.Test.YtdfffbbdeaefeaaBundleTallyApart3
import Derived.Test.YtdfffbbdeaefeaaBundleTallyApart4
import Derived.Test.YtdfffbbdeaefeaaBundleTallyApart5
import Derived.Test.YtdfffbbdeaefeaaBundleTallyApart6
import Derived.Test.YtdfffbbdeaefeaaBundleTallyApart7
import Derived.Test.YtdfffbbdeaefeaaBundleTallyApart8
import Derived.Test.YtdfffbbdeaefeaaBundleTallyApart9
import Derived.Test.YtdfffbbdeaefeaaBundleTallyApart10
/- TallyApart. (Written by t13_gen.py.) -/
namespace Go.Proofs.Ytdfffbbdeaefeaa
open Go.RowKit Go.Proofs.U
set_option linter.unusedSimpArgs false
set_option linter.unusedVariables false
/-- While two pages are made. -/
def JT2 (w0 : World) (P Q : Value) : List Value → World → Prop
  | [], W => W = w0
  | [v], W => v = P ∧ Fr noB w0 W
  | [v, u], W => v = P ∧ u = Q ∧ Fr noB w0 W
  | _, _ => False
theorem JT2.fr {w0 : World} {P Q : Value} : ∀ {hv : List Value} {W : World}, JT2 w0 P Q hv W → Fr noB w0 W
  | [], _, h => by cases h; exact Fr.refl _ _
  | [_], _, h => h.2
  | [_, _], _, h => h.2.2
  | _ :: _ :: _ :: _, _, h => h.elim
theorem JT2.at0 {w0 : World} {P Q : Value} {x : Value} : ∀ {hv : List Value} {W : World}, JT2 w0 P Q hv W → hv[0]? = some x → x = P
  | [], _, h, k => by cases k
  | [_], _, h, k => by cases k; exact h.1
  | [_, _], _, h, k => by cases k; exact h.1
  | _ :: _ :: _ :: _, _, h, _ => h.elim
theorem JT2.at1 {w0 : World} {P Q : Value} {x : Value} : ∀ {hv : List Value} {W : World}, JT2 w0 P Q hv W → hv[1]? = some x → x = Q
  | [], _, h, k => by cases k
  | [_], _, h, k => by cases k
  | [_, _], _, h, k => by cases k; exact h.2.1
  | _ :: _ :: _ :: _, _, h, _ => h.elim
theorem under_n2 : Try.prog.underlying 41 = some (.array 2 29) := by kernel_rfl
theorem size_u64 : (Try.prog.info? 29).map (·.size) = some 1 := by kernel_rfl
theorem run_idxN (w : World) (g i : Nat) (hi : i < 2) : (Instr.indexAt 41 (.pointer (some ⟨g, 0, none⟩)) (.int .i64 (i : Int))).run Try.prog w = .ok (.pointer (some ⟨g, i, none⟩)) w := by
  obtain ⟨ii, hinf, hsz⟩ := Option.map_eq_some_iff.1 size_u64
  have h1 : (0 : Int) ≤ (i : Int) ∧ (i : Int) < 2 := by omega
  simp [Instr.indexAt, asIntOf, run_underlying under_n2, h1, sizeOf, typeInfo, hinf, hsz, go_sem, Addr.plain]
  omega
theorem tly_eq {g h : Int} (hg : G64 g) (hh : G64 h) {a b : List Int} (ha : a.length = 240) (hb : b.length = 240) : (tlyP g a == tlyP h b) = (decide (g = h) && (a == b)) := by
  by_cases e : g = h ∧ a = b
  · obtain ⟨rfl, rfl⟩ := e
    simp
  · have h1 : (tlyP g a == tlyP h b) = false := by
      rw [beq_eq_false_iff_ne]
      intro k
      exact e (tly_inj hg hh ha hb k)
    rw [h1]
    by_cases k : g = h
    · have h2 : (a == b) = false := by rw [beq_eq_false_iff_ne]; intro q; exact e ⟨k, q⟩
      rw [h2]; simp
    · simp [k]
set_option maxRecDepth 100000 in
set_option maxHeartbeats 4000000 in
theorem tapart_one (G H : Int) (a b : List Int) (w : World) (hG : G64 G) (hH : G64 H) (hal : a.length = 240) (hab : Byt a) (hbl : b.length = 240) (hbb : Byt b) (hgh : G = H) :
    Calls Try.prog 7 #[.agg #[.int .u64 G, .int .u64 H], pgV a, pgV b] w fun r w' => r = .returned (.bool true) ∧ Below w.heap.size w w' := by
  have hpq := tly_eq hG hH hal hbl
  have hp1 := show Hid _ from fun W => tpage_any G hG a hal hab W
  have hp2 := show Hid _ from fun W => tpage_any H hH b hbl hbb W
  have hus := show Hid _ from fun W => used_any a hal W
  have hP := tlyP_len G hal
  have hQ := tlyP_len H hbl
  have hN := usedN_le a
  have hNz := usedN_none a
  rw [hal] at hN hNz
  obtain ⟨P, HP⟩ : ∃ P, Hid (tlyP G a = P) := ⟨_, rfl⟩
  obtain ⟨Q, HQ⟩ : ∃ P, Hid (tlyP H b = P) := ⟨_, rfl⟩
  obtain ⟨N, HN⟩ : ∃ P, Hid (usedN a = P) := ⟨_, rfl⟩
  obtain ⟨Z, HZ⟩ : ∃ Z, Hid (zerB 240 = Z) := ⟨_, rfl⟩
  have hZl : Hid (Z.length = 240) := by show _ = _; rw [← HZ.out]; exact zerB_len 240
  simp only [HP.out, HQ.out] at hpq hp1 hp2 hP hQ
  rw [HN.out] at hus hN hNz
  rw [HZ.out] at hNz
  have hPl := show Hid _ from hP
  have hQl := show Hid _ from hQ
  have Ha := show Hid _ from hal
  have Hb := show Hid _ from hbl
  obtain ⟨ZB, hZB⟩ : ∃ B, Hid ((a == Z) = B) := ⟨_, rfl⟩
  have hN0 : Hid (((N : Int) == 0) = ZB) := by
    show _ = _
    rw [← hZB.out, Bool.eq_iff_iff, beq_iff_eq, beq_iff_eq, ← hNz]
    omega
  obtain ⟨S, hS⟩ : ∃ S, Hid ((a == b) = S) := ⟨_, rfl⟩
  have hPQ : Hid ((P == Q) = S) := by show _ = _; rw [hpq, hgh, hS.out]; simp
  subst hgh
  have n0 : (0 : Int) ≤ (N : Int) := by omega
  have n1 : (N : Int) ≤ 240 := by omega
  clear hpq hP hQ hNz hal hbl
  go_enter Try.func7, Try.ntmps7
  go_wp2_with (first
    | (with_reducible refine at_wpP ?_; refine wpList_boxV rfl 41 _ rfl [.int .u64 G, .int .u64 G] rfl ?_; intro g3 w1 hg3 b1 f1 s1; have l1 := b1.lt; have z1 := f1.size)
    | (with_reducible refine at_wpP ?_; have f2x := f2; refine wpList_boxV rfl 22 _ rfl (pgv b) rfl ?_; intro g5 w3 hg5 b3 f3 s3; have l3 := b3.lt; have z3 := f3.size)
    | (with_reducible refine at_wpP ?_; refine wpList_boxV rfl 22 _ rfl (pgv a) rfl ?_; intro g4 w2 hg4 b2 f2 s2; have l2 := b2.lt; have z2 := f2.size)
    | (go_at_call 10; go_must (refine (talive_any _).mono ?_; rintro e w4 ⟨rfl, f4⟩; have z4 := f4.size; have N4 := (((b1.fr0 f2).fr0 f3).fr0 f4); have A4 := ((b2.fr0 f3).fr0 f4); have B4 := (b3.fr0 f4); obtain ⟨q0, _⟩ := N4.cell 0 _ rfl; obtain ⟨q1, _⟩ := N4.cell 1 _ rfl))
    | (with_reducible refine at_wpP ?_; refine at_ld 22 _ rfl ?_; first | refine wpList_loadA arr_240 rfl _ rfl g5 rfl b B4 Hb.out ?_ | refine wpList_loadA arr_240 rfl _ rfl g4 rfl a A4 Ha.out ?_)
    | (with_reducible refine at_wpP ?_; refine at_bin .eql 22 _ _ _ rfl ?_; refine wpList_eqlA arr_240 rfl _ _ _ rfl a b rfl rfl Ha.out Hb.out ?_; rw [hS.out])
    | (go_at_call 17; go_must (refine (hus.out _).mono ?_; rintro e w5 ⟨rfl, f5⟩; have z5 := f5.size)))
  obtain ⟨w0, HW⟩ : ∃ w0, Hid (w5.drew = w0) := ⟨_, rfl⟩
  have f0 : Fr noB w5 w0 := by rw [← HW.out]; exact (Fr.refl _ _).drew
  have N0 := (N4.fr0 f5).fr0 f0
  have A0 := (A4.fr0 f5).fr0 f0
  have B0 := (B4.fr0 f5).fr0 f0
  have F0 : Fr noB w w0 := ((((f1.thenN f2).thenN f3).thenN f4).thenN f5).thenN f0
  refine wp_region_chain_lay (by kernel_rfl) [3, 7] [none, none, none, some 0, none, none, none, some 1, none, none, none, none, none, none, none, none, none, none, none, none, none, none, none, none, none, none, none, none]
    [fun v => v = .pointer (some ⟨g3, 0, none⟩), fun v => v = .int .u64 G, fun v => v = pgV a, fun _ => True, fun v => v = .pointer (some ⟨g3, 1, none⟩), fun v => v = .int .u64 G, fun v => v = pgV b, fun _ => True, fun v => v = .bool S, fun v => v = .bool S, fun v => v = .bool true, fun v => v = .bool true, fun v => v = .int .i64 (N : Int), fun v => v = .bool true, fun v => v = .bool true, fun v => v = .bool true, fun v => v = .int .i64 (N : Int), fun v => v = .bool true, fun v => v = .bool true, fun v => v = .bool true, fun v => v = .int .i64 (N : Int), fun v => v = .bool ZB, fun v => v = pgV a, fun v => v = pgV Z, fun v => v = .bool ZB, fun v => v = .bool true, fun v => v = .bool true, fun v => v = .bool true]
    (JT2 w0 (pgV P) (pgV Q)) (HW.out) (by kernel_rfl) (by kernel_rfl) (by decide) ⟨?o0, ?o1, ?o2, ?o3, ?o4, ?o5, ?o6, ?o7, ?o8, ?o9, ?o10, ?o11, ?o12, ?o13, ?o14, ?o15, ?o16, ?o17, ?o18, ?o19, ?o20, ?o21, ?o22, ?o23, ?o24, ?o25, ?o26, ?o27, trivial⟩ ?oe
  case o0 =>
    intro A W hv hlen hJ hbase hdL hdH
    have e3 : A.eval (.tmp 3) = ptr g3 := hbase 3 (by kernel_rfl)
    have f3 : A.tmps[3]?.getD undef = ptr g3 := by simpa [Act.eval] using e3
    have hr : (Instr.indexAt 41 (ptr g3) (.int .i64 0)).run Try.prog W = .ok (.pointer (some ⟨g3, 0, none⟩)) W := run_idxN W g3 0 (by decide)
    exact light_val rfl (v := .pointer (some ⟨g3, 0, none⟩)) (by simp [execOp, Act.eval, f3, hr, Result.andThen]) hJ rfl
  case o1 =>
    intro A W hv hlen hJ hbase hdL hdH
    have e23 : A.eval (.tmp 23) = .pointer (some ⟨g3, 0, none⟩) := hdL 0 23 (by kernel_rfl) (by kernel_rfl) (by kernel_rfl)
    have f23 : A.tmps[23]?.getD undef = .pointer (some ⟨g3, 0, none⟩) := by simpa [Act.eval] using e23
    have hc := ((N0.fr0 hJ.fr).cell 0 _ rfl).1
    exact light_val rfl (v := .int .u64 G) (by simp [execOp, go_sem, e23, f23, hc]) hJ rfl
  case o2 =>
    intro A W hv hlen hJ hbase hdL hdH
    have e4 : A.eval (.tmp 4) = ptr g4 := hbase 4 (by kernel_rfl)
    have f4 : A.tmps[4]?.getD undef = ptr g4 := by simpa [Act.eval] using e4
    have hr := run_loadA arr_240 W g4 0 a (bxAll (A0.fr0 hJ.fr)) Ha.out
    exact light_val rfl (v := pgV a) (by simp [execOp, e4, hr, Result.andThen]) hJ rfl
  case o3 =>
    intro A W hv hlen hJ hbase hdL hdH
    have e24 : A.eval (.tmp 24) = .int .u64 G := hdL 1 24 (by kernel_rfl) (by kernel_rfl) (by kernel_rfl)
    have f24 : A.tmps[24]?.getD undef = .int .u64 G := by simpa [Act.eval] using e24
    have e25 : A.eval (.tmp 25) = pgV a := hdL 2 25 (by kernel_rfl) (by kernel_rfl) (by kernel_rfl)
    have f25 : A.tmps[25]?.getD undef = pgV a := by simpa [Act.eval] using e25
    obtain rfl : hv = [] := List.eq_nil_of_length_eq_zero hlen
    cases hJ
    refine heavy_call rfl (f := 14) (args := #[.int .u64 G, pgV a]) (by simp [execOp, resolve, invoke, go_sem, e24, f24, e25, f25]) ?_
    refine (hp1.out _).mono ?_
    rintro e w' ⟨rfl, f'⟩
    exact ⟨_, rfl, rfl, f'⟩
  case o4 =>
    intro A W hv hlen hJ hbase hdL hdH
    have e3 : A.eval (.tmp 3) = ptr g3 := hbase 3 (by kernel_rfl)
    have f3 : A.tmps[3]?.getD undef = ptr g3 := by simpa [Act.eval] using e3
    have hr : (Instr.indexAt 41 (ptr g3) (.int .i64 1)).run Try.prog W = .ok (.pointer (some ⟨g3, 1, none⟩)) W := run_idxN W g3 1 (by decide)
    exact light_val rfl (v := .pointer (some ⟨g3, 1, none⟩)) (by simp [execOp, Act.eval, f3, hr, Result.andThen]) hJ rfl
  case o5 =>
    intro A W hv hlen hJ hbase hdL hdH
    have e27 : A.eval (.tmp 27) = .pointer (some ⟨g3, 1, none⟩) := hdL 4 27 (by kernel_rfl) (by kernel_rfl) (by kernel_rfl)
    have f27 : A.tmps[27]?.getD undef = .pointer (some ⟨g3, 1, none⟩) := by simpa [Act.eval] using e27
    have hc := ((N0.fr0 hJ.fr).cell 1 _ rfl).1
    exact light_val rfl (v := .int .u64 G) (by simp [execOp, go_sem, e27, f27, hc]) hJ rfl
  case o6 =>
    intro A W hv hlen hJ hbase hdL hdH
    have e5 : A.eval (.tmp 5) = ptr g5 := hbase 5 (by kernel_rfl)
    have f5 : A.tmps[5]?.getD undef = ptr g5 := by simpa [Act.eval] using e5
    have hr := run_loadA arr_240 W g5 0 b (bxAll (B0.fr0 hJ.fr)) Hb.out
    exact light_val rfl (v := pgV b) (by simp [execOp, e5, hr, Result.andThen]) hJ rfl
  case o7 =>
    intro A W hv hlen hJ hbase hdL hdH
    have e28 : A.eval (.tmp 28) = .int .u64 G := hdL 5 28 (by kernel_rfl) (by kernel_rfl) (by kernel_rfl)
    have f28 : A.tmps[28]?.getD undef = .int .u64 G := by simpa [Act.eval] using e28
    have e29 : A.eval (.tmp 29) = pgV b := hdL 6 29 (by kernel_rfl) (by kernel_rfl) (by kernel_rfl)
    have f29 : A.tmps[29]?.getD undef = pgV b := by simpa [Act.eval] using e29
    match hv, hlen with
    | [v26], _ =>
      obtain ⟨rfl, hf⟩ := hJ
      refine heavy_call rfl (f := 14) (args := #[.int .u64 G, pgV b]) (by simp [execOp, resolve, invoke, go_sem, e28, f28, e29, f29]) ?_
      refine (hp2.out _).mono ?_
      rintro e w' ⟨rfl, f'⟩
      exact ⟨_, rfl, rfl, rfl, hf.thenN f'⟩
  case o8 =>
    intro A W hv hlen hJ hbase hdL hdH
    have e26 := hJ.at0 (hdH 3 26 0 (by kernel_rfl) rfl (by kernel_rfl))
    have e30 := hJ.at1 (hdH 7 30 1 (by kernel_rfl) rfl (by kernel_rfl))
    have hr := run_eqlA arr_page W P Q hPl.out hQl.out
    rw [hPQ.out] at hr
    exact light_val rfl (v := .bool S) (by simp [execOp, e26, e30, hr, eqgA arr_page, Result.andThen]) hJ rfl
  case o9 =>
    intro A W hv hlen hJ hbase hdL hdH
    have e7 : A.eval (.tmp 7) = .bool S := hbase 7 (by kernel_rfl)
    have f7 : A.tmps[7]?.getD undef = .bool S := by simpa [Act.eval] using e7
    exact light_val rfl (v := .bool S) (by simp [execOp, e7, f7]) hJ rfl
  case o10 =>
    intro A W hv hlen hJ hbase hdL hdH
    have e31 : A.eval (.tmp 31) = .bool S := hdL 8 31 (by kernel_rfl) (by kernel_rfl) (by kernel_rfl)
    have f31 : A.tmps[31]?.getD undef = .bool S := by simpa [Act.eval] using e31
    have e32 : A.eval (.tmp 32) = .bool S := hdL 9 32 (by kernel_rfl) (by kernel_rfl) (by kernel_rfl)
    have f32 : A.tmps[32]?.getD undef = .bool S := by simpa [Act.eval] using e32
    exact light_val rfl (v := .bool true) (by simp [execOp, go_sem, e31, f31, e32, f32]) hJ rfl
  case o11 =>
    intro A W hv hlen hJ hbase hdL hdH
    have e33 : A.eval (.tmp 33) = .bool true := hdL 10 33 (by kernel_rfl) (by kernel_rfl) (by kernel_rfl)
    have f33 : A.tmps[33]?.getD undef = .bool true := by simpa [Act.eval] using e33
    exact light_val rfl (v := .bool true) (by simp [execOp, e33, f33]) hJ rfl
  case o12 =>
    intro A W hv hlen hJ hbase hdL hdH
    have e8 : A.eval (.tmp 8) = .int .i64 (N : Int) := hbase 8 (by kernel_rfl)
    have f8 : A.tmps[8]?.getD undef = .int .i64 (N : Int) := by simpa [Act.eval] using e8
    have eg : A.eval (.tmp 34) = .bool true := hdL 11 34 (by kernel_rfl) (by kernel_rfl) (by kernel_rfl)
    exact light_val (wanted_of rfl (by kernel_rfl) eg) (v := .int .i64 (N : Int)) (by simp [execOp, e8, f8]) hJ rfl
  case o13 =>
    intro A W hv hlen hJ hbase hdL hdH
    have e35 : A.eval (.tmp 35) = .int .i64 (N : Int) := hdL 12 35 (by kernel_rfl) (by kernel_rfl) (by kernel_rfl)
    have f35 : A.tmps[35]?.getD undef = .int .i64 (N : Int) := by simpa [Act.eval] using e35
    have eg : A.eval (.tmp 34) = .bool true := hdL 11 34 (by kernel_rfl) (by kernel_rfl) (by kernel_rfl)
    exact light_val (wanted_of rfl (by kernel_rfl) eg) (v := .bool true) (by simp [execOp, go_sem, e35, f35, n0]) hJ rfl
  case o14 =>
    intro A W hv hlen hJ hbase hdL hdH
    have e34 : A.eval (.tmp 34) = .bool true := hdL 11 34 (by kernel_rfl) (by kernel_rfl) (by kernel_rfl)
    have f34 : A.tmps[34]?.getD undef = .bool true := by simpa [Act.eval] using e34
    have e36 : A.eval (.tmp 36) = .bool true := hdL 13 36 (by kernel_rfl) (by kernel_rfl) (by kernel_rfl)
    have f36 : A.tmps[36]?.getD undef = .bool true := by simpa [Act.eval] using e36
    exact light_val rfl (v := .bool true) (by simp [execOp, go_sem, e34, f34, e36, f36]) hJ rfl
  case o15 =>
    intro A W hv hlen hJ hbase hdL hdH
    have e37 : A.eval (.tmp 37) = .bool true := hdL 14 37 (by kernel_rfl) (by kernel_rfl) (by kernel_rfl)
    have f37 : A.tmps[37]?.getD undef = .bool true := by simpa [Act.eval] using e37
    exact light_val rfl (v := .bool true) (by simp [execOp, e37, f37]) hJ rfl
  case o16 =>
    intro A W hv hlen hJ hbase hdL hdH
    have e8 : A.eval (.tmp 8) = .int .i64 (N : Int) := hbase 8 (by kernel_rfl)
    have f8 : A.tmps[8]?.getD undef = .int .i64 (N : Int) := by simpa [Act.eval] using e8
    have eg : A.eval (.tmp 38) = .bool true := hdL 15 38 (by kernel_rfl) (by kernel_rfl) (by kernel_rfl)
    exact light_val (wanted_of rfl (by kernel_rfl) eg) (v := .int .i64 (N : Int)) (by simp [execOp, e8, f8]) hJ rfl
  case o17 =>
    intro A W hv hlen hJ hbase hdL hdH
    have e39 : A.eval (.tmp 39) = .int .i64 (N : Int) := hdL 16 39 (by kernel_rfl) (by kernel_rfl) (by kernel_rfl)
    have f39 : A.tmps[39]?.getD undef = .int .i64 (N : Int) := by simpa [Act.eval] using e39
    have eg : A.eval (.tmp 38) = .bool true := hdL 15 38 (by kernel_rfl) (by kernel_rfl) (by kernel_rfl)
    exact light_val (wanted_of rfl (by kernel_rfl) eg) (v := .bool true) (by simp [execOp, go_sem, e39, f39, n1]) hJ rfl
  case o18 =>
    intro A W hv hlen hJ hbase hdL hdH
    have e38 : A.eval (.tmp 38) = .bool true := hdL 15 38 (by kernel_rfl) (by kernel_rfl) (by kernel_rfl)
    have f38 : A.tmps[38]?.getD undef = .bool true := by simpa [Act.eval] using e38
    have e40 : A.eval (.tmp 40) = .bool true := hdL 17 40 (by kernel_rfl) (by kernel_rfl) (by kernel_rfl)
    have f40 : A.tmps[40]?.getD undef = .bool true := by simpa [Act.eval] using e40
    exact light_val rfl (v := .bool true) (by simp [execOp, go_sem, e38, f38, e40, f40]) hJ rfl
  case o19 =>
    intro A W hv hlen hJ hbase hdL hdH
    have e41 : A.eval (.tmp 41) = .bool true := hdL 18 41 (by kernel_rfl) (by kernel_rfl) (by kernel_rfl)
    have f41 : A.tmps[41]?.getD undef = .bool true := by simpa [Act.eval] using e41
    exact light_val rfl (v := .bool true) (by simp [execOp, e41, f41]) hJ rfl
  case o20 =>
    intro A W hv hlen hJ hbase hdL hdH
    have e8 : A.eval (.tmp 8) = .int .i64 (N : Int) := hbase 8 (by kernel_rfl)
    have f8 : A.tmps[8]?.getD undef = .int .i64 (N : Int) := by simpa [Act.eval] using e8
    have eg : A.eval (.tmp 42) = .bool true := hdL 19 42 (by kernel_rfl) (by kernel_rfl) (by kernel_rfl)
    exact light_val (wanted_of rfl (by kernel_rfl) eg) (v := .int .i64 (N : Int)) (by simp [execOp, e8, f8]) hJ rfl
  case o21 =>
    intro A W hv hlen hJ hbase hdL hdH
    have e43 : A.eval (.tmp 43) = .int .i64 (N : Int) := hdL 20 43 (by kernel_rfl) (by kernel_rfl) (by kernel_rfl)
    have f43 : A.tmps[43]?.getD undef = .int .i64 (N : Int) := by simpa [Act.eval] using e43
    have eg : A.eval (.tmp 42) = .bool true := hdL 19 42 (by kernel_rfl) (by kernel_rfl) (by kernel_rfl)
    exact light_val (wanted_of rfl (by kernel_rfl) eg) (v := .bool ZB) (by simp [execOp, go_sem, e43, f43, hN0.out]) hJ rfl
  case o22 =>
    intro A W hv hlen hJ hbase hdL hdH
    have e4 : A.eval (.tmp 4) = ptr g4 := hbase 4 (by kernel_rfl)
    have f4 : A.tmps[4]?.getD undef = ptr g4 := by simpa [Act.eval] using e4
    have eg : A.eval (.tmp 42) = .bool true := hdL 19 42 (by kernel_rfl) (by kernel_rfl) (by kernel_rfl)
    have hr := run_loadA arr_240 W g4 0 a (bxAll (A0.fr0 hJ.fr)) Ha.out
    exact light_val (wanted_of rfl (by kernel_rfl) eg) (v := pgV a) (by simp [execOp, e4, hr, Result.andThen]) hJ rfl
  case o23 =>
    intro A W hv hlen hJ hbase hdL hdH
    have eg : A.eval (.tmp 42) = .bool true := hdL 19 42 (by kernel_rfl) (by kernel_rfl) (by kernel_rfl)
    have hr := run_build (P := Try.prog) W 22 #[] _ arr_240.built
    rw [HZ.out] at hr
    exact light_val (wanted_of rfl (by kernel_rfl) eg) (v := pgV Z) (by simp [execOp, hr, Result.andThen, pgV]) hJ rfl
  case o24 =>
    intro A W hv hlen hJ hbase hdL hdH
    have e45 : A.eval (.tmp 45) = pgV a := hdL 22 45 (by kernel_rfl) (by kernel_rfl) (by kernel_rfl)
    have f45 : A.tmps[45]?.getD undef = pgV a := by simpa [Act.eval] using e45
    have e46 : A.eval (.tmp 46) = pgV Z := hdL 23 46 (by kernel_rfl) (by kernel_rfl) (by kernel_rfl)
    have f46 : A.tmps[46]?.getD undef = pgV Z := by simpa [Act.eval] using e46
    have eg : A.eval (.tmp 42) = .bool true := hdL 19 42 (by kernel_rfl) (by kernel_rfl) (by kernel_rfl)
    have hr := run_eqlA arr_240 W a Z Ha.out hZl.out
    rw [hZB.out] at hr
    exact light_val (wanted_of rfl (by kernel_rfl) eg) (v := .bool ZB) (by simp [execOp, e45, e46, hr, eqgA arr_240, Result.andThen]) hJ rfl
  case o25 =>
    intro A W hv hlen hJ hbase hdL hdH
    have e44 : A.eval (.tmp 44) = .bool ZB := hdL 21 44 (by kernel_rfl) (by kernel_rfl) (by kernel_rfl)
    have f44 : A.tmps[44]?.getD undef = .bool ZB := by simpa [Act.eval] using e44
    have e47 : A.eval (.tmp 47) = .bool ZB := hdL 24 47 (by kernel_rfl) (by kernel_rfl) (by kernel_rfl)
    have f47 : A.tmps[47]?.getD undef = .bool ZB := by simpa [Act.eval] using e47
    have eg : A.eval (.tmp 42) = .bool true := hdL 19 42 (by kernel_rfl) (by kernel_rfl) (by kernel_rfl)
    exact light_val (wanted_of rfl (by kernel_rfl) eg) (v := .bool true) (by simp [execOp, go_sem, e44, f44, e47, f47]) hJ rfl
  case o26 =>
    intro A W hv hlen hJ hbase hdL hdH
    have e42 : A.eval (.tmp 42) = .bool true := hdL 19 42 (by kernel_rfl) (by kernel_rfl) (by kernel_rfl)
    have f42 : A.tmps[42]?.getD undef = .bool true := by simpa [Act.eval] using e42
    have e48 : A.eval (.tmp 48) = .bool true := hdL 25 48 (by kernel_rfl) (by kernel_rfl) (by kernel_rfl)
    have f48 : A.tmps[48]?.getD undef = .bool true := by simpa [Act.eval] using e48
    exact light_val rfl (v := .bool true) (by simp [execOp, go_sem, e42, f42, e48, f48]) hJ rfl
  case o27 =>
    intro A W hv hlen hJ hbase hdL hdH
    have e49 : A.eval (.tmp 49) = .bool true := hdL 26 49 (by kernel_rfl) (by kernel_rfl) (by kernel_rfl)
    have f49 : A.tmps[49]?.getD undef = .bool true := by simpa [Act.eval] using e49
    exact light_val rfl (v := .bool true) (by simp [execOp, e49, f49]) hJ rfl
  case oe =>
    intro vs W' hv hlen hJ hL hH
    match hv, hlen with
    | [x0, x1], _ =>
      have hx : vs 27 = .bool true := hL 27 (by rfl) (by rfl)
      obtain ⟨_, _, hf'⟩ := hJ
      simp only [layL, Nat.reduceAdd, Act.put, List.setIfInBounds_toArray, List.set_cons_zero, List.set_cons_succ]
      clear hL hH
      generalize vs 0 = y100 at *
      generalize vs 1 = y101 at *
      generalize vs 2 = y102 at *
      generalize vs 3 = y103 at *
      generalize vs 4 = y104 at *
      generalize vs 5 = y105 at *
      generalize vs 6 = y106 at *
      generalize vs 7 = y107 at *
      generalize vs 8 = y108 at *
      generalize vs 9 = y109 at *
      generalize vs 10 = y110 at *
      generalize vs 11 = y111 at *
      generalize vs 12 = y112 at *
      generalize vs 13 = y113 at *
      generalize vs 14 = y114 at *
      generalize vs 15 = y115 at *
      generalize vs 16 = y116 at *
      generalize vs 17 = y117 at *
      generalize vs 18 = y118 at *
      generalize vs 19 = y119 at *
      generalize vs 20 = y120 at *
      generalize vs 21 = y121 at *
      generalize vs 22 = y122 at *
      generalize vs 23 = y123 at *
      generalize vs 24 = y124 at *
      generalize vs 25 = y125 at *
      generalize vs 26 = y126 at *
      generalize vs 27 = y127 at *
      subst hx
      go_wp2
      go_ret
      exact ⟨rfl, (F0.thenN hf').below⟩
set_option maxRecDepth 100000 in
set_option maxHeartbeats 4000000 in
theorem tapart_two (G H : Int) (a b : List Int) (w : World) (hG : G64 G) (hH : G64 H) (hal : a.length = 240) (hab : Byt a) (hbl : b.length = 240) (hbb : Byt b) (hgh : ¬ G = H) :
    Calls Try.prog 7 #[.agg #[.int .u64 G, .int .u64 H], pgV a, pgV b] w fun r w' => r = .returned (.bool true) ∧ Below w.heap.size w w' := by
  have hpq := tly_eq hG hH hal hbl
  have hp1 := show Hid _ from fun W => tpage_any G hG a hal hab W
  have hp2 := show Hid _ from fun W => tpage_any H hH b hbl hbb W
  have hus := show Hid _ from fun W => used_any a hal W
  have hP := tlyP_len G hal
  have hQ := tlyP_len H hbl
  have hN := usedN_le a
  have hNz := usedN_none a
  rw [hal] at hN hNz
  obtain ⟨P, HP⟩ : ∃ P, Hid (tlyP G a = P) := ⟨_, rfl⟩
  obtain ⟨Q, HQ⟩ : ∃ P, Hid (tlyP H b = P) := ⟨_, rfl⟩
  obtain ⟨N, HN⟩ : ∃ P, Hid (usedN a = P) := ⟨_, rfl⟩
  obtain ⟨Z, HZ⟩ : ∃ Z, Hid (zerB 240 = Z) := ⟨_, rfl⟩
  have hZl : Hid (Z.length = 240) := by show _ = _; rw [← HZ.out]; exact zerB_len 240
  simp only [HP.out, HQ.out] at hpq hp1 hp2 hP hQ
  rw [HN.out] at hus hN hNz
  rw [HZ.out] at hNz
  have hPl := show Hid _ from hP
  have hQl := show Hid _ from hQ
  have Ha := show Hid _ from hal
  have Hb := show Hid _ from hbl
  obtain ⟨ZB, hZB⟩ : ∃ B, Hid ((a == Z) = B) := ⟨_, rfl⟩
  have hN0 : Hid (((N : Int) == 0) = ZB) := by
    show _ = _
    rw [← hZB.out, Bool.eq_iff_iff, beq_iff_eq, beq_iff_eq, ← hNz]
    omega
  obtain ⟨S, hS⟩ : ∃ S, Hid ((a == b) = S) := ⟨_, rfl⟩
  have hPQ : Hid ((P == Q) = false) := by show _ = _; rw [hpq]; simp [hgh]
  have hgh1 : (G == H) = false := by simpa using hgh
  clear hgh
  have n0 : (0 : Int) ≤ (N : Int) := by omega
  have n1 : (N : Int) ≤ 240 := by omega
  clear hpq hP hQ hNz hal hbl
  go_enter Try.func7, Try.ntmps7
  go_wp2_with (first
    | (with_reducible refine at_wpP ?_; refine wpList_boxV rfl 41 _ rfl [.int .u64 G, .int .u64 H] rfl ?_; intro g3 w1 hg3 b1 f1 s1; have l1 := b1.lt; have z1 := f1.size)
    | (with_reducible refine at_wpP ?_; have f2x := f2; refine wpList_boxV rfl 22 _ rfl (pgv b) rfl ?_; intro g5 w3 hg5 b3 f3 s3; have l3 := b3.lt; have z3 := f3.size)
    | (with_reducible refine at_wpP ?_; refine wpList_boxV rfl 22 _ rfl (pgv a) rfl ?_; intro g4 w2 hg4 b2 f2 s2; have l2 := b2.lt; have z2 := f2.size)
    | (go_at_call 10; go_must (refine (talive_any _).mono ?_; rintro e w4 ⟨rfl, f4⟩; have z4 := f4.size; have N4 := (((b1.fr0 f2).fr0 f3).fr0 f4); have A4 := ((b2.fr0 f3).fr0 f4); have B4 := (b3.fr0 f4); obtain ⟨q0, _⟩ := N4.cell 0 _ rfl; obtain ⟨q1, _⟩ := N4.cell 1 _ rfl))
    | (with_reducible refine at_wpP ?_; refine at_ld 22 _ rfl ?_; first | refine wpList_loadA arr_240 rfl _ rfl g5 rfl b B4 Hb.out ?_ | refine wpList_loadA arr_240 rfl _ rfl g4 rfl a A4 Ha.out ?_)
    | (with_reducible refine at_wpP ?_; refine at_bin .eql 22 _ _ _ rfl ?_; refine wpList_eqlA arr_240 rfl _ _ _ rfl a b rfl rfl Ha.out Hb.out ?_; rw [hS.out])
    | (go_at_call 17; go_must (refine (hus.out _).mono ?_; rintro e w5 ⟨rfl, f5⟩; have z5 := f5.size)))
  obtain ⟨w0, HW⟩ : ∃ w0, Hid (w5.drew = w0) := ⟨_, rfl⟩
  have f0 : Fr noB w5 w0 := by rw [← HW.out]; exact (Fr.refl _ _).drew
  have N0 := (N4.fr0 f5).fr0 f0
  have A0 := (A4.fr0 f5).fr0 f0
  have B0 := (B4.fr0 f5).fr0 f0
  have F0 : Fr noB w w0 := ((((f1.thenN f2).thenN f3).thenN f4).thenN f5).thenN f0
  refine wp_region_chain_lay (by kernel_rfl) [3, 7] [none, none, none, some 0, none, none, none, some 1, none, none, none, none, none, none, none, none, none, none, none, none, none, none, none, none, none, none, none, none]
    [fun v => v = .pointer (some ⟨g3, 0, none⟩), fun v => v = .int .u64 G, fun v => v = pgV a, fun _ => True, fun v => v = .pointer (some ⟨g3, 1, none⟩), fun v => v = .int .u64 H, fun v => v = pgV b, fun _ => True, fun v => v = .bool false, fun v => v = .bool false, fun v => v = .bool true, fun v => v = .bool true, fun v => v = .int .i64 (N : Int), fun v => v = .bool true, fun v => v = .bool true, fun v => v = .bool true, fun v => v = .int .i64 (N : Int), fun v => v = .bool true, fun v => v = .bool true, fun v => v = .bool true, fun v => v = .int .i64 (N : Int), fun v => v = .bool ZB, fun v => v = pgV a, fun v => v = pgV Z, fun v => v = .bool ZB, fun v => v = .bool true, fun v => v = .bool true, fun v => v = .bool true]
    (JT2 w0 (pgV P) (pgV Q)) (HW.out) (by kernel_rfl) (by kernel_rfl) (by decide) ⟨?o0, ?o1, ?o2, ?o3, ?o4, ?o5, ?o6, ?o7, ?o8, ?o9, ?o10, ?o11, ?o12, ?o13, ?o14, ?o15, ?o16, ?o17, ?o18, ?o19, ?o20, ?o21, ?o22, ?o23, ?o24, ?o25, ?o26, ?o27, trivial⟩ ?oe
  case o0 =>
    intro A W hv hlen hJ hbase hdL hdH
    have e3 : A.eval (.tmp 3) = ptr g3 := hbase 3 (by kernel_rfl)
    have f3 : A.tmps[3]?.getD undef = ptr g3 := by simpa [Act.eval] using e3
    have hr : (Instr.indexAt 41 (ptr g3) (.int .i64 0)).run Try.prog W = .ok (.pointer (some ⟨g3, 0, none⟩)) W := run_idxN W g3 0 (by decide)
    exact light_val rfl (v := .pointer (some ⟨g3, 0, none⟩)) (by simp [execOp, Act.eval, f3, hr, Result.andThen]) hJ rfl
  case o1 =>
    intro A W hv hlen hJ hbase hdL hdH
    have e23 : A.eval (.tmp 23) = .pointer (some ⟨g3, 0, none⟩) := hdL 0 23 (by kernel_rfl) (by kernel_rfl) (by kernel_rfl)
    have f23 : A.tmps[23]?.getD undef = .pointer (some ⟨g3, 0, none⟩) := by simpa [Act.eval] using e23
    have hc := ((N0.fr0 hJ.fr).cell 0 _ rfl).1
    exact light_val rfl (v := .int .u64 G) (by simp [execOp, go_sem, e23, f23, hc]) hJ rfl
  case o2 =>
    intro A W hv hlen hJ hbase hdL hdH
    have e4 : A.eval (.tmp 4) = ptr g4 := hbase 4 (by kernel_rfl)
    have f4 : A.tmps[4]?.getD undef = ptr g4 := by simpa [Act.eval] using e4
    have hr := run_loadA arr_240 W g4 0 a (bxAll (A0.fr0 hJ.fr)) Ha.out
    exact light_val rfl (v := pgV a) (by simp [execOp, e4, hr, Result.andThen]) hJ rfl
  case o3 =>
    intro A W hv hlen hJ hbase hdL hdH
    have e24 : A.eval (.tmp 24) = .int .u64 G := hdL 1 24 (by kernel_rfl) (by kernel_rfl) (by kernel_rfl)
    have f24 : A.tmps[24]?.getD undef = .int .u64 G := by simpa [Act.eval] using e24
    have e25 : A.eval (.tmp 25) = pgV a := hdL 2 25 (by kernel_rfl) (by kernel_rfl) (by kernel_rfl)
    have f25 : A.tmps[25]?.getD undef = pgV a := by simpa [Act.eval] using e25
    obtain rfl : hv = [] := List.eq_nil_of_length_eq_zero hlen
    cases hJ
    refine heavy_call rfl (f := 14) (args := #[.int .u64 G, pgV a]) (by simp [execOp, resolve, invoke, go_sem, e24, f24, e25, f25]) ?_
    refine (hp1.out _).mono ?_
    rintro e w' ⟨rfl, f'⟩
    exact ⟨_, rfl, rfl, f'⟩
  case o4 =>
    intro A W hv hlen hJ hbase hdL hdH
    have e3 : A.eval (.tmp 3) = ptr g3 := hbase 3 (by kernel_rfl)
    have f3 : A.tmps[3]?.getD undef = ptr g3 := by simpa [Act.eval] using e3
    have hr : (Instr.indexAt 41 (ptr g3) (.int .i64 1)).run Try.prog W = .ok (.pointer (some ⟨g3, 1, none⟩)) W := run_idxN W g3 1 (by decide)
    exact light_val rfl (v := .pointer (some ⟨g3, 1, none⟩)) (by simp [execOp, Act.eval, f3, hr, Result.andThen]) hJ rfl
  case o5 =>
    intro A W hv hlen hJ hbase hdL hdH
    have e27 : A.eval (.tmp 27) = .pointer (some ⟨g3, 1, none⟩) := hdL 4 27 (by kernel_rfl) (by kernel_rfl) (by kernel_rfl)
    have f27 : A.tmps[27]?.getD undef = .pointer (some ⟨g3, 1, none⟩) := by simpa [Act.eval] using e27
    have hc := ((N0.fr0 hJ.fr).cell 1 _ rfl).1
    exact light_val rfl (v := .int .u64 H) (by simp [execOp, go_sem, e27, f27, hc]) hJ rfl
  case o6 =>
    intro A W hv hlen hJ hbase hdL hdH
    have e5 : A.eval (.tmp 5) = ptr g5 := hbase 5 (by kernel_rfl)
    have f5 : A.tmps[5]?.getD undef = ptr g5 := by simpa [Act.eval] using e5
    have hr := run_loadA arr_240 W g5 0 b (bxAll (B0.fr0 hJ.fr)) Hb.out
    exact light_val rfl (v := pgV b) (by simp [execOp, e5, hr, Result.andThen]) hJ rfl
  case o7 =>
    intro A W hv hlen hJ hbase hdL hdH
    have e28 : A.eval (.tmp 28) = .int .u64 H := hdL 5 28 (by kernel_rfl) (by kernel_rfl) (by kernel_rfl)
    have f28 : A.tmps[28]?.getD undef = .int .u64 H := by simpa [Act.eval] using e28
    have e29 : A.eval (.tmp 29) = pgV b := hdL 6 29 (by kernel_rfl) (by kernel_rfl) (by kernel_rfl)
    have f29 : A.tmps[29]?.getD undef = pgV b := by simpa [Act.eval] using e29
    match hv, hlen with
    | [v26], _ =>
      obtain ⟨rfl, hf⟩ := hJ
      refine heavy_call rfl (f := 14) (args := #[.int .u64 H, pgV b]) (by simp [execOp, resolve, invoke, go_sem, e28, f28, e29, f29]) ?_
      refine (hp2.out _).mono ?_
      rintro e w' ⟨rfl, f'⟩
      exact ⟨_, rfl, rfl, rfl, hf.thenN f'⟩
  case o8 =>
    intro A W hv hlen hJ hbase hdL hdH
    have e26 := hJ.at0 (hdH 3 26 0 (by kernel_rfl) rfl (by kernel_rfl))
    have e30 := hJ.at1 (hdH 7 30 1 (by kernel_rfl) rfl (by kernel_rfl))
    have hr := run_eqlA arr_page W P Q hPl.out hQl.out
    rw [hPQ.out] at hr
    exact light_val rfl (v := .bool false) (by simp [execOp, e26, e30, hr, eqgA arr_page, Result.andThen]) hJ rfl
  case o9 =>
    intro A W hv hlen hJ hbase hdL hdH
    have e7 : A.eval (.tmp 7) = .bool false := hbase 7 (by kernel_rfl)
    have f7 : A.tmps[7]?.getD undef = .bool false := by simpa [Act.eval] using e7
    exact light_val rfl (v := .bool false) (by simp [execOp, e7, f7]) hJ rfl
  case o10 =>
    intro A W hv hlen hJ hbase hdL hdH
    have e31 : A.eval (.tmp 31) = .bool false := hdL 8 31 (by kernel_rfl) (by kernel_rfl) (by kernel_rfl)
    have f31 : A.tmps[31]?.getD undef = .bool false := by simpa [Act.eval] using e31
    have e32 : A.eval (.tmp 32) = .bool false := hdL 9 32 (by kernel_rfl) (by kernel_rfl) (by kernel_rfl)
    have f32 : A.tmps[32]?.getD undef = .bool false := by simpa [Act.eval] using e32
    exact light_val rfl (v := .bool true) (by simp [execOp, go_sem, e31, f31, e32, f32]) hJ rfl
  case o11 =>
    intro A W hv hlen hJ hbase hdL hdH
    have e33 : A.eval (.tmp 33) = .bool true := hdL 10 33 (by kernel_rfl) (by kernel_rfl) (by kernel_rfl)
    have f33 : A.tmps[33]?.getD undef = .bool true := by simpa [Act.eval] using e33
    exact light_val rfl (v := .bool true) (by simp [execOp, e33, f33]) hJ rfl
  case o12 =>
    intro A W hv hlen hJ hbase hdL hdH
    have e8 : A.eval (.tmp 8) = .int .i64 (N : Int) := hbase 8 (by kernel_rfl)
    have f8 : A.tmps[8]?.getD undef = .int .i64 (N : Int) := by simpa [Act.eval] using e8
    have eg : A.eval (.tmp 34) = .bool true := hdL 11 34 (by kernel_rfl) (by kernel_rfl) (by kernel_rfl)
    exact light_val (wanted_of rfl (by kernel_rfl) eg) (v := .int .i64 (N : Int)) (by simp [execOp, e8, f8]) hJ rfl
  case o13 =>
    intro A W hv hlen hJ hbase hdL hdH
    have e35 : A.eval (.tmp 35) = .int .i64 (N : Int) := hdL 12 35 (by kernel_rfl) (by kernel_rfl) (by kernel_rfl)
    have f35 : A.tmps[35]?.getD undef = .int .i64 (N : Int) := by simpa [Act.eval] using e35
    have eg : A.eval (.tmp 34) = .bool true := hdL 11 34 (by kernel_rfl) (by kernel_rfl) (by kernel_rfl)
    exact light_val (wanted_of rfl (by kernel_rfl) eg) (v := .bool true) (by simp [execOp, go_sem, e35, f35, n0]) hJ rfl
  case o14 =>
    intro A W hv hlen hJ hbase hdL hdH
    have e34 : A.eval (.tmp 34) = .bool true := hdL 11 34 (by kernel_rfl) (by kernel_rfl) (by kernel_rfl)
    have f34 : A.tmps[34]?.getD undef = .bool true := by simpa [Act.eval] using e34
    have e36 : A.eval (.tmp 36) = .bool true := hdL 13 36 (by kernel_rfl) (by kernel_rfl) (by kernel_rfl)
    have f36 : A.tmps[36]?.getD undef = .bool true := by simpa [Act.eval] using e36
    exact light_val rfl (v := .bool true) (by simp [execOp, go_sem, e34, f34, e36, f36]) hJ rfl
  case o15 =>
    intro A W hv hlen hJ hbase hdL hdH
    have e37 : A.eval (.tmp 37) = .bool true := hdL 14 37 (by kernel_rfl) (by kernel_rfl) (by kernel_rfl)
    have f37 : A.tmps[37]?.getD undef = .bool true := by simpa [Act.eval] using e37
    exact light_val rfl (v := .bool true) (by simp [execOp, e37, f37]) hJ rfl
  case o16 =>
    intro A W hv hlen hJ hbase hdL hdH
    have e8 : A.eval (.tmp 8) = .int .i64 (N : Int) := hbase 8 (by kernel_rfl)
    have f8 : A.tmps[8]?.getD undef = .int .i64 (N : Int) := by simpa [Act.eval] using e8
    have eg : A.eval (.tmp 38) = .bool true := hdL 15 38 (by kernel_rfl) (by kernel_rfl) (by kernel_rfl)
    exact light_val (wanted_of rfl (by kernel_rfl) eg) (v := .int .i64 (N : Int)) (by simp [execOp, e8, f8]) hJ rfl
  case o17 =>
    intro A W hv hlen hJ hbase hdL hdH
    have e39 : A.eval (.tmp 39) = .int .i64 (N : Int) := hdL 16 39 (by kernel_rfl) (by kernel_rfl) (by kernel_rfl)
    have f39 : A.tmps[39]?.getD undef = .int .i64 (N : Int) := by simpa [Act.eval] using e39
    have eg : A.eval (.tmp 38) = .bool true := hdL 15 38 (by kernel_rfl) (by kernel_rfl) (by kernel_rfl)
    exact light_val (wanted_of rfl (by kernel_rfl) eg) (v := .bool true) (by simp [execOp, go_sem, e39, f39, n1]) hJ rfl
  case o18 =>
    intro A W hv hlen hJ hbase hdL hdH
    have e38 : A.eval (.tmp 38) = .bool true := hdL 15 38 (by kernel_rfl) (by kernel_rfl) (by kernel_rfl)
    have f38 : A.tmps[38]?.getD undef = .bool true := by simpa [Act.eval] using e38
    have e40 : A.eval (.tmp 40) = .bool true := hdL 17 40 (by kernel_rfl) (by kernel_rfl) (by kernel_rfl)
    have f40 : A.tmps[40]?.getD undef = .bool true := by simpa [Act.eval] using e40
    exact light_val rfl (v := .bool true) (by simp [execOp, go_sem, e38, f38, e40, f40]) hJ rfl
  case o19 =>
    intro A W hv hlen hJ hbase hdL hdH
    have e41 : A.eval (.tmp 41) = .bool true := hdL 18 41 (by kernel_rfl) (by kernel_rfl) (by kernel_rfl)
    have f41 : A.tmps[41]?.getD undef = .bool true := by simpa [Act.eval] using e41
    exact light_val rfl (v := .bool true) (by simp [execOp, e41, f41]) hJ rfl
  case o20 =>
    intro A W hv hlen hJ hbase hdL hdH
    have e8 : A.eval (.tmp 8) = .int .i64 (N : Int) := hbase 8 (by kernel_rfl)
    have f8 : A.tmps[8]?.getD undef = .int .i64 (N : Int) := by simpa [Act.eval] using e8
    have eg : A.eval (.tmp 42) = .bool true := hdL 19 42 (by kernel_rfl) (by kernel_rfl) (by kernel_rfl)
    exact light_val (wanted_of rfl (by kernel_rfl) eg) (v := .int .i64 (N : Int)) (by simp [execOp, e8, f8]) hJ rfl
  case o21 =>
    intro A W hv hlen hJ hbase hdL hdH
    have e43 : A.eval (.tmp 43) = .int .i64 (N : Int) := hdL 20 43 (by kernel_rfl) (by kernel_rfl) (by kernel_rfl)
    have f43 : A.tmps[43]?.getD undef = .int .i64 (N : Int) := by simpa [Act.eval] using e43
    have eg : A.eval (.tmp 42) = .bool true := hdL 19 42 (by kernel_rfl) (by kernel_rfl) (by kernel_rfl)
    exact light_val (wanted_of rfl (by kernel_rfl) eg) (v := .bool ZB) (by simp [execOp, go_sem, e43, f43, hN0.out]) hJ rfl
  case o22 =>
    intro A W hv hlen hJ hbase hdL hdH
    have e4 : A.eval (.tmp 4) = ptr g4 := hbase 4 (by kernel_rfl)
    have f4 : A.tmps[4]?.getD undef = ptr g4 := by simpa [Act.eval] using e4
    have eg : A.eval (.tmp 42) = .bool true := hdL 19 42 (by kernel_rfl) (by kernel_rfl) (by kernel_rfl)
    have hr := run_loadA arr_240 W g4 0 a (bxAll (A0.fr0 hJ.fr)) Ha.out
    exact light_val (wanted_of rfl (by kernel_rfl) eg) (v := pgV a) (by simp [execOp, e4, hr, Result.andThen]) hJ rfl
  case o23 =>
    intro A W hv hlen hJ hbase hdL hdH
    have eg : A.eval (.tmp 42) = .bool true := hdL 19 42 (by kernel_rfl) (by kernel_rfl) (by kernel_rfl)
    have hr := run_build (P := Try.prog) W 22 #[] _ arr_240.built
    rw [HZ.out] at hr
    exact light_val (wanted_of rfl (by kernel_rfl) eg) (v := pgV Z) (by simp [execOp, hr, Result.andThen, pgV]) hJ rfl
  case o24 =>
    intro A W hv hlen hJ hbase hdL hdH
    have e45 : A.eval (.tmp 45) = pgV a := hdL 22 45 (by kernel_rfl) (by kernel_rfl) (by kernel_rfl)
    have f45 : A.tmps[45]?.getD undef = pgV a := by simpa [Act.eval] using e45
    have e46 : A.eval (.tmp 46) = pgV Z := hdL 23 46 (by kernel_rfl) (by kernel_rfl) (by kernel_rfl)
    have f46 : A.tmps[46]?.getD undef = pgV Z := by simpa [Act.eval] using e46
    have eg : A.eval (.tmp 42) = .bool true := hdL 19 42 (by kernel_rfl) (by kernel_rfl) (by kernel_rfl)
    have hr := run_eqlA arr_240 W a Z Ha.out hZl.out
    rw [hZB.out] at hr
    exact light_val (wanted_of rfl (by kernel_rfl) eg) (v := .bool ZB) (by simp [execOp, e45, e46, hr, eqgA arr_240, Result.andThen]) hJ rfl
  case o25 =>
    intro A W hv hlen hJ hbase hdL hdH
    have e44 : A.eval (.tmp 44) = .bool ZB := hdL 21 44 (by kernel_rfl) (by kernel_rfl) (by kernel_rfl)
    have f44 : A.tmps[44]?.getD undef = .bool ZB := by simpa [Act.eval] using e44
    have e47 : A.eval (.tmp 47) = .bool ZB := hdL 24 47 (by kernel_rfl) (by kernel_rfl) (by kernel_rfl)
    have f47 : A.tmps[47]?.getD undef = .bool ZB := by simpa [Act.eval] using e47
    have eg : A.eval (.tmp 42) = .bool true := hdL 19 42 (by kernel_rfl) (by kernel_rfl) (by kernel_rfl)
    exact light_val (wanted_of rfl (by kernel_rfl) eg) (v := .bool true) (by simp [execOp, go_sem, e44, f44, e47, f47]) hJ rfl
  case o26 =>
    intro A W hv hlen hJ hbase hdL hdH
    have e42 : A.eval (.tmp 42) = .bool true := hdL 19 42 (by kernel_rfl) (by kernel_rfl) (by kernel_rfl)
    have f42 : A.tmps[42]?.getD undef = .bool true := by simpa [Act.eval] using e42
    have e48 : A.eval (.tmp 48) = .bool true := hdL 25 48 (by kernel_rfl) (by kernel_rfl) (by kernel_rfl)
    have f48 : A.tmps[48]?.getD undef = .bool true := by simpa [Act.eval] using e48
    exact light_val rfl (v := .bool true) (by simp [execOp, go_sem, e42, f42, e48, f48]) hJ rfl
  case o27 =>
    intro A W hv hlen hJ hbase hdL hdH
    have e49 : A.eval (.tmp 49) = .bool true := hdL 26 49 (by kernel_rfl) (by kernel_rfl) (by kernel_rfl)
    have f49 : A.tmps[49]?.getD undef = .bool true := by simpa [Act.eval] using e49
    exact light_val rfl (v := .bool true) (by simp [execOp, e49, f49]) hJ rfl
  case oe =>
    intro vs W' hv hlen hJ hL hH
    match hv, hlen with
    | [x0, x1], _ =>
      have hx : vs 27 = .bool true := hL 27 (by rfl) (by rfl)
      obtain ⟨_, _, hf'⟩ := hJ
      simp only [layL, Nat.reduceAdd, Act.put, List.setIfInBounds_toArray, List.set_cons_zero, List.set_cons_succ]
      clear hL hH
      generalize vs 0 = y100 at *
      generalize vs 1 = y101 at *
      generalize vs 2 = y102 at *
      generalize vs 3 = y103 at *
      generalize vs 4 = y104 at *
      generalize vs 5 = y105 at *
      generalize vs 6 = y106 at *
      generalize vs 7 = y107 at *
      generalize vs 8 = y108 at *
      generalize vs 9 = y109 at *
      generalize vs 10 = y110 at *
      generalize vs 11 = y111 at *
      generalize vs 12 = y112 at *
      generalize vs 13 = y113 at *
      generalize vs 14 = y114 at *
      generalize vs 15 = y115 at *
      generalize vs 16 = y116 at *
      generalize vs 17 = y117 at *
      generalize vs 18 = y118 at *
      generalize vs 19 = y119 at *
      generalize vs 20 = y120 at *
      generalize vs 21 = y121 at *
      generalize vs 22 = y122 at *
      generalize vs 23 = y123 at *
      generalize vs 24 = y124 at *
      generalize vs 25 = y125 at *
      generalize vs 26 = y126 at *
      generalize vs 27 = y127 at *
      subst hx
      go_wp2
      go_ret
      exact ⟨rfl, (F0.thenN hf').below⟩
theorem tapart_walk (vg : Value) (m : Int × Int) (va : Value) (a : List Int) (vb : Value) (b : List Int) (w : World) (hg : IsTwo vg m) (ha : IsArr va 240 a) (hb : IsArr vb 240 b) :
    Calls Try.prog 7 #[vg, va, vb] w fun r w' => r = .returned (.bool true) ∧ Below w.heap.size w w' := by
  obtain ⟨rfl, h1, h2⟩ := hg
  obtain ⟨rfl, ha1, ha2⟩ := ha
  obtain ⟨rfl, hb1, hb2⟩ := hb
  by_cases e : m.1 = m.2
  · exact tapart_one _ _ a b w h1 h2 ha1 ha2 hb1 hb2 e
  · exact tapart_two _ _ a b w h1 h2 ha1 ha2 hb1 hb2 e
end Go.Proofs.Ytdfffbbdeaefeaa
