/- Texts T5, T8, T6, T9, OpenC, OpenT of the proof of TallyPages, one behind the other. -/
import Derived.Deep.Matrix
import Derived.Test.YtdfffbbdeaefeaaBundleTallyPages1
import Derived.Test.YtdfffbbdeaefeaaBundleTallyPages2
import Derived.Test.YtdfffbbdeaefeaaBundleTallyPages3
import Derived.Test.YtdfffbbdeaefeaaBundleTallyPages4
import Derived.Test.YtdfffbbdeaefeaaBundleTallyPages5
import Derived.Test.YtdfffbbdeaefeaaBundleTallyPages6
import Derived.Test.YtdfffbbdeaefeaaBundleTallyPages7
import Derived.Test.YtdfffbbdeaefeaaBundleTallyPages8
import Derived.Test.YtdfffbbdeaefeaaBundleTallyPages9
import Derived.Test.YtdfffbbdeaefeaaBundleTallyPages10
/- Open of package tally. (Written by t4_gen.py.) -/
namespace Go.Proofs.Ytdfffbbdeaefeaa
open Go.RowKit Go.Proofs.U
set_option linter.unusedSimpArgs false
set_option linter.unusedVariables false
/-- While a page that is made is held against another one. -/
def JTE (w0 : World) (R : List Int) (b : Value) : List Value → World → Prop
  | [], W => W = w0
  | [v], W => v = pgV R ∧ Fr noB w0 W
  | [_, v], W => v = b ∧ Fr noB w0 W
  | _, _ => False
theorem JTE.fr {w0 : World} {R : List Int} {b : Value} {hv : List Value} {W : World} (h : JTE w0 R b hv W) : Fr noB w0 W := by
  match hv, h with
  | [], h => cases h; exact Fr.refl _ _
  | [_], h => exact h.2
  | [_, _], h => exact h.2

set_option maxRecDepth 100000 in
set_option maxHeartbeats 2000000 in
theorem topen_any (p : List Int) (hp : p.length = 256) (hb : Byt p) (G : Int) (hG : G64 G) (w : World) :
    Calls Try.prog 12 #[pgV p, .int .u64 G] w fun e w' => e = .returned (.tuple #[pgV (opT p G).1, .int .i64 (opT p G).2]) ∧ Fr noB w w' := by
  have Hp := show Hid _ from hp
  unfold opT
  obtain ⟨Z, HZ⟩ : ∃ Z, Hid (zerB 240 = Z) := ⟨_, rfl⟩
  have hZl : Hid (Z.length = 240) := by show _ = _; rw [← HZ.out]; exact zerB_len 240
  obtain ⟨K, HK⟩ : ∃ K, Hid (cntOf p = K) := ⟨_, rfl⟩
  have hKl : Hid (K.length = 240) := by show _ = _; rw [← HK.out, cntOf_len hp]
  have hKb : Byt K := by rw [← HK.out]; exact cntOf_byt hb
  obtain ⟨R, HR⟩ : ∃ R, Hid (tlyP G K = R) := ⟨_, rfl⟩
  have hRl : Hid (R.length = 256) := by show _ = _; rw [← HR.out, tlyP_len G hKl.out]
  have hcut : Hid (putI Z 0 (((p.drop 8).take 248).take 240) = K) := by
    have e : ((p.drop 8).take 248).take 240 = K := by rw [← HK.out, List.take_take]; rfl
    show _ = _
    rw [e]
    unfold putI
    rw [List.take_zero, List.nil_append, List.drop_of_length_le (by rw [hZl.out, hKl.out]; decide), List.append_nil]
  rw [HK.out, HR.out, HZ.out]
  obtain ⟨B, HB⟩ : ∃ B, Hid ((p == R) = B) := ⟨_, rfl⟩
  rw [HB.out]
  clear hp
  go_enter Try.func12, Try.ntmps12
  go_wp2_with (first
    | (with_reducible refine at_wpP ?_; refine wpList_boxV rfl 33 _ rfl (pgv p) rfl ?_; intro g2 w1 hg2 b1 f1 s1)
    | (with_reducible refine at_wpP ?_; have f2x := f2; refine wpList_allocA arr_counts rfl rfl ?_; rw [HZ.out]; intro g6 w3 hg6 b3 f3 s3)
    | (with_reducible refine at_wpP ?_; refine wpList_allocA arr_counts rfl rfl ?_; rw [HZ.out]; intro g4 w2 hg4 b2 f2 s2))
  have z1 := f1.size
  have z2 := f2.size
  have z3 := f3.size
  have l1 := b1.lt
  have l2 := b2.lt
  have l3 := b3.lt
  obtain ⟨w0, HW⟩ : ∃ w0, Hid (w3.drew = w0) := ⟨_, rfl⟩
  have f0 : Fr noB w3 w0 := by rw [← HW.out]; exact (Fr.refl _ _).drew
  have z0 := f0.size
  have B2 := ((b1.fr0 f2).fr0 f3).fr0 f0
  have B4 := (b2.fr0 f3).fr0 f0
  have B6 := b3.fr0 f0
  have F0 : Fr noB w w0 := ((f1.thenN f2).thenN f3).thenN f0
  have j0 : SlI .u8 w0 (.slice (some ⟨g2, 8, none⟩) 248 248) ((p.drop 8).take 248) := BxV.slI B2 hb 8 248 248 (by rw [Hp.out]; decide) (by decide)
  refine wp_region_chain_lay (by kernel_rfl) [2] [none, none, some 0]
    [fun v => v = .slice (some ⟨g6, 0, none⟩) 240 240, fun v => v = .slice (some ⟨g2, 8, none⟩) 248 248, fun _ => True]
    (JB w0 g6 23 K) (HW.out) (by kernel_rfl) (by kernel_rfl) (by decide) ⟨?o0, ?o1, ?o2, trivial⟩ ?oe
  case o0 =>
    intro A W hv hlen hJ hbase hdL hdH
    have e6 : A.eval (.tmp 6) = .pointer (some ⟨g6, 0, none⟩) := hbase 6 (by kernel_rfl)
    have f6 : A.tmps[6]?.getD undef = .pointer (some ⟨g6, 0, none⟩) := by simpa [Act.eval] using e6
    have hr := run_allA arr_counts (by decide) W g6
    exact light_val rfl (v := .slice (some ⟨g6, 0, none⟩) 240 240) (by simp [execOp, e6, hr, Result.andThen]) hJ rfl
  case o1 =>
    intro A W hv hlen hJ hbase hdL hdH
    have e2 : A.eval (.tmp 2) = .pointer (some ⟨g2, 0, none⟩) := hbase 2 (by kernel_rfl)
    have f2 : A.tmps[2]?.getD undef = .pointer (some ⟨g2, 0, none⟩) := by simpa [Act.eval] using e2
    have hr := run_fromA arr_page W g2 8 (by decide) 8 rfl
    have ek : A.eval (.const (.int .i64 8)) = .int .i64 8 := rfl
    exact light_val rfl (v := .slice (some ⟨g2, 8, none⟩) 248 248) (by simp [execOp, e2, ek, hr, Result.andThen]) hJ rfl
  case o2 =>
    intro A W hv hlen hJ hbase hdL hdH
    have e7 : A.eval (.tmp 7) = .slice (some ⟨g6, 0, none⟩) 240 240 := hdL 0 7 (by kernel_rfl) (by kernel_rfl) (by kernel_rfl)
    have f7 : A.tmps[7]?.getD undef = .slice (some ⟨g6, 0, none⟩) 240 240 := by simpa [Act.eval] using e7
    have e8 : A.eval (.tmp 8) = .slice (some ⟨g2, 8, none⟩) 248 248 := hdL 1 8 (by kernel_rfl) (by kernel_rfl) (by kernel_rfl)
    have f8 : A.tmps[8]?.getD undef = .slice (some ⟨g2, 8, none⟩) 248 248 := by simpa [Act.eval] using e8
    obtain rfl : hv = [] := List.eq_nil_of_length_eq_zero hlen
    cases hJ
    obtain ⟨W1, hr, h1, h2⟩ := run_cpyB (t := 23) B6 0 240 240 (by rw [hZl.out]; decide) 3 _ _ j0 _ rfl
    rw [hcut.out] at h1
    refine heavy_wp rfl ?_
    refine Lib.wp_copy_run _ (.tmp 7) (.tmp 8) 53 53 rfl _ _ e7 e8 hr ?_
    exact ⟨_, rfl, h1, h2⟩
  case oe =>
    intro vs W' hv hlen hJ hL hH
    match hv, hlen with
    | [x0], _ =>
      obtain ⟨D6, hf'⟩ := hJ
      simp only [layL, Nat.reduceAdd, Act.put, List.setIfInBounds_toArray, List.set_cons_zero, List.set_cons_succ]
      clear hL hH
      generalize vs 0 = y100 at *
      generalize vs 1 = y101 at *
      generalize vs 2 = y102 at *
      have D2 := B2.ne hf' (by omega)
      have D4 := B4.ne hf' (by omega)
      have FD : Fr noB w W' := F0.thenT hf' (fun i hi q => by unfold onB1 at q; omega)
      go_wp2
      obtain ⟨w1', HW1⟩ : ∃ w0, Hid (W'.drew = w0) := ⟨_, rfl⟩
      have g0 : Fr noB W' w1' := by rw [← HW1.out]; exact (Fr.refl _ _).drew
      have C2 := D2.fr0 g0
      have C4 := D4.fr0 g0
      have C6 := D6.fr0 g0
      have FC : Fr noB w w1' := FD.thenN g0
      refine wp_region_chain_lay (by kernel_rfl) [3, 4] [none, none, none, some 0, some 1]
        [fun v => v = pgV p, fun v => v = .int .u64 G, fun v => v = pgV K, fun _ => True, fun _ => True]
        (JTE w1' R (.bool (!B))) (HW1.out) (by kernel_rfl) (by kernel_rfl) (by decide) ⟨?o0, ?o1, ?o2, ?o3, ?o4, trivial⟩ ?oe
      case o0 =>
        intro A W hv hlen hJ hbase hdL hdH
        have e2 : A.eval (.tmp 2) = .pointer (some ⟨g2, 0, none⟩) := hbase 2 (by kernel_rfl)
        have f2 : A.tmps[2]?.getD undef = .pointer (some ⟨g2, 0, none⟩) := by simpa [Act.eval] using e2
        have hr := run_loadA arr_page W g2 0 p (bxAll (C2.fr0 (JTE.fr hJ))) Hp.out
        exact light_val rfl (v := pgV p) (by simp [execOp, e2, hr, Result.andThen]) hJ rfl
      case o1 =>
        intro A W hv hlen hJ hbase hdL hdH
        have e1 : A.eval (.tmp 1) = .int .u64 G := hbase 1 (by kernel_rfl)
        have f1 : A.tmps[1]?.getD undef = .int .u64 G := by simpa [Act.eval] using e1
        exact light_val rfl (v := .int .u64 G) (by simp [execOp, e1, f1]) hJ rfl
      case o2 =>
        intro A W hv hlen hJ hbase hdL hdH
        have e6 : A.eval (.tmp 6) = .pointer (some ⟨g6, 0, none⟩) := hbase 6 (by kernel_rfl)
        have f6 : A.tmps[6]?.getD undef = .pointer (some ⟨g6, 0, none⟩) := by simpa [Act.eval] using e6
        have hr := run_loadA arr_counts W g6 0 K (bxAll (C6.fr0 (JTE.fr hJ))) hKl.out
        exact light_val rfl (v := pgV K) (by simp [execOp, e6, hr, Result.andThen]) hJ rfl
      case o3 =>
        intro A W hv hlen hJ hbase hdL hdH
        have e11 : A.eval (.tmp 11) = .int .u64 G := hdL 1 11 (by kernel_rfl) (by kernel_rfl) (by kernel_rfl)
        have f11 : A.tmps[11]?.getD undef = .int .u64 G := by simpa [Act.eval] using e11
        have e12 : A.eval (.tmp 12) = pgV K := hdL 2 12 (by kernel_rfl) (by kernel_rfl) (by kernel_rfl)
        have f12 : A.tmps[12]?.getD undef = pgV K := by simpa [Act.eval] using e12
        obtain rfl : hv = [] := List.eq_nil_of_length_eq_zero hlen
        cases hJ
        refine heavy_call rfl (f := 14) (args := #[.int .u64 G, pgV K]) (by simp [execOp, resolve, invoke, go_sem, e11, f11, e12, f12]) ?_
        refine (tpage_any G hG K hKl.out hKb _).mono ?_
        rw [HR.out]
        rintro e w' ⟨rfl, f'⟩
        exact ⟨_, rfl, rfl, f'⟩
      case o4 =>
        intro A W hv hlen hJ hbase hdL hdH
        have e10 : A.eval (.tmp 10) = pgV p := hdL 0 10 (by kernel_rfl) (by kernel_rfl) (by kernel_rfl)
        have f10 : A.tmps[10]?.getD undef = pgV p := by simpa [Act.eval] using e10
        match hv, hlen with
        | [v13], _ =>
          obtain ⟨rfl, hf⟩ := hJ
          have e13 : A.eval (.tmp 13) = pgV R := by have := hdH 3 13 0 (by kernel_rfl) rfl (by kernel_rfl); simpa using this.symm
          have hr := run_neqA arr_page W p R Hp.out hRl.out
          rw [HB.out] at hr
          exact heavy_val rfl (v := .bool (!B)) (w' := W) (by simp [execOp, e10, e13, hr, eqgAn arr_page, Result.andThen]) ⟨rfl, hf⟩
      case oe =>
        intro vs W2 hv hlen hJ hL hH
        match hv, hlen with
        | [x0, x1], _ =>
          have hx := hH 1 4 rfl (by rfl)
          obtain ⟨rfl, hf2⟩ := hJ
          simp only [List.getElem?_cons_succ, List.getElem?_cons_zero, Option.some.injEq] at hx
          simp only [layL, Nat.reduceAdd, Act.put, List.setIfInBounds_toArray, List.set_cons_zero, List.set_cons_succ]
          clear hL hH
          generalize vs 0 = y200 at *
          generalize vs 1 = y201 at *
          generalize vs 2 = y202 at *
          generalize vs 3 = y203 at *
          generalize vs 4 = y204 at *
          subst hx
          have E4 := C4.fr0 hf2
          have E6 := C6.fr0 hf2
          have FE : Fr noB w W2 := FC.thenN hf2
          have l4 := C4.lt
          cases B with
          | true =>
            go_wp2_with (first
              | (with_reducible refine at_wpP ?_; refine at_ld 23 _ rfl ?_; go_must (refine wpList_loadA arr_counts rfl _ rfl g6 rfl K E6 hKl.out ?_))
              | (with_reducible refine at_wpP ?_; refine at_st 23 _ _ rfl ?_; go_must (refine wpList_storeA arr_counts rfl _ _ rfl g4 rfl K rfl _ E4 hKl.out hZl.out ?_; intro w9 b9 f9)))
            refine bodyPost_ret (results_arr2 arr_counts Try.results12 _ w9 g4 K rfl b9 hKl.out) rfl ⟨rfl, ?_⟩
            exact FE.thenT f9 (fun i hi q => by unfold onB1 at q; omega)
          | false =>
            go_wp2_with (first
              | (with_reducible refine at_wpP ?_; refine wpList_buildA arr_counts rfl rfl ?_; rw [HZ.out])
              | (with_reducible refine at_wpP ?_; refine at_st 23 _ _ rfl ?_; go_must (refine wpList_storeA arr_counts rfl _ _ rfl g4 rfl Z rfl _ E4 hZl.out hZl.out ?_; intro w9 b9 f9)))
            refine bodyPost_ret (results_arr2 arr_counts Try.results12 _ w9 g4 Z rfl b9 hZl.out) rfl ⟨rfl, ?_⟩
            exact FE.thenT f9 (fun i hi q => by unfold onB1 at q; omega)
end Go.Proofs.Ytdfffbbdeaefeaa
/- The document's counts of a page: Open. (Written by t7_gen.py.) -/
namespace Go.Proofs.Ytdfffbbdeaefeaa
open Go.RowKit Go.Proofs.U
set_option linter.unusedSimpArgs false
set_option linter.unusedVariables false

set_option maxRecDepth 100000 in
set_option maxHeartbeats 2000000 in
theorem dopen_any (p : List Int) (hp : p.length = 256) (hb : Byt p) (G : Int) (hG : G64 G) (w : World) :
    Calls Try.prog 13 #[pgV p, .int .u64 G] w fun e w' => e = .returned (.tuple #[pgV (opT p G).1, .int .i64 (opT p G).2]) ∧ Fr noB w w' := by
  have Hp := show Hid _ from hp
  unfold opT
  obtain ⟨Z, HZ⟩ : ∃ Z, Hid (zerB 240 = Z) := ⟨_, rfl⟩
  have hZl : Hid (Z.length = 240) := by show _ = _; rw [← HZ.out]; exact zerB_len 240
  obtain ⟨K, HK⟩ : ∃ K, Hid (cntOf p = K) := ⟨_, rfl⟩
  have hKl : Hid (K.length = 240) := by show _ = _; rw [← HK.out, cntOf_len hp]
  have hKb : Byt K := by rw [← HK.out]; exact cntOf_byt hb
  have hKat : Hid (∀ k, k < 240 → K.getD k 0 = p.getD (8 + k) 0) := by
    show ∀ _, _
    intro k hk
    rw [← HK.out]
    exact drop_take_get _ _ _ _ hk
  obtain ⟨R, HR⟩ : ∃ R, Hid (tlyP G K = R) := ⟨_, rfl⟩
  have hRl : Hid (R.length = 256) := by show _ = _; rw [← HR.out, tlyP_len G hKl.out]
  have hend : Hid (laid 240 K 240 = K) := by
    show _ = _
    unfold laid
    rw [List.take_of_length_le (by rw [hKl.out]; decide)]; simp [zerB]
  rw [HK.out, HR.out, HZ.out]
  obtain ⟨B, HB⟩ : ∃ B, Hid ((R == p) = B) := ⟨_, rfl⟩
  rw [show (p == R) = (R == p) from Bool.beq_comm, HB.out]
  clear hp
  go_enter Try.func13, Try.ntmps13
  go_wp2_with (first
    | (with_reducible refine at_wpP ?_; refine wpList_boxV rfl 33 _ rfl (pgv p) rfl ?_; intro g2 w1 hg2 b1 f1 s1)
    | (with_reducible refine at_wpP ?_; refine wpList_buildA arr_240 rfl rfl ?_; rw [HZ.out])
    | (with_reducible refine at_wpP ?_; have f2x := f2; refine wpList_allocA arr_240 rfl rfl ?_; rw [HZ.out]; intro g6 w3 hg6 b3 f3 s3)
    | (with_reducible refine at_wpP ?_; refine wpList_allocA arr_240 rfl rfl ?_; rw [HZ.out]; intro g4 w2 hg4 b2 f2 s2)
    | (with_reducible refine at_wpP ?_; refine at_st 22 _ _ rfl ?_; go_must (refine wpList_storeA arr_240 rfl _ _ rfl g6 rfl Z rfl _ b3 hZl.out hZl.out ?_; intro w4 b4 f4)))
  have z1 := f1.size
  have z2 := f2.size
  have z3 := f3.size
  have l1 := b1.lt
  have l2 := b2.lt
  have l3 := b3.lt
  have B2 := ((b1.fr0 f2).fr0 f3).ne f4 (by omega)
  have B4 := (b2.fr0 f3).ne f4 (by omega)
  have F4 : Fr noB w w4 := ((f1.thenN f2).thenN f3).thenT f4 (fun i hi q => by unfold onB1 at q; omega)
  have g26 : g2 ≠ g6 := by omega
  have g46 : g4 ≠ g6 := by omega
  clear b1 b2 b3
  go_loopw [9] (fun i wr => ∃ (k : Nat) (l : List Int), k ≤ 240 ∧ i = .int .i64 (k : Int) ∧ Hid (l = laid 240 K k) ∧ BxV wr g6 22 (pgv l) ∧ BxV wr g4 22 (pgv Z) ∧ BxV wr g2 33 (pgv p) ∧ Fr noB w wr) (fun i _ => 240 - (intOf i).toNat)
  case atStart => exact ⟨0, Z, by omega, rfl, show _ = _ by rw [← HZ.out, laid_zero], b4, B4, B2, F4⟩
  case round =>
    obtain ⟨k, l, hk, rfl, hl, hB, hC, hD, hf⟩ := hrel
    have hll : Hid (l.length = 240) := by show _ = _; rw [hl.out, laid_len _ _ _ (by rw [hKl.out]; exact hk) hk]
    by_cases hlt : k < 240
    · have hlt' : (k : Int) < 240 := by omega
      have hs := show Hid _ from laid_set 240 K k (by rw [hKl.out]; exact hlt) hlt
      obtain ⟨y, Hy⟩ : ∃ y, Hid (p.getD (8 + k) 0 = y) := ⟨_, rfl⟩
      rw [← hl.out, hKat.out k hlt, Hy.out] at hs
      have hcl := (hD.cell (8 + k) (.int .u8 y) (by rw [pgv_get p (8 + k) (by rw [Hp.out]; omega), ← Hy.out]; simp [List.getD, show 8 + k < p.length by rw [Hp.out]; omega])).1
      have d1 : (0 : Int) ≤ (k : Int) := by omega
      have wk : IntKind.i64.wrap (8 + (k : Int)) = 8 + (k : Int) := by rw [IntKind.wrap_i64]; omega
      have hz : 8 + (k : Int) = ((8 + k : Nat) : Int) := by omega
      replace hz := show Hid _ from hz
      go_wp2_with (first
        | (with_reducible refine at_wpP ?_; refine at_idxA 33 _ _ rfl ?_; go_must (refine wpList_idxAt arr_page rfl _ _ rfl g2 rfl .i64 (8 + (k : Int)) (8 + k) rfl hz.out (by omega) ?_))
        | (with_reducible refine at_wpP ?_; refine at_idxA 22 _ _ rfl ?_; go_must (refine wpList_idxAt arr_240 rfl _ _ rfl g6 rfl .i64 (k : Int) k rfl rfl hlt ?_))
        | (with_reducible refine at_wpP ?_; refine at_st 5 _ _ rfl ?_; go_must (refine wpList_store1 rfl 5 _ _ rfl g6 k rfl (.int .u8 y) rfl rfl _ _ hB size_u8 (by rw [pgv_len, hll.out]; omega) ?_; intro w8 b8 f8; rw [pgv_set] at b8; have c8 := hC.ne f8 g46; have d8 := hD.ne f8 g26)))
      go_roundw
      case rel => exact ⟨k + 1, _, by omega, by go_num, show _ = _ from hs.out, b8, c8, d8, hf.thenT f8 (fun i hi q => by unfold onB1 at q; omega)⟩
      case measure => simp [intOf]; omega
    · obtain rfl : k = 240 := by omega
      have hlK : K = l := by rw [hl.out, hend.out]
      subst hlK
      go_wp2
      obtain ⟨w1', HW1⟩ : ∃ w0, Hid (wr.drew = w0) := ⟨_, rfl⟩
      have g0 : Fr noB wr w1' := by rw [← HW1.out]; exact (Fr.refl _ _).drew
      have C2 := hD.fr0 g0
      have C4 := hC.fr0 g0
      have C6 := hB.fr0 g0
      have FC : Fr noB w w1' := hf.thenN g0
      refine wp_region_chain_lay (by kernel_rfl) [2, 4] [none, none, some 0, none, some 1]
        [fun v => v = .int .u64 G, fun v => v = pgV K, fun _ => True, fun v => v = pgV p, fun _ => True]
        (JTE w1' R (.bool (!B))) (HW1.out) (by kernel_rfl) (by kernel_rfl) (by decide) ⟨?o0, ?o1, ?o2, ?o3, ?o4, trivial⟩ ?oe
      case o0 =>
        intro A W hv hlen hJ hbase hdL hdH
        have e1 : A.eval (.tmp 1) = .int .u64 G := hbase 1 (by kernel_rfl)
        have f1 : A.tmps[1]?.getD undef = .int .u64 G := by simpa [Act.eval] using e1
        exact light_val rfl (v := .int .u64 G) (by simp [execOp, e1, f1]) hJ rfl
      case o1 =>
        intro A W hv hlen hJ hbase hdL hdH
        have e6 : A.eval (.tmp 6) = .pointer (some ⟨g6, 0, none⟩) := hbase 6 (by kernel_rfl)
        have f6 : A.tmps[6]?.getD undef = .pointer (some ⟨g6, 0, none⟩) := by simpa [Act.eval] using e6
        have hr := run_loadA arr_240 W g6 0 K (bxAll (C6.fr0 (JTE.fr hJ))) hKl.out
        exact light_val rfl (v := pgV K) (by simp [execOp, e6, hr, Result.andThen]) hJ rfl
      case o2 =>
        intro A W hv hlen hJ hbase hdL hdH
        have e19 : A.eval (.tmp 19) = .int .u64 G := hdL 0 19 (by kernel_rfl) (by kernel_rfl) (by kernel_rfl)
        have f19 : A.tmps[19]?.getD undef = .int .u64 G := by simpa [Act.eval] using e19
        have e20 : A.eval (.tmp 20) = pgV K := hdL 1 20 (by kernel_rfl) (by kernel_rfl) (by kernel_rfl)
        have f20 : A.tmps[20]?.getD undef = pgV K := by simpa [Act.eval] using e20
        obtain rfl : hv = [] := List.eq_nil_of_length_eq_zero hlen
        cases hJ
        refine heavy_call rfl (f := 15) (args := #[.int .u64 G, pgV K]) (by simp [execOp, resolve, invoke, go_sem, e19, f19, e20, f20]) ?_
        refine (dpage_any G hG K hKl.out hKb _).mono ?_
        rw [HR.out]
        rintro e w' ⟨rfl, f'⟩
        exact ⟨_, rfl, rfl, f'⟩
      case o3 =>
        intro A W hv hlen hJ hbase hdL hdH
        have e2 : A.eval (.tmp 2) = .pointer (some ⟨g2, 0, none⟩) := hbase 2 (by kernel_rfl)
        have f2 : A.tmps[2]?.getD undef = .pointer (some ⟨g2, 0, none⟩) := by simpa [Act.eval] using e2
        have hr := run_loadA arr_page W g2 0 p (bxAll (C2.fr0 (JTE.fr hJ))) Hp.out
        exact light_val rfl (v := pgV p) (by simp [execOp, e2, hr, Result.andThen]) hJ rfl
      case o4 =>
        intro A W hv hlen hJ hbase hdL hdH
        have e22 : A.eval (.tmp 22) = pgV p := hdL 3 22 (by kernel_rfl) (by kernel_rfl) (by kernel_rfl)
        have f22 : A.tmps[22]?.getD undef = pgV p := by simpa [Act.eval] using e22
        match hv, hlen with
        | [v13], _ =>
          obtain ⟨rfl, hf⟩ := hJ
          have e21 : A.eval (.tmp 21) = pgV R := by have := hdH 2 21 0 (by kernel_rfl) rfl (by kernel_rfl); simpa using this.symm
          have hr := run_neqA arr_page W R p hRl.out Hp.out
          rw [HB.out] at hr
          exact heavy_val rfl (v := .bool (!B)) (w' := W) (by simp [execOp, e22, e21, hr, eqgAn arr_page, Result.andThen]) ⟨rfl, hf⟩
      case oe =>
        intro vs W2 hv hlen hJ hL hH
        match hv, hlen with
        | [x0, x1], _ =>
          have hx := hH 1 4 rfl (by rfl)
          obtain ⟨rfl, hf2⟩ := hJ
          simp only [List.getElem?_cons_succ, List.getElem?_cons_zero, Option.some.injEq] at hx
          simp only [layL, Nat.reduceAdd, Act.put, List.setIfInBounds_toArray, List.set_cons_zero, List.set_cons_succ]
          clear hL hH
          generalize vs 0 = y200 at *
          generalize vs 1 = y201 at *
          generalize vs 2 = y202 at *
          generalize vs 3 = y203 at *
          generalize vs 4 = y204 at *
          subst hx
          have E4 := C4.fr0 hf2
          have E6 := C6.fr0 hf2
          have FE : Fr noB w W2 := FC.thenN hf2
          have l4 := C4.lt
          cases B with
          | true =>
            go_wp2_with (first
              | (with_reducible refine at_wpP ?_; refine at_ld 22 _ rfl ?_; go_must (refine wpList_loadA arr_240 rfl _ rfl g6 rfl K E6 hKl.out ?_))
              | (with_reducible refine at_wpP ?_; refine at_st 22 _ _ rfl ?_; go_must (refine wpList_storeA arr_240 rfl _ _ rfl g4 rfl K rfl _ E4 hKl.out hZl.out ?_; intro w9 b9 f9)))
            refine bodyPost_ret (results_arr2 arr_240 Try.results13 _ w9 g4 K rfl b9 hKl.out) rfl ⟨rfl, ?_⟩
            exact FE.thenT f9 (fun i hi q => by unfold onB1 at q; omega)
          | false =>
            go_wp2_with (first
              | (with_reducible refine at_wpP ?_; refine wpList_buildA arr_240 rfl rfl ?_; rw [HZ.out])
              | (with_reducible refine at_wpP ?_; refine at_st 22 _ _ rfl ?_; go_must (refine wpList_storeA arr_240 rfl _ _ rfl g4 rfl Z rfl _ E4 hZl.out hZl.out ?_; intro w9 b9 f9)))
            refine bodyPost_ret (results_arr2 arr_240 Try.results13 _ w9 g4 Z rfl b9 hZl.out) rfl ⟨rfl, ?_⟩
            exact FE.thenT f9 (fun i hi q => by unfold onB1 at q; omega)
end Go.Proofs.Ytdfffbbdeaefeaa
/- Write and Read of package tally. (Written by t4_gen.py.) -/
namespace Go.Proofs.Ytdfffbbdeaefeaa
open Go.RowKit Go.Proofs.U
set_option linter.unusedSimpArgs false
set_option linter.unusedVariables false
section
variable {P : Program} {ops : Array Oper} {Q : Exit → Act → World → Prop} {a : Act} {w : World} {o : Oper} {fs : List (Value → Prop)} {J : List Value → World → Prop} {k : Nat} {hv : List Value}
theorem light_callT {f : FuncId} {args : Array Value} (hw : Region.wanted o (yielded ops a.tmps) = true) (hrun : (execOp a.eval o).run P w = .ok (.enter f args) w)
    (hc : Calls P f args w fun e w' => ∃ v, e = .returned v ∧ J hv w' ∧ factL fs k v) :
    if Region.wanted o (yielded ops a.tmps) = true then o.wp P a w (fun a' w' => ∃ v, a' = a.put o.dst v ∧ J hv w' ∧ factL fs k v) Q else factL fs k undef := by
  rw [if_pos hw]
  unfold Oper.wp
  rw [hrun]
  refine hc.mono ?_
  rintro e w' ⟨v, rfl, h1, h2⟩
  exact ⟨v, rfl, h1, h2⟩
end
/-- While counts are written. -/
def JTW (w0 : World) (F : Nat → Prop) (g : Nat) (Y : DSt) (P : List Int) (E : Int) : List Value → World → Prop
  | [], W => W = w0
  | [v], W => v = pgV P ∧ Fr noB w0 W
  | [_, v], W => v = .int .i64 E ∧ ∃ W1, Fr noB w0 W1 ∧ Disk W (orNew F W1) g Y ∧ Fr F W1 W
  | [_, _, v], W => v = .int .i64 E ∧ ∃ W1, Fr noB w0 W1 ∧ Disk W (orNew F W1) g Y ∧ Fr F W1 W
  | _, _ => False

set_option maxRecDepth 100000 in
set_option maxHeartbeats 2000000 in
theorem twrite_any {F : Nat → Prop} {X : DSt} (g : Nat) (G : Int) (hG : G64 G) (c : List Int) (hc : c.length = 240) (hb : Byt c) (w : World) (hD : Disk w F g X) (hm : X.pend.length ≤ 100000) :
    Calls Try.prog 18 #[ptr g, .int .u64 G, pgV c] w fun e w' => e = .returned (.int .i64 (X.writeE (2 + G % 2))) ∧ Disk w' (orNew F w) g (X.write (2 + G % 2) (tlyP G c)) ∧ Fr F w w' := by
  have Hc := show Hid _ from hc
  obtain ⟨P, HP⟩ : ∃ P, Hid (tlyP G c = P) := ⟨_, rfl⟩
  have hPl : P.length = 256 := by rw [← HP.out, tlyP_len G hc]
  rw [HP.out]
  have hwr := show Hid _ from fun (W : World) (h : Disk W F g X) => write_any g (2 + G % 2) P hPl W h hm
  obtain ⟨Y, HY⟩ : ∃ Y, Hid (X.write (2 + G % 2) P = Y) := ⟨_, rfl⟩
  obtain ⟨E, HE⟩ : ∃ E, Hid (X.writeE (2 + G % 2) = E) := ⟨_, rfl⟩
  simp only [HY.out, HE.out] at hwr ⊢
  clear hc hPl
  go_enter Try.func18, Try.ntmps18
  go_wp2_with (first
    | (with_reducible refine at_wpP ?_; refine wpList_boxV rfl 23 _ rfl (pgv c) rfl ?_; intro g5 w1 hg5 b1 f1 s1))
  obtain ⟨w0, HW⟩ : ∃ w0, Hid (w1.drew = w0) := ⟨_, rfl⟩
  have f0 : Fr noB w1 w0 := by rw [← HW.out]; exact (Fr.refl _ _).drew
  have B0 := b1.fr0 f0
  have F0 := f1.thenN f0
  have D0 := hD.fr0 F0
  refine wp_region_chain_lay (by kernel_rfl) [5, 6, 7] [none, none, none, none, none, some 0, some 1, some 2]
    [fun v => v = ptr g, fun v => v = .int .u64 G, fun v => v = .int .i64 (2 + G % 2), fun v => v = .int .u64 G, fun v => v = pgV c, fun _ => True, fun _ => True, fun _ => True]
    (JTW w0 F g Y P E) (HW.out) (by kernel_rfl) (by kernel_rfl) (by decide) ⟨?o0, ?o1, ?o2, ?o3, ?o4, ?o5, ?o6, ?o7, trivial⟩ ?oe
  case o0 =>
    intro A W hv hlen hJ hbase hdL hdH
    have e0 : A.eval (.tmp 0) = ptr g := hbase 0 (by kernel_rfl)
    have f0 : A.tmps[0]?.getD undef = ptr g := by simpa [Act.eval] using e0
    exact light_val rfl (v := ptr g) (by simp [execOp, e0, f0]) hJ rfl
  case o1 =>
    intro A W hv hlen hJ hbase hdL hdH
    have e1 : A.eval (.tmp 1) = .int .u64 G := hbase 1 (by kernel_rfl)
    have f1 : A.tmps[1]?.getD undef = .int .u64 G := by simpa [Act.eval] using e1
    exact light_val rfl (v := .int .u64 G) (by simp [execOp, e1, f1]) hJ rfl
  case o2 =>
    intro A W hv hlen hJ hbase hdL hdH
    have e8 : A.eval (.tmp 8) = .int .u64 G := hdL 1 8 (by kernel_rfl) (by kernel_rfl) (by kernel_rfl)
    have f8 : A.tmps[8]?.getD undef = .int .u64 G := by simpa [Act.eval] using e8
    refine light_callT rfl (f := 11) (args := #[.int .u64 G]) (by simp [execOp, resolve, invoke, go_sem, e8, f8]) ?_
    refine (area_any G hG _).mono ?_
    rintro e w' ⟨rfl, rfl⟩
    exact ⟨_, rfl, hJ, rfl⟩
  case o3 =>
    intro A W hv hlen hJ hbase hdL hdH
    have e1 : A.eval (.tmp 1) = .int .u64 G := hbase 1 (by kernel_rfl)
    have f1 : A.tmps[1]?.getD undef = .int .u64 G := by simpa [Act.eval] using e1
    exact light_val rfl (v := .int .u64 G) (by simp [execOp, e1, f1]) hJ rfl
  case o4 =>
    intro A W hv hlen hJ hbase hdL hdH
    have e5 : A.eval (.tmp 5) = .pointer (some ⟨g5, 0, none⟩) := hbase 5 (by kernel_rfl)
    have f5 : A.tmps[5]?.getD undef = .pointer (some ⟨g5, 0, none⟩) := by simpa [Act.eval] using e5
    have hb1 : hv.length ≤ 0 := hlen.2 0 5 rfl (by kernel_rfl)
    obtain rfl : hv = [] := List.eq_nil_of_length_eq_zero (Nat.le_zero.1 hb1)
    cases hJ
    have hr := run_loadA arr_counts w0 g5 0 c (bxAll B0) Hc.out
    exact light_val rfl (v := pgV c) (by simp [execOp, e5, hr, Result.andThen]) rfl rfl
  case o5 =>
    intro A W hv hlen hJ hbase hdL hdH
    have e10 : A.eval (.tmp 10) = .int .u64 G := hdL 3 10 (by kernel_rfl) (by kernel_rfl) (by kernel_rfl)
    have f10 : A.tmps[10]?.getD undef = .int .u64 G := by simpa [Act.eval] using e10
    have e11 : A.eval (.tmp 11) = pgV c := hdL 4 11 (by kernel_rfl) (by kernel_rfl) (by kernel_rfl)
    have f11 : A.tmps[11]?.getD undef = pgV c := by simpa [Act.eval] using e11
    obtain rfl : hv = [] := List.eq_nil_of_length_eq_zero hlen
    cases hJ
    refine heavy_call rfl (f := 14) (args := #[.int .u64 G, pgV c]) (by simp [execOp, resolve, invoke, go_sem, e10, f10, e11, f11]) ?_
    refine (tpage_any G hG c Hc.out hb _).mono ?_
    rw [HP.out]
    rintro e w' ⟨rfl, f'⟩
    exact ⟨_, rfl, rfl, f'⟩
  case o6 =>
    intro A W hv hlen hJ hbase hdL hdH
    have e7 : A.eval (.tmp 7) = ptr g := hdL 0 7 (by kernel_rfl) (by kernel_rfl) (by kernel_rfl)
    have f7 : A.tmps[7]?.getD undef = ptr g := by simpa [Act.eval] using e7
    have e9 : A.eval (.tmp 9) = .int .i64 (2 + G % 2) := hdL 2 9 (by kernel_rfl) (by kernel_rfl) (by kernel_rfl)
    have f9 : A.tmps[9]?.getD undef = .int .i64 (2 + G % 2) := by simpa [Act.eval] using e9
    match hv, hlen with
    | [v12], _ =>
      obtain ⟨rfl, hf⟩ := hJ
      have e12 : A.eval (.tmp 12) = pgV P := by have := hdH 5 12 0 (by kernel_rfl) rfl (by kernel_rfl); simpa using this.symm
      have f12 : A.tmps[12]?.getD undef = pgV P := by simpa [Act.eval] using e12
      refine heavy_call rfl (f := 24) (args := #[ptr g, .int .i64 (2 + G % 2), pgV P]) (by simp [execOp, resolve, invoke, go_sem, e7, f7, e9, f9, e12, f12]) ?_
      refine (hwr.out _ (D0.fr0 hf)).mono ?_
      rintro e w' ⟨rfl, d', f'⟩
      exact ⟨_, rfl, rfl, W, hf, d', f'⟩
  case o7 =>
    intro A W hv hlen hJ hbase hdL hdH
    match hv, hlen with
    | [x0, t], _ =>
      have e13 : A.eval (.tmp 13) = t := by have := hdH 6 13 1 (by kernel_rfl) rfl (by kernel_rfl); simpa using this.symm
      exact heavy_val rfl (v := t) (w' := W) (by simp [execOp, e13]) hJ
  case oe =>
    intro vs W' hv hlen hJ hL hH
    match hv, hlen with
    | [x0, x1, x2], _ =>
      have hx := hH 2 7 rfl (by rfl)
      obtain ⟨rfl, W1, h1, h2, h3⟩ := hJ
      simp only [List.getElem?_cons_succ, List.getElem?_cons_zero, Option.some.injEq] at hx
      simp only [layL, Nat.reduceAdd, Act.put, List.setIfInBounds_toArray, List.set_cons_zero, List.set_cons_succ]
      clear hL hH
      generalize vs 0 = y100 at *
      generalize vs 1 = y101 at *
      generalize vs 2 = y102 at *
      generalize vs 3 = y103 at *
      generalize vs 4 = y104 at *
      generalize vs 5 = y105 at *
      generalize vs 6 = y106 at *
      generalize vs 7 = y107 at *
      subst hx
      go_wp2
      go_ret
      have z0 := F0.size
      have z1 := h1.size
      exact ⟨rfl, h2.mono (fun k _ q => by unfold orNew at q ⊢; rcases q with q | q; exact Or.inl q; exact Or.inr (by omega)), ((F0.thenN h1).mono (fun _ _ q => q.elim)).thenT h3 (fun _ _ q => q)⟩
/-- What is read of a generation. -/
def tRead (X : DSt) (G : Int) : List Int × Int := if (readP X (2 + G % 2)).2 = 0 then opT (readP X (2 + G % 2)).1 G else (zerB 240, (readP X (2 + G % 2)).2)
set_option maxRecDepth 100000 in
set_option maxHeartbeats 2000000 in
theorem tread_any {F : Nat → Prop} {X : DSt} (g : Nat) (G : Int) (hG : G64 G) (w : World) (hD : Disk w F g X) (hm : X.pend.length ≤ 100000) (hX : X.byt) :
    Calls Try.prog 8 #[ptr g, .int .u64 G] w fun e w' => e = .returned (.tuple #[pgV (tRead X G).1, .int .i64 (tRead X G).2]) ∧ Fr noB w w' := by
  unfold tRead
  have hrd := show Hid _ from fun (W : World) (h : Disk W F g X) => read_any g (2 + G % 2) (by omega) W h hm
  have hPl := readP_len hD (2 + G % 2)
  have hPb := readP_byt hX (2 + G % 2)
  obtain ⟨⟨P, E⟩, HR⟩ : ∃ R, Hid (readP X (2 + G % 2) = R) := ⟨_, rfl⟩
  simp only [HR.out] at hrd hPl hPb ⊢
  obtain ⟨Z, HZ⟩ : ∃ Z, Hid (zerB 240 = Z) := ⟨_, rfl⟩
  have hZl : Hid (Z.length = 240) := by show _ = _; rw [← HZ.out]; exact zerB_len 240
  obtain ⟨ZP, HZP⟩ : ∃ Z, Hid (zerB 256 = Z) := ⟨_, rfl⟩
  have hZPl : Hid (ZP.length = 256) := by show _ = _; rw [← HZP.out]; exact zerB_len 256
  rw [HZ.out]
  have hop := show Hid _ from fun W => topen_any P hPl hPb G hG W
  have hol := opT_len hPl G
  obtain ⟨⟨K, EK⟩, HK⟩ : ∃ R, Hid (opT P G = R) := ⟨_, rfl⟩
  simp only [HK.out] at hop hol ⊢
  have hKl := show Hid _ from hol
  have HPl := show Hid _ from hPl
  clear hol hPl
  by_cases hE : E = 0
  · subst hE
    rw [if_pos rfl]
    go_enter Try.func8, Try.ntmps8
    go_wp2_with (first
      | (with_reducible refine at_wpP ?_; refine wpList_allocA arr_counts rfl rfl ?_; rw [HZ.out]; intro g4 w1 hg4 b1 f1 s1; have l1 := b1.lt; have z1 := f1.size)
      | (go_at_call 11; go_must (refine (area_any G hG _).mono ?_; rintro e w' ⟨rfl, rfl⟩))
      | (go_at_call 19; go_must (refine (hrd.out _ (hD.fr0 f1)).mono ?_; rintro e w2 ⟨rfl, f2⟩; have z2 := f2.size))
      | (with_reducible refine at_wpP ?_; refine wpList_allocA arr_page rfl rfl ?_; rw [HZP.out]; intro g6 w3 hg6 b3 f3 s3; have l3 := b3.lt; have c1 := (b1.fr0 f2).fr0 f3)
      | (with_reducible refine at_wpP ?_; refine at_st 33 _ _ rfl ?_; go_must (refine wpList_storeA arr_page rfl _ _ rfl g6 rfl P rfl _ b3 HPl.out hZPl.out ?_; intro w4 b4 f4; have c2 := c1.ne f4 (by omega)))
      | (with_reducible refine at_wpP ?_; refine at_ld 33 _ rfl ?_; go_must (refine wpList_loadA arr_page rfl _ rfl g6 rfl P b4 HPl.out ?_))
      | (go_at_call 12; go_must (refine (hop.out _).mono ?_; rintro e w5 ⟨rfl, f5⟩; have c3 := c2.fr0 f5))
      | (with_reducible refine at_wpP ?_; refine at_st 23 _ _ rfl ?_; go_must (refine wpList_storeA arr_counts rfl _ _ rfl g4 rfl K rfl _ c3 hKl.out hZl.out ?_; intro w9 b9 f9)))
    refine bodyPost_ret (results_arr2 arr_counts Try.results8 _ w9 g4 K rfl b9 hKl.out) rfl ⟨rfl, ?_⟩
    exact ((((f1.thenN f2).thenN f3).thenT f4 (fun i hi q => by unfold onB1 at q; omega)).thenN f5).thenT f9 (fun i hi q => by unfold onB1 at q; omega)
  · rw [if_neg hE]
    go_enter Try.func8, Try.ntmps8
    go_wp2_with (first
      | (with_reducible refine at_wpP ?_; refine wpList_allocA arr_counts rfl rfl ?_; rw [HZ.out]; intro g4 w1 hg4 b1 f1 s1; have l1 := b1.lt; have z1 := f1.size)
      | (go_at_call 11; go_must (refine (area_any G hG _).mono ?_; rintro e w' ⟨rfl, rfl⟩))
      | (go_at_call 19; go_must (refine (hrd.out _ (hD.fr0 f1)).mono ?_; rintro e w2 ⟨rfl, f2⟩; have z2 := f2.size))
      | (with_reducible refine at_wpP ?_; refine wpList_allocA arr_page rfl rfl ?_; rw [HZP.out]; intro g6 w3 hg6 b3 f3 s3; have l3 := b3.lt; have c1 := (b1.fr0 f2).fr0 f3)
      | (with_reducible refine at_wpP ?_; refine at_st 33 _ _ rfl ?_; go_must (refine wpList_storeA arr_page rfl _ _ rfl g6 rfl P rfl _ b3 HPl.out hZPl.out ?_; intro w4 b4 f4; have c2 := c1.ne f4 (by omega)))
      | (with_reducible refine at_wpP ?_; refine wpList_buildA arr_counts rfl rfl ?_; rw [HZ.out])
      | (with_reducible refine at_wpP ?_; refine at_st 23 _ _ rfl ?_; go_must (refine wpList_storeA arr_counts rfl _ _ rfl g4 rfl Z rfl _ c2 hZl.out hZl.out ?_; intro w9 b9 f9)))
    refine bodyPost_ret (results_arr2 arr_counts Try.results8 _ w9 g4 Z rfl b9 hZl.out) rfl ⟨rfl, ?_⟩
    exact (((f1.thenN f2).thenN f3).thenT f4 (fun i hi q => by unfold onB1 at q; omega)).thenT f9 (fun i hi q => by unfold onB1 at q; omega)
end Go.Proofs.Ytdfffbbdeaefeaa
/- The example that layer 6's statements ask first; TallyNames. -/
namespace Go.Proofs.Ytdfffbbdeaefeaa
open Go.RowKit Go.Proofs.U
set_option linter.unusedSimpArgs false
set_option linter.unusedVariables false
def cA : List Int := (zerB 240).set 7 3
theorem cA_built : Try.prog.built 23 [(7, .int .u8 3)] = some (pgv cA).toArray := by kernel_rfl
theorem cA_used : usedN cA = 1 := by kernel_rfl
theorem cA_len : cA.length = 240 := by kernel_rfl
theorem cA_byt : Byt cA := by
  intro x hx
  rcases List.mem_or_eq_of_mem_set hx with hx | rfl
  · exact zerB_byt 240 x hx
  · decide
section
variable {w : World} {ops : Array Oper} {rest : List Oper} {o : Oper} {a : Act} {Q : Exit → Act → World → Prop}
theorem wpList_build1 (hgd : Region.wanted o (yielded ops a.tmps) = true) (t : TypeId) (k : Nat) (x : Operand) (ho : o.op = .build t #[(k, x)]) (v : Value) (hx : a.eval x = v) (cs : List Value) (hb : Try.prog.built t [(k, v)] = some cs.toArray)
    (h : wpList Try.prog ops Q rest (a.put o.dst (.agg cs.toArray)) w) : wpList Try.prog ops Q (o :: rest) a w := by
  refine wpList_wanted hgd fun K hK => ?_
  have hrun := run_build (P := Try.prog) w t #[(k, v)] _ hb
  unfold Oper.wp
  simp [execOp, ho, hx, hrun, Result.andThen]
  exact hK _ _ h
end
theorem g64 {n : Int} (h : 0 ≤ n ∧ n < 18446744073709551616) : G64 n := h
set_option maxRecDepth 100000 in
set_option maxHeartbeats 2000000 in
theorem talive_any (w : World) : Calls Try.prog 10 #[] w fun r w' => r = .returned (.bool true) ∧ Fr noB w w' := by
  have hb := cA_byt
  have hl := cA_len
  have hu := cA_used
  have hbu := cA_built
  have ho5 := opT_own 5 cA_len
  have ho7 := opT_other (g := 5) (g' := 7) (by decide) (by decide) (by decide) cA_len
  obtain ⟨C, HC⟩ : ∃ C, Hid (cA = C) := ⟨_, rfl⟩
  simp only [HC.out] at hb hl hu hbu ho5 ho7
  have hPl := tlyP_len 5 hl
  have hPb := tlyP_byt 5 hb
  have hpg := show Hid _ from fun W => tpage_any 5 (g64 (by decide)) C hl hb W
  obtain ⟨P, HP⟩ : ∃ P, Hid (tlyP 5 C = P) := ⟨_, rfl⟩
  simp only [HP.out] at ho5 ho7 hPl hPb hpg
  obtain ⟨Z, HZ⟩ : ∃ Z, Hid (zerB 240 = Z) := ⟨_, rfl⟩
  have hZl : Hid (Z.length = 240) := by show _ = _; rw [← HZ.out]; exact zerB_len 240
  obtain ⟨ZP, HZP⟩ : ∃ Z, Hid (zerB 256 = Z) := ⟨_, rfl⟩
  have hZPl : Hid (ZP.length = 256) := by show _ = _; rw [← HZP.out]; exact zerB_len 256
  rw [HZ.out] at ho7
  have h5 := show Hid _ from fun W => topen_any P hPl hPb 5 (g64 (by decide)) W
  have h7 := show Hid _ from fun W => topen_any P hPl hPb 7 (g64 (by decide)) W
  simp only [ho5] at h5
  simp only [ho7] at h7
  have hus := show Hid _ from fun W => used_any C hl W
  simp only [hu] at hus
  have ecc : Hid ((C == C) = true) := by show _ = _; exact beq_self_eq_true C
  have hbu := show Hid _ from hbu
  have Hl := show Hid _ from hl
  have HPl := show Hid _ from hPl
  clear hl hu ho5 ho7 hPl hPb hbu
  have hbu := show Hid (Try.prog.built 23 [(7, .int .u8 3)] = some (pgv C).toArray) from (by show _ = _; rw [← HC.out]; exact cA_built)
  go_enter Try.func10, Try.ntmps10
  go_wp2_with (first
    | (with_reducible refine at_wpP ?_; refine wpList_build1 rfl 23 7 _ rfl (.int .u8 3) rfl (pgv C) hbu.out ?_)
    | (with_reducible refine at_wpP ?_; have f8x := f8; refine wpList_allocA arr_counts rfl rfl ?_; rw [HZ.out]; intro g5 w9 hg5 b9 f9 s9; have z9 := f9.size)
    | (with_reducible refine at_wpP ?_; have f5x := f5; refine wpList_allocA arr_counts rfl rfl ?_; rw [HZ.out]; intro g3 w6 hg3 b6 f6 s6; have l6 := b6.lt; have z6 := f6.size)
    | (with_reducible refine at_wpP ?_; refine wpList_allocA arr_counts rfl rfl ?_; rw [HZ.out]; intro g1 w1 hg1 b1 f1 s1; have l1 := b1.lt; have z1 := f1.size)
    | (with_reducible refine at_wpP ?_; refine wpList_allocA arr_page rfl rfl ?_; rw [HZP.out]; intro g2 w4 hg2 b4 f4 s4; have l4 := b4.lt; have z4 := f4.size)
    | (with_reducible refine at_wpP ?_; refine at_st 23 _ _ rfl ?_; have b9x := b9; go_must (refine wpList_storeA arr_counts rfl _ _ rfl g5 rfl Z rfl _ b9 hZl.out hZl.out ?_; intro w10 b10 f10; have k1 := (d1.fr0 f9).ne f10 (by omega); have k3 := ((b7.fr0 f8).fr0 f9).ne f10 (by omega)))
    | (with_reducible refine at_wpP ?_; refine at_st 23 _ _ rfl ?_; have b6x := b6; go_must (refine wpList_storeA arr_counts rfl _ _ rfl g3 rfl C rfl _ b6 Hl.out hZl.out ?_; intro w7 b7 f7; have z7 := f7.size; have c2 := ((b5.fr0 f5').fr0 f6).ne f7 (by omega); have c1 := (((b2.fr0 f3).fr0 f4).ne f5 (by omega))))
    | (with_reducible refine at_wpP ?_; refine at_st 23 _ _ rfl ?_; go_must (refine wpList_storeA arr_counts rfl _ _ rfl g1 rfl C rfl _ b1 Hl.out hZl.out ?_; intro w2 b2 f2; have z2 := f2.size))
    | (with_reducible refine at_wpP ?_; refine at_st 33 _ _ rfl ?_; go_must (refine wpList_storeA arr_page rfl _ _ rfl g2 rfl P rfl _ b4 HPl.out hZPl.out ?_; intro w5 b5 f5; have z5 := f5.size))
    | (go_at_call 14; go_must (refine (hpg.out _).mono ?_; rintro e w3 ⟨rfl, f3⟩; have z3 := f3.size))
    | (go_at_call 12; have b7x := b7; go_must (refine (h7.out _).mono ?_; rintro e w8 ⟨rfl, f8⟩; have z8 := f8.size; have d1 := ((((((b2.fr0 f3).fr0 f4).ne f5 (by omega)).fr0 f5').fr0 f6).ne f7 (by omega)).fr0 f8))
    | (go_at_call 12; go_must (refine (h5.out _).mono ?_; rintro e w5' ⟨rfl, f5'⟩; have z5' := f5'.size))
    | (go_at_call 17; go_must (refine (hus.out _).mono ?_; rintro e w11 ⟨rfl, f11⟩))
    | (with_reducible refine at_wpP ?_; refine at_ld 23 _ rfl ?_; have k3x := k3; go_must (first | refine wpList_loadA arr_counts rfl _ rfl g3 rfl C k3 Hl.out ?_ | refine wpList_loadA arr_counts rfl _ rfl g1 rfl C k1 Hl.out ?_))
    | (with_reducible refine at_wpP ?_; refine at_ld 23 _ rfl ?_; go_must (refine wpList_loadA arr_counts rfl _ rfl g1 rfl C b2 Hl.out ?_))
    | (with_reducible refine at_wpP ?_; refine at_ld 33 _ rfl ?_; have b7x := b7; go_must (refine wpList_loadA arr_page rfl _ rfl g2 rfl P c2 HPl.out ?_))
    | (with_reducible refine at_wpP ?_; refine at_ld 33 _ rfl ?_; go_must (refine wpList_loadA arr_page rfl _ rfl g2 rfl P b5 HPl.out ?_))
    | (with_reducible refine at_wpP ?_; refine at_bin .eql 23 _ _ _ rfl ?_; go_must (refine wpList_eqlA arr_counts rfl _ _ _ rfl C C rfl rfl Hl.out Hl.out ?_; rw [ecc.out])))
  go_ret
  have z10 := f10.size
  refine ⟨rfl, ?_⟩
  exact ((((((((((f1.thenT (S := noB) f2 (fun i hi q => by unfold onB1 at q; omega)).thenN f3).thenN f4).thenT f5 (fun i hi q => by unfold onB1 at q; omega)).thenN f5').thenN f6).thenT f7 (fun i hi q => by unfold onB1 at q; omega)).thenN f8).thenN f9).thenT f10 (fun i hi q => by unfold onB1 at q; omega)).thenN f11
end Go.Proofs.Ytdfffbbdeaefeaa
/- How a slice of slices of bytes, and an array of two bytes, that came in are opened. -/
namespace Go.Proofs.Ytdfffbbdeaefeaa
open Go.RowKit Go.Proofs.U Go.ChangeShapes Go.WideShapes Go.ChangeAt

set_option maxRecDepth 100000 in
theorem opened_rows {H : Type} {enc : TypeId × Value → H} {W : World} {base : Nat} {v : Value} {d : DataW H} {p : List MemPlace}
    (hval : Value.okWide Try.prog W .any base 71 v) (h : DataW.Trod enc Try.prog W 0 (fun _ => true) true 71 v d p) : ∃ ls, SlB W v ls := by
  obtain ⟨a, len, cap, rfl⟩ := okWide_slice Try.underlying71 hval
  obtain ⟨fuel, hf⟩ := h
  rcases Deep.open_int_rows Try.underlying71 Try.underlying53 Try.underlying5 (by kernel_rfl) (by kernel_rfl) hf with ⟨hcs, _⟩ | ⟨x, l, c, A, L, C, Z, hcs, _, hl, hm, _, hcell⟩
  · simp [Value.cells] at hcs
    obtain ⟨rfl, rfl, rfl⟩ := hcs
    exact ⟨[], SlB.nil W⟩
  · simp [Value.cells] at hcs
    obtain ⟨rfl, rfl, rfl⟩ := hcs
    have e : ((List.range len).map fun r => (Z r).take (L r)).length = len := by simp
    refine ⟨(List.range len).map fun r => (Z r).take (L r), (List.range len).map fun r => .slice (A r) (L r) (C r), ?_, ?_⟩
    · rw [e]
      refine ⟨some x, cap, rfl, hl, by simp, (fun h => by cases h), fun y hy j u hj => ?_⟩
      cases hy
      have hj1 : j < len := by have := (List.getElem?_eq_some_iff.1 hj).1; simpa using this
      simp [hj1] at hj
      rw [← hj]; exact (hcell j (by omega)).1
    · intro j hj u hu
      have hj1 : j < len := by simpa using hj
      simp [hj1] at hu
      subst hu
      obtain ⟨h1, h2, h3, h4, h5, h6, h7⟩ := hcell j (by omega)
      simp only [List.getElem_map, List.getElem_range]
      have e2 : ((Z j).take (L j)).length = L j := by simp; omega
      refine ⟨?_, fun n hn => h5 n (List.mem_of_mem_take hn)⟩
      rw [e2]
      refine ⟨A j, C j, rfl, h2, by simp; omega, fun hn => h6 hn, fun y hy i u hi => ?_⟩
      have hi1 : i < L j := by have := (List.getElem?_eq_some_iff.1 hi).1; simp at this; omega
      have hi2 : i < (Z j).length := by omega
      have := (h7 y hy).2 i (by omega)
      rw [this]
      rw [List.getElem?_map, List.getElem?_take, if_pos hi1, List.getElem?_eq_getElem hi2] at hi
      simp at hi
      simp [List.getD, hi2, hi]

set_option maxRecDepth 100000 in
theorem opened_two {H : Type} {enc : TypeId × Value → H} {W : World} {base : Nat} {v : Value} {d : DataW H} {p : List MemPlace}
    (hval : Value.okWide Try.prog W .any base 44 v) (h : DataW.Trod enc Try.prog W 0 (fun _ => true) true 44 v d p) :
    ∃ m : Int × Int, v = .agg #[.int .u8 m.1, .int .u8 m.2] ∧ (Lit.int .u8 m.1).wf = true ∧ (Lit.int .u8 m.2).wf = true := by
  simp only [Value.okWide, Try.underlying44] at hval
  obtain ⟨cs, rfl, hsz, _⟩ := hval
  have hC : Try.prog.cellsOf 44 = 2 := by kernel_rfl
  have hc5 : Try.prog.cellsOf 5 = 1 := by kernel_rfl
  rw [hC] at hsz
  obtain ⟨fuel, hf⟩ := h
  obtain ⟨xs, m, _, _, _, hlen, hx⟩ := DataW.trod_array Try.underlying44 hf
  match cs, hsz with
  | ⟨[c0, c1]⟩, _ =>
    have h0 := hx 0 (by omega)
    have h1 := hx 1 (by omega)
    rw [hc5] at h0 h1
    simp [Value.cells] at h0 h1
    have g0 : xs[0]? = some xs[0] := List.getElem?_eq_getElem (by omega)
    have g1 : xs[1]? = some xs[1] := List.getElem?_eq_getElem (by omega)
    rw [g0] at h0
    rw [g1] at h1
    obtain ⟨z0, e0, _, w0⟩ := DataW.trod_int Try.underlying5 h0
    obtain ⟨z1, e1, _, w1⟩ := DataW.trod_int Try.underlying5 h1
    simp at e0 e1
    subst e0 e1
    exact ⟨(z0, z1), rfl, w0, w1⟩
end Go.Proofs.Ytdfffbbdeaefeaa
/- How arrays of bytes, and of two numbers, that came in are opened. -/
namespace Go.Proofs.Ytdfffbbdeaefeaa
open Go.RowKit Go.Proofs.U Go.ChangeShapes Go.WideShapes Go.ChangeAt
set_option linter.unusedSimpArgs false
set_option linter.unusedVariables false
/-- The value of an array of bytes. -/
def IsArr (v : Value) (n : Nat) (p : List Int) : Prop := v = pgV p ∧ p.length = n ∧ Byt p
def numOf : Value → Int
  | .int _ z => z
  | _ => 0
theorem opened_arr {t : TypeId} {n : Nat} (T : ArrT t n) (hC : Try.prog.cellsOf t = n) (hc5 : Try.prog.cellsOf 5 = 1) {H : Type} {enc : TypeId × Value → H} {W : World} {base : Nat} {v : Value} {d : DataW H} {p : List MemPlace}
    (hval : Value.okWide Try.prog W .any base t v) (h : DataW.Trod enc Try.prog W 0 (fun _ => true) true t v d p) : ∃ c, IsArr v n c := by
  simp only [Value.okWide, T.und] at hval
  obtain ⟨cs, rfl, hsz, _⟩ := hval
  rw [hC] at hsz
  obtain ⟨fuel, hf⟩ := h
  obtain ⟨xs, m, _, _, _, hlen, hx⟩ := DataW.trod_array T.und hf
  have hat : ∀ i, i < n → ∃ z : Int, cs.toList[i]? = some (.int .u8 z) ∧ (Lit.int .u8 z).wf = true := by
    intro i hi
    have h0 := hx i hi
    rw [hc5] at h0
    have g0 : xs[i]? = some xs[i] := List.getElem?_eq_getElem (by omega)
    rw [g0] at h0
    obtain ⟨z, e, _, wf⟩ := DataW.trod_int Try.underlying5 h0
    refine ⟨z, ?_, wf⟩
    have e1 : ((cs.toList.drop (i * 1)).take 1)[0]? = some (.int .u8 z) := by
      have : (Value.agg cs).cells.toList = cs.toList := rfl
      rw [this] at e
      rw [e]; rfl
    simpa [List.getElem?_take, List.getElem?_drop] using e1
  have hl : cs.toList.length = n := by simpa using hsz
  refine ⟨cs.toList.map numOf, ?_, by simpa using hsz, ?_⟩
  · have e : pgv (cs.toList.map numOf) = cs.toList := by
      apply List.ext_getElem
      · simp [pgv]
      · intro i h1 h2
        obtain ⟨z, hz, _⟩ := hat i (by omega)
        rw [List.getElem?_eq_getElem h2] at hz
        have hz := Option.some.inj hz
        simp only [pgv, List.getElem_map]
        rw [hz]; rfl
    unfold pgV
    rw [e]
  · intro y hy
    obtain ⟨u, hu, rfl⟩ := List.mem_map.1 hy
    obtain ⟨i, hi, rfl⟩ := List.mem_iff_getElem.1 hu
    obtain ⟨z, hz, wf⟩ := hat i (by omega)
    rw [List.getElem?_eq_getElem hi] at hz
    rw [Option.some.inj hz]; exact wf
theorem opened_240 {H : Type} {enc : TypeId × Value → H} {W : World} {base : Nat} {v : Value} {d : DataW H} {p : List MemPlace}
    (hval : Value.okWide Try.prog W .any base 22 v) (h : DataW.Trod enc Try.prog W 0 (fun _ => true) true 22 v d p) : ∃ c, IsArr v 240 c :=
  opened_arr arr_240 (by kernel_rfl) (by kernel_rfl) hval h
theorem opened_page {H : Type} {enc : TypeId × Value → H} {W : World} {base : Nat} {v : Value} {d : DataW H} {p : List MemPlace}
    (hval : Value.okWide Try.prog W .any base 33 v) (h : DataW.Trod enc Try.prog W 0 (fun _ => true) true 33 v d p) : ∃ c, IsArr v 256 c :=
  opened_arr arr_page (by kernel_rfl) (by kernel_rfl) hval h
/-- The value of two numbers. -/
def IsTwo (v : Value) (m : Int × Int) : Prop := v = .agg #[.int .u64 m.1, .int .u64 m.2] ∧ G64 m.1 ∧ G64 m.2
theorem g64_wf {x : Int} (h : (Lit.int .u64 x).wf = true) : G64 x := by
  unfold G64
  simp [Lit.wf, IntKind.min, IntKind.max, IntKind.signed, IntKind.bits] at h; omega
set_option maxRecDepth 100000 in
theorem opened_nums {H : Type} {enc : TypeId × Value → H} {W : World} {base : Nat} {v : Value} {d : DataW H} {p : List MemPlace}
    (hval : Value.okWide Try.prog W .any base 41 v) (h : DataW.Trod enc Try.prog W 0 (fun _ => true) true 41 v d p) : ∃ m, IsTwo v m := by
  simp only [Value.okWide, Try.underlying41] at hval
  obtain ⟨cs, rfl, hsz, _⟩ := hval
  have hC : Try.prog.cellsOf 41 = 2 := by kernel_rfl
  have hc5 : Try.prog.cellsOf 29 = 1 := by kernel_rfl
  rw [hC] at hsz
  obtain ⟨fuel, hf⟩ := h
  obtain ⟨xs, m, _, _, _, hlen, hx⟩ := DataW.trod_array Try.underlying41 hf
  match cs, hsz with
  | ⟨[c0, c1]⟩, _ =>
    have h0 := hx 0 (by omega)
    have h1 := hx 1 (by omega)
    rw [hc5] at h0 h1
    simp [Value.cells] at h0 h1
    have g0 : xs[0]? = some xs[0] := List.getElem?_eq_getElem (by omega)
    have g1 : xs[1]? = some xs[1] := List.getElem?_eq_getElem (by omega)
    rw [g0] at h0
    rw [g1] at h1
    obtain ⟨z0, e0, _, w0⟩ := DataW.trod_int Try.underlying29 h0
    obtain ⟨z1, e1, _, w1⟩ := DataW.trod_int Try.underlying29 h1
    simp at e0 e1
    subst e0 e1
    exact ⟨(z0, z1), rfl, g64_wf w0, g64_wf w1⟩
end Go.Proofs.Ytdfffbbdeaefeaa
