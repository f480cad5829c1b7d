/- Texts Y15 of the proof of PoolRuns, one behind the other. -/
import Derived.Test.YtghkpeejogldkaaBundlePoolRuns1
import Derived.Test.YtghkpeejogldkaaBundlePoolRuns2
import Derived.Test.YtghkpeejogldkaaBundlePoolRuns3
import Derived.Test.YtghkpeejogldkaaBundlePoolRuns4
import Derived.Test.YtghkpeejogldkaaBundlePoolRuns5
import Derived.Test.YtghkpeejogldkaaBundlePoolRuns6
import Derived.Test.YtghkpeejogldkaaBundlePoolRuns7
import Derived.Test.YtghkpeejogldkaaBundlePoolRuns8
import Derived.Test.YtghkpeejogldkaaBundlePoolRuns9
import Derived.Test.YtghkpeejogldkaaBundlePoolRuns10
import Derived.Test.YtghkpeejogldkaaBundlePoolRuns11
import Derived.Test.YtghkpeejogldkaaBundlePoolRuns12
import Derived.Test.YtghkpeejogldkaaBundlePoolRuns13
import Derived.Test.YtghkpeejogldkaaBundlePoolRuns14
/- alike: has a pool the document's pages? (Written by y15_gen.py.) -/
namespace Go.Proofs.U
open Go.RowKit
theorem light_callP {P : Program} {ops : Array Oper} {fs : List (Value → Prop)} {J : List Value → World → Prop} {hv : List Value} {k : Nat} {o : Oper} {a : Act} {w : World} {Q : Exit → Act → World → Prop} {f : FuncId} {args : Array Value} (hw : Region.wanted o (yielded ops a.tmps) = true) (hrun : (execOp a.eval o).run P w = .ok (.enter f args) w)
    (hc : Calls P f args w fun e w' => ∃ v, e = .returned v ∧ J hv w' ∧ factL fs k v) :
    if Region.wanted o (yielded ops a.tmps) = true then o.wp P a w (fun a' w' => ∃ v, a' = a.put o.dst v ∧ J hv w' ∧ factL fs k v) Q else factL fs k undef := by
  rw [if_pos hw]
  unfold Oper.wp
  rw [hrun]
  refine hc.mono ?_
  rintro e w' ⟨v, rfl, hJ⟩
  exact ⟨v, rfl, hJ⟩
end Go.Proofs.U
namespace Go.Proofs.Ytghkpeejogldkaa
open Go.RowKit Go.Proofs.U
set_option linter.unusedSimpArgs false
set_option linter.unusedVariables false
/-- Nothing is turned. -/
def JQ (w0 : World) (_ : List Value) (W : World) : Prop := W = w0
theorem plFree_out (L : List Pg) (k : Nat) (h : L.length ≤ k) : plFree (L.take (k + 1)) = plFree (L.take k) := by
  rw [List.take_of_length_le (by omega), List.take_of_length_le h]
set_option maxRecDepth 100000 in
set_option maxHeartbeats 4000000 in
theorem alike_any {L : List Pg} (hL : plOk L) (g : Nat) (v : Value) (w : World) (hp : PoolB w g L) (hs : SlG w v L) :
    Calls Try.prog 25 #[ptr g, v] w fun r w' => r = .returned (.bool true) ∧ Fr noB w w' := by
  obtain ⟨a1, c1, rfl, hc1⟩ := hs.opn
  have hl240 := hL.1
  obtain ⟨C, HC⟩ : ∃ C, Hid (plCounts L = C) := ⟨_, rfl⟩
  have hCl : Hid (C.length = 240) := by show _ = _; rw [← HC.out, plCounts_len]
  have hCa : ∀ i, i < 240 → Hid (C.getD i 0 = (plAt L i).c) := fun i hi => by show _ = _; rw [← HC.out, plCounts_at _ _ hi]
  obtain ⟨E, HE⟩ : ∃ E, Hid (plFree L = E) := ⟨_, rfl⟩
  have hEl : E ≤ 240 := by rw [← HE.out]; have := plFree_le L; omega
  go_enter Try.func25, Try.ntmps25
  go_wp2_with (first
    | (go_at_call 28; go_must (refine (pcounts_any g _ hp).mono ?_; rw [HC.out]; rintro e w1 ⟨rfl, f1⟩))
    | (with_reducible refine at_wpP ?_; refine wpList_allocA arr_counts rfl rfl ?_; intro g6 w2 hg6 b2 f2 s6; have F2 := f1.thenN f2; have z1 := f1.size)
    | (with_reducible refine at_wpP ?_; refine at_st 50 _ _ rfl ?_; go_must (refine wpList_storeA arr_counts rfl _ _ rfl g6 rfl C rfl _ b2 hCl.out (zerB_len 240) ?_; intro w3 b3 f3; have F3 := Fr.own F2 (by omega) f3))
    | (with_reducible refine at_wpP ?_; refine at_ld 50 _ rfl ?_; go_must (refine wpList_loadA arr_counts rfl _ rfl g6 rfl C b3 hCl.out ?_)))
  go_loopw [5, 13] (fun u i wr => ∃ (k : Nat) (m : Nat), k ≤ 240 ∧ i = .int .i64 (k : Int) ∧ u = .int .i64 (m : Int) ∧ Hid (plFree (L.take k) = m) ∧ Fr noB w wr) (fun _ i _ => 240 - (intOf i).toNat)
  case atStart => exact ⟨0, 0, by omega, rfl, rfl, rfl, F3⟩
  case round =>
    obtain ⟨k, m, hk, rfl, rfl, hm, hf⟩ := hrel
    clear f1 b2 f2 F2 b3 f3 F3 s6 z1
    have zf := hf.size
    have hml : m ≤ 240 := by
      have := plFree_le (L.take k)
      rw [hm.out, List.length_take] at this; omega
    by_cases hk240 : k < 240
    · have hx := hL.2 k
      have HCk := hCa k hk240
      have hcount0 := fun W (h : PoolB W g L) => pcount_at hL (plCount_nat (L := L) k) g W h
      have hfresh0 := fun W (h : PoolB W g L) => pfresh_any hL g (k : Int) W h
      simp only [plFresh_nat] at hfresh0
      by_cases hlt : k < L.length
      · have hlt' : (k : Int) < (L.length : Int) := by omega
        have hg := plAt_get L k hlt
        have hsn := show Hid _ from plFree_succ L k hlt
        rw [hm.out] at hsn
        obtain ⟨x, Hx⟩ : ∃ x, Hid (L[k] = x) := ⟨L[k], (rfl : L[k] = L[k])⟩
        rw [Hx.out] at hg
        rw [hg] at hx HCk hcount0 hfresh0 hsn
        have hx4 := hx.2.2.1
        have hcv : IntKind.i64.wrap x.c = x.c := by rw [IntKind.wrap_i64]; have := hx.1; have := hx.2.1; omega
        have hcount := show Hid _ from hcount0
        clear hg hx hcount0
        cases hb : x.free with
        | true =>
          have hx0 : x.s = 0 := by unfold Pg.free at hb; simp at hb; exact hb.2
          have hs1 : (x.s == 1) = false := by rw [hx0]; rfl
          obtain ⟨b2, hs2⟩ : ∃ b, Hid ((x.s == 2) = b) := ⟨_, rfl⟩
          have hfresh : Hid (∀ W, PoolB W g L → Calls Try.prog 31 #[ptr g, .int .i64 (k : Int)] W fun r w' => r = .returned (.bool b2) ∧ W = w') := (show ∀ W, _ from fun W h => by
            have := hfresh0 W h
            unfold Pg.frsh at this
            rw [hs1, hs2.out] at this
            exact this)
          clear hfresh0
          rw [hb] at hsn
          have hsn : Hid (plFree (L.take (k + 1)) = m + 1) := hsn
          go_wp2_with (first
            | (refine at_index 50 _ _ rfl ?_; go_must (refine wpList_indexA arr_counts rfl _ _ rfl C rfl hCl.out k rfl hk240 ?_; rw [HCk.out]))
            | (with_reducible refine at_wpP ?_; refine wpList_bldLf rfl _ rfl Pg0 [] rfl built_leaf0 ?_)
            | (refine at_idx 34 _ _ rfl ?_; go_must (refine wpList_idxR rfl 34 _ _ rfl 63 Try.underlying34 5 leaf_size _ _ _ rfl (hs.fr0 F2) (by decide) _ _ k rfl rfl hlt ?_; rw [Hx.out]; intro ba oa hba hca))
            | (with_reducible refine at_wpP ?_; refine at_ld 63 _ rfl ?_; have q := B3; go_must (refine wpList_ldLf rfl _ rfl gl rfl x B3 ?_))
            | (with_reducible refine at_wpP ?_; refine at_ld 63 _ rfl ?_; have q := hca; refine wpList_ldAt rfl _ rfl ba oa rfl x hca ?_)
            | (with_reducible refine at_wpP ?_; refine wpList_allocLf rfl rfl ?_; intro gl w1 hgl b1 f1 sl; have l1 := b1.lt; have F1 := hf.thenN f1; have z1 := f1.size)
            | (with_reducible refine at_wpP ?_; refine at_st 63 _ _ rfl ?_; have q := B2; go_must (refine wpList_stLf rfl _ _ rfl gl rfl Pg0 x B2 rfl ?_; intro w3 B3 f3; have F3 := Fr.own F2 (by omega) f3))
            | (with_reducible refine at_wpP ?_; refine at_st 63 _ _ rfl ?_; go_must (refine wpList_stLf rfl _ _ rfl gl rfl Pg0 Pg0 b1 rfl ?_; intro w2 B2 f2; have F2 := Fr.own F1 (by omega) f2; have z2 := f2.size))
            | (go_at_call 35; go_must (refine (rfree_any x hx4 _).mono ?_; rintro e w4 ⟨rfl, f4⟩; rw [hb]; have F4 := F3.thenN f4; have B4 := B3.fr0 f4)))
          obtain ⟨w0, HW⟩ : ∃ w0, Hid (w4.drew = w0) := ⟨_, rfl⟩
          have f0 : Fr noB w4 w0 := by rw [← HW.out]; exact (Fr.refl _ _).drew
          have F0 := F4.thenN f0
          have P0 := hp.fr0 F0
          have B0 := B4.fr0 f0
          obtain ⟨kc0, kc1, kc2, _, _⟩ := LfB.all B0
          rw [hs1] at kc1
          rw [hs2.out] at kc2
          refine wp_region_chain_lay (by kernel_rfl) [] [none, none, none, none, none, none, none, none, none, none, none, none, none, none, none, none, none, none, none, none, none, none, none, none, none]
            [fun v => v = .int .u8 x.c, fun v => v = .int .i64 x.c, fun v => v = .pointer (some ⟨gl, 0, none⟩), fun v => v = .int .i64 x.c, fun v => v = .bool false, fun v => v = .bool false, fun v => v = ptr g, fun v => v = .int .i64 (k : Int), fun v => v = .int .i64 x.c, fun v => v = .pointer (some ⟨gl, 0, none⟩), fun v => v = .int .i64 x.c, fun v => v = .bool false, fun v => v = .bool false, fun v => v = .bool false, fun v => v = ptr g, fun v => v = .int .i64 (k : Int), fun v => v = .bool b2, fun v => v = .pointer (some ⟨gl, 1, none⟩), fun v => v = .bool false, fun v => v = .bool false, fun v => v = .pointer (some ⟨gl, 2, none⟩), fun v => v = .bool b2, fun v => v = .bool b2, fun v => v = .bool false, fun v => v = .bool false]
            (JQ w0) (HW.out) (by kernel_rfl) (by kernel_rfl) (by decide) ⟨?o0, ?o1, ?o2, ?o3, ?o4, ?o5, ?o6, ?o7, ?o8, ?o9, ?o10, ?o11, ?o12, ?o13, ?o14, ?o15, ?o16, ?o17, ?o18, ?o19, ?o20, ?o21, ?o22, ?o23, ?o24, trivial⟩ ?oe
          case o0 =>
            intro A W hv hlen hJ hbase hdL hdH
            have e8 : A.eval (.tmp 8) = .int .u8 x.c := hbase 8 (by kernel_rfl)
            have f8 : A.tmps[8]?.getD undef = .int .u8 x.c := by simpa [Act.eval] using e8
            exact light_val rfl (v := .int .u8 x.c) (by simp [execOp, e8, f8]) hJ rfl
          case o1 =>
            intro A W hv hlen hJ hbase hdL hdH
            have e30 : A.eval (.tmp 30) = .int .u8 x.c := hdL 0 30 (by kernel_rfl) (by kernel_rfl) (by kernel_rfl)
            have f30 : A.tmps[30]?.getD undef = .int .u8 x.c := by simpa [Act.eval] using e30
            exact light_val rfl (v := .int .i64 x.c) (by simp [execOp, go_sem, e30, f30, hcv]) hJ rfl
          case o2 =>
            intro A W hv hlen hJ hbase hdL hdH
            have e9 : A.eval (.tmp 9) = ptr gl := hbase 9 (by kernel_rfl)
            have f9 : A.tmps[9]?.getD undef = ptr gl := by simpa [Act.eval] using e9
            exact light_val rfl (v := .pointer (some ⟨gl, 0, none⟩)) (by simp [execOp, go_sem, e9, f9]) hJ rfl
          case o3 =>
            intro A W hv hlen hJ hbase hdL hdH
            have e32 : A.eval (.tmp 32) = .pointer (some ⟨gl, 0, none⟩) := hdL 2 32 (by kernel_rfl) (by kernel_rfl) (by kernel_rfl)
            have f32 : A.tmps[32]?.getD undef = .pointer (some ⟨gl, 0, none⟩) := by simpa [Act.eval] using e32
            have hc : W.cell? ⟨gl, 0, none⟩ = some (.int .i64 x.c) := by rw [show W = w0 from hJ]; exact kc0
            exact light_val rfl (v := .int .i64 x.c) (by simp [execOp, go_sem, e32, f32, hc]) hJ rfl
          case o4 =>
            intro A W hv hlen hJ hbase hdL hdH
            have e31 : A.eval (.tmp 31) = .int .i64 x.c := hdL 1 31 (by kernel_rfl) (by kernel_rfl) (by kernel_rfl)
            have f31 : A.tmps[31]?.getD undef = .int .i64 x.c := by simpa [Act.eval] using e31
            have e33 : A.eval (.tmp 33) = .int .i64 x.c := hdL 3 33 (by kernel_rfl) (by kernel_rfl) (by kernel_rfl)
            have f33 : A.tmps[33]?.getD undef = .int .i64 x.c := by simpa [Act.eval] using e33
            exact light_val rfl (v := .bool false) (by simp [execOp, go_sem, e31, f31, e33, f33]) hJ rfl
          case o5 =>
            intro A W hv hlen hJ hbase hdL hdH
            have e34 : A.eval (.tmp 34) = .bool false := hdL 4 34 (by kernel_rfl) (by kernel_rfl) (by kernel_rfl)
            have f34 : A.tmps[34]?.getD undef = .bool false := by simpa [Act.eval] using e34
            exact light_val rfl (v := .bool false) (by simp [execOp, e34, f34]) hJ rfl
          case o6 =>
            intro A W hv hlen hJ hbase hdL hdH
            have e0 : A.eval (.tmp 0) = ptr g := hbase 0 (by kernel_rfl)
            have f0 : A.tmps[0]?.getD undef = ptr g := by simpa [Act.eval] using e0
            have eg : A.eval (.tmp 35) = .bool false := hdL 5 35 (by kernel_rfl) (by kernel_rfl) (by kernel_rfl)
            exact light_val (wanted_of rfl (by kernel_rfl) eg) (v := ptr g) (by simp [execOp, e0, f0]) hJ rfl
          case o7 =>
            intro A W hv hlen hJ hbase hdL hdH
            have e7 : A.eval (.tmp 7) = .int .i64 (k : Int) := hbase 7 (by kernel_rfl)
            have f7 : A.tmps[7]?.getD undef = .int .i64 (k : Int) := by simpa [Act.eval] using e7
            have eg : A.eval (.tmp 35) = .bool false := hdL 5 35 (by kernel_rfl) (by kernel_rfl) (by kernel_rfl)
            exact light_val (wanted_of rfl (by kernel_rfl) eg) (v := .int .i64 (k : Int)) (by simp [execOp, e7, f7]) hJ rfl
          case o8 =>
            intro A W hv hlen hJ hbase hdL hdH
            have e36 : A.eval (.tmp 36) = ptr g := hdL 6 36 (by kernel_rfl) (by kernel_rfl) (by kernel_rfl)
            have f36 : A.tmps[36]?.getD undef = ptr g := by simpa [Act.eval] using e36
            have e37 : A.eval (.tmp 37) = .int .i64 (k : Int) := hdL 7 37 (by kernel_rfl) (by kernel_rfl) (by kernel_rfl)
            have f37 : A.tmps[37]?.getD undef = .int .i64 (k : Int) := by simpa [Act.eval] using e37
            have eg : A.eval (.tmp 35) = .bool false := hdL 5 35 (by kernel_rfl) (by kernel_rfl) (by kernel_rfl)
            refine light_callP (wanted_of rfl (by kernel_rfl) eg) (args := #[ptr g, .int .i64 (k : Int)]) (f := 30) (by simp [execOp, resolve, invoke, go_sem, e36, f36, e37, f37]) ?_
            refine (hcount.out _ (by rw [show W = w0 from hJ]; exact P0)).mono ?_
            rintro e w' ⟨rfl, rfl⟩
            exact ⟨_, rfl, hJ, rfl⟩
          case o9 =>
            intro A W hv hlen hJ hbase hdL hdH
            have e9 : A.eval (.tmp 9) = ptr gl := hbase 9 (by kernel_rfl)
            have f9 : A.tmps[9]?.getD undef = ptr gl := by simpa [Act.eval] using e9
            have eg : A.eval (.tmp 35) = .bool false := hdL 5 35 (by kernel_rfl) (by kernel_rfl) (by kernel_rfl)
            exact light_val (wanted_of rfl (by kernel_rfl) eg) (v := .pointer (some ⟨gl, 0, none⟩)) (by simp [execOp, go_sem, e9, f9]) hJ rfl
          case o10 =>
            intro A W hv hlen hJ hbase hdL hdH
            have e39 : A.eval (.tmp 39) = .pointer (some ⟨gl, 0, none⟩) := hdL 9 39 (by kernel_rfl) (by kernel_rfl) (by kernel_rfl)
            have f39 : A.tmps[39]?.getD undef = .pointer (some ⟨gl, 0, none⟩) := by simpa [Act.eval] using e39
            have eg : A.eval (.tmp 35) = .bool false := hdL 5 35 (by kernel_rfl) (by kernel_rfl) (by kernel_rfl)
            have hc : W.cell? ⟨gl, 0, none⟩ = some (.int .i64 x.c) := by rw [show W = w0 from hJ]; exact kc0
            exact light_val (wanted_of rfl (by kernel_rfl) eg) (v := .int .i64 x.c) (by simp [execOp, go_sem, e39, f39, hc]) hJ rfl
          case o11 =>
            intro A W hv hlen hJ hbase hdL hdH
            have e38 : A.eval (.tmp 38) = .int .i64 x.c := hdL 8 38 (by kernel_rfl) (by kernel_rfl) (by kernel_rfl)
            have f38 : A.tmps[38]?.getD undef = .int .i64 x.c := by simpa [Act.eval] using e38
            have e40 : A.eval (.tmp 40) = .int .i64 x.c := hdL 10 40 (by kernel_rfl) (by kernel_rfl) (by kernel_rfl)
            have f40 : A.tmps[40]?.getD undef = .int .i64 x.c := by simpa [Act.eval] using e40
            have eg : A.eval (.tmp 35) = .bool false := hdL 5 35 (by kernel_rfl) (by kernel_rfl) (by kernel_rfl)
            exact light_val (wanted_of rfl (by kernel_rfl) eg) (v := .bool false) (by simp [execOp, go_sem, e38, f38, e40, f40]) hJ rfl
          case o12 =>
            intro A W hv hlen hJ hbase hdL hdH
            have e35 : A.eval (.tmp 35) = .bool false := hdL 5 35 (by kernel_rfl) (by kernel_rfl) (by kernel_rfl)
            have f35 : A.tmps[35]?.getD undef = .bool false := by simpa [Act.eval] using e35
            have e41 : A.eval (.tmp 41) = .bool false := hdL 11 41 (by kernel_rfl) (by kernel_rfl) (by kernel_rfl)
            have f41 : A.tmps[41]?.getD undef = .bool false := by simpa [Act.eval] using e41
            exact light_val rfl (v := .bool false) (by simp [execOp, go_sem, e35, f35, e41, f41]) hJ rfl
          case o13 =>
            intro A W hv hlen hJ hbase hdL hdH
            have e42 : A.eval (.tmp 42) = .bool false := hdL 12 42 (by kernel_rfl) (by kernel_rfl) (by kernel_rfl)
            have f42 : A.tmps[42]?.getD undef = .bool false := by simpa [Act.eval] using e42
            exact light_val rfl (v := .bool false) (by simp [execOp, e42, f42]) hJ rfl
          case o14 =>
            intro A W hv hlen hJ hbase hdL hdH
            have e0 : A.eval (.tmp 0) = ptr g := hbase 0 (by kernel_rfl)
            have f0 : A.tmps[0]?.getD undef = ptr g := by simpa [Act.eval] using e0
            have eg : A.eval (.tmp 43) = .bool false := hdL 13 43 (by kernel_rfl) (by kernel_rfl) (by kernel_rfl)
            exact light_val (wanted_of rfl (by kernel_rfl) eg) (v := ptr g) (by simp [execOp, e0, f0]) hJ rfl
          case o15 =>
            intro A W hv hlen hJ hbase hdL hdH
            have e7 : A.eval (.tmp 7) = .int .i64 (k : Int) := hbase 7 (by kernel_rfl)
            have f7 : A.tmps[7]?.getD undef = .int .i64 (k : Int) := by simpa [Act.eval] using e7
            have eg : A.eval (.tmp 43) = .bool false := hdL 13 43 (by kernel_rfl) (by kernel_rfl) (by kernel_rfl)
            exact light_val (wanted_of rfl (by kernel_rfl) eg) (v := .int .i64 (k : Int)) (by simp [execOp, e7, f7]) hJ rfl
          case o16 =>
            intro A W hv hlen hJ hbase hdL hdH
            have e44 : A.eval (.tmp 44) = ptr g := hdL 14 44 (by kernel_rfl) (by kernel_rfl) (by kernel_rfl)
            have f44 : A.tmps[44]?.getD undef = ptr g := by simpa [Act.eval] using e44
            have e45 : A.eval (.tmp 45) = .int .i64 (k : Int) := hdL 15 45 (by kernel_rfl) (by kernel_rfl) (by kernel_rfl)
            have f45 : A.tmps[45]?.getD undef = .int .i64 (k : Int) := by simpa [Act.eval] using e45
            have eg : A.eval (.tmp 43) = .bool false := hdL 13 43 (by kernel_rfl) (by kernel_rfl) (by kernel_rfl)
            refine light_callP (wanted_of rfl (by kernel_rfl) eg) (args := #[ptr g, .int .i64 (k : Int)]) (f := 31) (by simp [execOp, resolve, invoke, go_sem, e44, f44, e45, f45]) ?_
            refine (hfresh.out _ (by rw [show W = w0 from hJ]; exact P0)).mono ?_
            rintro e w' ⟨rfl, rfl⟩
            exact ⟨_, rfl, hJ, rfl⟩
          case o17 =>
            intro A W hv hlen hJ hbase hdL hdH
            have e9 : A.eval (.tmp 9) = ptr gl := hbase 9 (by kernel_rfl)
            have f9 : A.tmps[9]?.getD undef = ptr gl := by simpa [Act.eval] using e9
            have eg : A.eval (.tmp 43) = .bool false := hdL 13 43 (by kernel_rfl) (by kernel_rfl) (by kernel_rfl)
            exact light_val (wanted_of rfl (by kernel_rfl) eg) (v := .pointer (some ⟨gl, 1, none⟩)) (by simp [execOp, go_sem, e9, f9]) hJ rfl
          case o18 =>
            intro A W hv hlen hJ hbase hdL hdH
            have e47 : A.eval (.tmp 47) = .pointer (some ⟨gl, 1, none⟩) := hdL 17 47 (by kernel_rfl) (by kernel_rfl) (by kernel_rfl)
            have f47 : A.tmps[47]?.getD undef = .pointer (some ⟨gl, 1, none⟩) := by simpa [Act.eval] using e47
            have eg : A.eval (.tmp 43) = .bool false := hdL 13 43 (by kernel_rfl) (by kernel_rfl) (by kernel_rfl)
            have hc : W.cell? ⟨gl, 1, none⟩ = some (.bool false) := by rw [show W = w0 from hJ]; exact kc1
            exact light_val (wanted_of rfl (by kernel_rfl) eg) (v := .bool false) (by simp [execOp, go_sem, e47, f47, hc]) hJ rfl
          case o19 =>
            intro A W hv hlen hJ hbase hdL hdH
            have e48 : A.eval (.tmp 48) = .bool false := hdL 18 48 (by kernel_rfl) (by kernel_rfl) (by kernel_rfl)
            have f48 : A.tmps[48]?.getD undef = .bool false := by simpa [Act.eval] using e48
            have eg : A.eval (.tmp 43) = .bool false := hdL 13 43 (by kernel_rfl) (by kernel_rfl) (by kernel_rfl)
            exact light_val (wanted_of rfl (by kernel_rfl) eg) (v := .bool false) (by simp [execOp, e48, f48]) hJ rfl
          case o20 =>
            intro A W hv hlen hJ hbase hdL hdH
            have e9 : A.eval (.tmp 9) = ptr gl := hbase 9 (by kernel_rfl)
            have f9 : A.tmps[9]?.getD undef = ptr gl := by simpa [Act.eval] using e9
            have eg : A.eval (.tmp 49) = .bool false := hdL 19 49 (by kernel_rfl) (by kernel_rfl) (by kernel_rfl)
            exact light_val (wanted_of rfl (by kernel_rfl) eg) (v := .pointer (some ⟨gl, 2, none⟩)) (by simp [execOp, go_sem, e9, f9]) hJ rfl
          case o21 =>
            intro A W hv hlen hJ hbase hdL hdH
            have e50 : A.eval (.tmp 50) = .pointer (some ⟨gl, 2, none⟩) := hdL 20 50 (by kernel_rfl) (by kernel_rfl) (by kernel_rfl)
            have f50 : A.tmps[50]?.getD undef = .pointer (some ⟨gl, 2, none⟩) := by simpa [Act.eval] using e50
            have eg : A.eval (.tmp 49) = .bool false := hdL 19 49 (by kernel_rfl) (by kernel_rfl) (by kernel_rfl)
            have hc : W.cell? ⟨gl, 2, none⟩ = some (.bool b2) := by rw [show W = w0 from hJ]; exact kc2
            exact light_val (wanted_of rfl (by kernel_rfl) eg) (v := .bool b2) (by simp [execOp, go_sem, e50, f50, hc]) hJ rfl
          case o22 =>
            intro A W hv hlen hJ hbase hdL hdH
            have e49 : A.eval (.tmp 49) = .bool false := hdL 19 49 (by kernel_rfl) (by kernel_rfl) (by kernel_rfl)
            have f49 : A.tmps[49]?.getD undef = .bool false := by simpa [Act.eval] using e49
            have e51 : A.eval (.tmp 51) = .bool b2 := hdL 21 51 (by kernel_rfl) (by kernel_rfl) (by kernel_rfl)
            have f51 : A.tmps[51]?.getD undef = .bool b2 := by simpa [Act.eval] using e51
            have eg : A.eval (.tmp 43) = .bool false := hdL 13 43 (by kernel_rfl) (by kernel_rfl) (by kernel_rfl)
            exact light_val (wanted_of rfl (by kernel_rfl) eg) (v := .bool b2) (by simp [execOp, go_sem, e49, f49, e51, f51]) hJ rfl
          case o23 =>
            intro A W hv hlen hJ hbase hdL hdH
            have e46 : A.eval (.tmp 46) = .bool b2 := hdL 16 46 (by kernel_rfl) (by kernel_rfl) (by kernel_rfl)
            have f46 : A.tmps[46]?.getD undef = .bool b2 := by simpa [Act.eval] using e46
            have e52 : A.eval (.tmp 52) = .bool b2 := hdL 22 52 (by kernel_rfl) (by kernel_rfl) (by kernel_rfl)
            have f52 : A.tmps[52]?.getD undef = .bool b2 := by simpa [Act.eval] using e52
            have eg : A.eval (.tmp 43) = .bool false := hdL 13 43 (by kernel_rfl) (by kernel_rfl) (by kernel_rfl)
            exact light_val (wanted_of rfl (by kernel_rfl) eg) (v := .bool false) (by simp [execOp, go_sem, e46, f46, e52, f52]) hJ rfl
          case o24 =>
            intro A W hv hlen hJ hbase hdL hdH
            have e43 : A.eval (.tmp 43) = .bool false := hdL 13 43 (by kernel_rfl) (by kernel_rfl) (by kernel_rfl)
            have f43 : A.tmps[43]?.getD undef = .bool false := by simpa [Act.eval] using e43
            have e53 : A.eval (.tmp 53) = .bool false := hdL 23 53 (by kernel_rfl) (by kernel_rfl) (by kernel_rfl)
            have f53 : A.tmps[53]?.getD undef = .bool false := by simpa [Act.eval] using e53
            exact light_val rfl (v := .bool false) (by simp [execOp, go_sem, e43, f43, e53, f53]) hJ rfl
          case oe =>
            intro vs W' hv hlen hJ hL' hH
            obtain rfl : W' = w0 := hJ
            have x54 := hL' 24 (by decide) (by rfl)
            have x54 : vs 24 = .bool false := x54
            simp only [layL, Nat.reduceAdd, Act.put, List.setIfInBounds_toArray, List.set_cons_zero, List.set_cons_succ]
            clear hL' hH
            generalize vs 0 = y100 at *
            generalize vs 1 = y101 at *
            generalize vs 2 = y102 at *
            generalize vs 3 = y103 at *
            generalize vs 4 = y104 at *
            generalize vs 5 = y105 at *
            generalize vs 6 = y106 at *
            generalize vs 7 = y107 at *
            generalize vs 8 = y108 at *
            generalize vs 9 = y109 at *
            generalize vs 10 = y110 at *
            generalize vs 11 = y111 at *
            generalize vs 12 = y112 at *
            generalize vs 13 = y113 at *
            generalize vs 14 = y114 at *
            generalize vs 15 = y115 at *
            generalize vs 16 = y116 at *
            generalize vs 17 = y117 at *
            generalize vs 18 = y118 at *
            generalize vs 19 = y119 at *
            generalize vs 20 = y120 at *
            generalize vs 21 = y121 at *
            generalize vs 22 = y122 at *
            generalize vs 23 = y123 at *
            rw [x54]
            clear x54
            go_wp2
            go_roundw
            case rel => exact ⟨k + 1, m + 1, by omega, by go_num, by go_num, hsn, F0⟩
            case measure => simp [intOf]; omega
        | false =>
          rw [hb] at hsn
          have hsn : Hid (plFree (L.take (k + 1)) = m) := hsn
          cases hs1 : (x.s == 1) with
          | true =>
            have hfresh : Hid (∀ W, PoolB W g L → Calls Try.prog 31 #[ptr g, .int .i64 (k : Int)] W fun r w' => r = .returned (.bool true) ∧ W = w') := (show ∀ W, _ from fun W h => by
              have := hfresh0 W h
              unfold Pg.frsh at this
              rw [hs1] at this
              exact this)
            clear hfresh0
            go_wp2_with (first
              | (refine at_index 50 _ _ rfl ?_; go_must (refine wpList_indexA arr_counts rfl _ _ rfl C rfl hCl.out k rfl hk240 ?_; rw [HCk.out]))
              | (with_reducible refine at_wpP ?_; refine wpList_bldLf rfl _ rfl Pg0 [] rfl built_leaf0 ?_)
              | (refine at_idx 34 _ _ rfl ?_; go_must (refine wpList_idxR rfl 34 _ _ rfl 63 Try.underlying34 5 leaf_size _ _ _ rfl (hs.fr0 F2) (by decide) _ _ k rfl rfl hlt ?_; rw [Hx.out]; intro ba oa hba hca))
              | (with_reducible refine at_wpP ?_; refine at_ld 63 _ rfl ?_; have q := B3; go_must (refine wpList_ldLf rfl _ rfl gl rfl x B3 ?_))
              | (with_reducible refine at_wpP ?_; refine at_ld 63 _ rfl ?_; have q := hca; refine wpList_ldAt rfl _ rfl ba oa rfl x hca ?_)
              | (with_reducible refine at_wpP ?_; refine wpList_allocLf rfl rfl ?_; intro gl w1 hgl b1 f1 sl; have l1 := b1.lt; have F1 := hf.thenN f1; have z1 := f1.size)
              | (with_reducible refine at_wpP ?_; refine at_st 63 _ _ rfl ?_; have q := B2; go_must (refine wpList_stLf rfl _ _ rfl gl rfl Pg0 x B2 rfl ?_; intro w3 B3 f3; have F3 := Fr.own F2 (by omega) f3))
              | (with_reducible refine at_wpP ?_; refine at_st 63 _ _ rfl ?_; go_must (refine wpList_stLf rfl _ _ rfl gl rfl Pg0 Pg0 b1 rfl ?_; intro w2 B2 f2; have F2 := Fr.own F1 (by omega) f2; have z2 := f2.size))
              | (go_at_call 35; go_must (refine (rfree_any x hx4 _).mono ?_; rintro e w4 ⟨rfl, f4⟩; rw [hb]; have F4 := F3.thenN f4; have B4 := B3.fr0 f4)))
            obtain ⟨w0, HW⟩ : ∃ w0, Hid (w4.drew = w0) := ⟨_, rfl⟩
            have f0 : Fr noB w4 w0 := by rw [← HW.out]; exact (Fr.refl _ _).drew
            have F0 := F4.thenN f0
            have P0 := hp.fr0 F0
            have B0 := B4.fr0 f0
            obtain ⟨kc0, kc1, kc2, _, _⟩ := LfB.all B0
            rw [hs1] at kc1
            refine wp_region_chain_lay (by kernel_rfl) [] [none, none, none, none, none, none, none, none, none, none, none, none, none, none, none, none, none, none, none, none, none, none, none, none, none]
              [fun v => v = .int .u8 x.c, fun v => v = .int .i64 x.c, fun v => v = .pointer (some ⟨gl, 0, none⟩), fun v => v = .int .i64 x.c, fun v => v = .bool false, fun v => v = .bool false, fun v => v = ptr g, fun v => v = .int .i64 (k : Int), fun v => v = .int .i64 x.c, fun v => v = .pointer (some ⟨gl, 0, none⟩), fun v => v = .int .i64 x.c, fun v => v = .bool false, fun v => v = .bool false, fun v => v = .bool false, fun v => v = ptr g, fun v => v = .int .i64 (k : Int), fun v => v = .bool true, fun v => v = .pointer (some ⟨gl, 1, none⟩), fun v => v = .bool true, fun v => v = .bool true, fun v => v = undef, fun v => v = undef, fun v => v = .bool true, fun v => v = .bool false, fun v => v = .bool false]
              (JQ w0) (HW.out) (by kernel_rfl) (by kernel_rfl) (by decide) ⟨?o0, ?o1, ?o2, ?o3, ?o4, ?o5, ?o6, ?o7, ?o8, ?o9, ?o10, ?o11, ?o12, ?o13, ?o14, ?o15, ?o16, ?o17, ?o18, ?o19, ?o20, ?o21, ?o22, ?o23, ?o24, trivial⟩ ?oe
            case o0 =>
              intro A W hv hlen hJ hbase hdL hdH
              have e8 : A.eval (.tmp 8) = .int .u8 x.c := hbase 8 (by kernel_rfl)
              have f8 : A.tmps[8]?.getD undef = .int .u8 x.c := by simpa [Act.eval] using e8
              exact light_val rfl (v := .int .u8 x.c) (by simp [execOp, e8, f8]) hJ rfl
            case o1 =>
              intro A W hv hlen hJ hbase hdL hdH
              have e30 : A.eval (.tmp 30) = .int .u8 x.c := hdL 0 30 (by kernel_rfl) (by kernel_rfl) (by kernel_rfl)
              have f30 : A.tmps[30]?.getD undef = .int .u8 x.c := by simpa [Act.eval] using e30
              exact light_val rfl (v := .int .i64 x.c) (by simp [execOp, go_sem, e30, f30, hcv]) hJ rfl
            case o2 =>
              intro A W hv hlen hJ hbase hdL hdH
              have e9 : A.eval (.tmp 9) = ptr gl := hbase 9 (by kernel_rfl)
              have f9 : A.tmps[9]?.getD undef = ptr gl := by simpa [Act.eval] using e9
              exact light_val rfl (v := .pointer (some ⟨gl, 0, none⟩)) (by simp [execOp, go_sem, e9, f9]) hJ rfl
            case o3 =>
              intro A W hv hlen hJ hbase hdL hdH
              have e32 : A.eval (.tmp 32) = .pointer (some ⟨gl, 0, none⟩) := hdL 2 32 (by kernel_rfl) (by kernel_rfl) (by kernel_rfl)
              have f32 : A.tmps[32]?.getD undef = .pointer (some ⟨gl, 0, none⟩) := by simpa [Act.eval] using e32
              have hc : W.cell? ⟨gl, 0, none⟩ = some (.int .i64 x.c) := by rw [show W = w0 from hJ]; exact kc0
              exact light_val rfl (v := .int .i64 x.c) (by simp [execOp, go_sem, e32, f32, hc]) hJ rfl
            case o4 =>
              intro A W hv hlen hJ hbase hdL hdH
              have e31 : A.eval (.tmp 31) = .int .i64 x.c := hdL 1 31 (by kernel_rfl) (by kernel_rfl) (by kernel_rfl)
              have f31 : A.tmps[31]?.getD undef = .int .i64 x.c := by simpa [Act.eval] using e31
              have e33 : A.eval (.tmp 33) = .int .i64 x.c := hdL 3 33 (by kernel_rfl) (by kernel_rfl) (by kernel_rfl)
              have f33 : A.tmps[33]?.getD undef = .int .i64 x.c := by simpa [Act.eval] using e33
              exact light_val rfl (v := .bool false) (by simp [execOp, go_sem, e31, f31, e33, f33]) hJ rfl
            case o5 =>
              intro A W hv hlen hJ hbase hdL hdH
              have e34 : A.eval (.tmp 34) = .bool false := hdL 4 34 (by kernel_rfl) (by kernel_rfl) (by kernel_rfl)
              have f34 : A.tmps[34]?.getD undef = .bool false := by simpa [Act.eval] using e34
              exact light_val rfl (v := .bool false) (by simp [execOp, e34, f34]) hJ rfl
            case o6 =>
              intro A W hv hlen hJ hbase hdL hdH
              have e0 : A.eval (.tmp 0) = ptr g := hbase 0 (by kernel_rfl)
              have f0 : A.tmps[0]?.getD undef = ptr g := by simpa [Act.eval] using e0
              have eg : A.eval (.tmp 35) = .bool false := hdL 5 35 (by kernel_rfl) (by kernel_rfl) (by kernel_rfl)
              exact light_val (wanted_of rfl (by kernel_rfl) eg) (v := ptr g) (by simp [execOp, e0, f0]) hJ rfl
            case o7 =>
              intro A W hv hlen hJ hbase hdL hdH
              have e7 : A.eval (.tmp 7) = .int .i64 (k : Int) := hbase 7 (by kernel_rfl)
              have f7 : A.tmps[7]?.getD undef = .int .i64 (k : Int) := by simpa [Act.eval] using e7
              have eg : A.eval (.tmp 35) = .bool false := hdL 5 35 (by kernel_rfl) (by kernel_rfl) (by kernel_rfl)
              exact light_val (wanted_of rfl (by kernel_rfl) eg) (v := .int .i64 (k : Int)) (by simp [execOp, e7, f7]) hJ rfl
            case o8 =>
              intro A W hv hlen hJ hbase hdL hdH
              have e36 : A.eval (.tmp 36) = ptr g := hdL 6 36 (by kernel_rfl) (by kernel_rfl) (by kernel_rfl)
              have f36 : A.tmps[36]?.getD undef = ptr g := by simpa [Act.eval] using e36
              have e37 : A.eval (.tmp 37) = .int .i64 (k : Int) := hdL 7 37 (by kernel_rfl) (by kernel_rfl) (by kernel_rfl)
              have f37 : A.tmps[37]?.getD undef = .int .i64 (k : Int) := by simpa [Act.eval] using e37
              have eg : A.eval (.tmp 35) = .bool false := hdL 5 35 (by kernel_rfl) (by kernel_rfl) (by kernel_rfl)
              refine light_callP (wanted_of rfl (by kernel_rfl) eg) (args := #[ptr g, .int .i64 (k : Int)]) (f := 30) (by simp [execOp, resolve, invoke, go_sem, e36, f36, e37, f37]) ?_
              refine (hcount.out _ (by rw [show W = w0 from hJ]; exact P0)).mono ?_
              rintro e w' ⟨rfl, rfl⟩
              exact ⟨_, rfl, hJ, rfl⟩
            case o9 =>
              intro A W hv hlen hJ hbase hdL hdH
              have e9 : A.eval (.tmp 9) = ptr gl := hbase 9 (by kernel_rfl)
              have f9 : A.tmps[9]?.getD undef = ptr gl := by simpa [Act.eval] using e9
              have eg : A.eval (.tmp 35) = .bool false := hdL 5 35 (by kernel_rfl) (by kernel_rfl) (by kernel_rfl)
              exact light_val (wanted_of rfl (by kernel_rfl) eg) (v := .pointer (some ⟨gl, 0, none⟩)) (by simp [execOp, go_sem, e9, f9]) hJ rfl
            case o10 =>
              intro A W hv hlen hJ hbase hdL hdH
              have e39 : A.eval (.tmp 39) = .pointer (some ⟨gl, 0, none⟩) := hdL 9 39 (by kernel_rfl) (by kernel_rfl) (by kernel_rfl)
              have f39 : A.tmps[39]?.getD undef = .pointer (some ⟨gl, 0, none⟩) := by simpa [Act.eval] using e39
              have eg : A.eval (.tmp 35) = .bool false := hdL 5 35 (by kernel_rfl) (by kernel_rfl) (by kernel_rfl)
              have hc : W.cell? ⟨gl, 0, none⟩ = some (.int .i64 x.c) := by rw [show W = w0 from hJ]; exact kc0
              exact light_val (wanted_of rfl (by kernel_rfl) eg) (v := .int .i64 x.c) (by simp [execOp, go_sem, e39, f39, hc]) hJ rfl
            case o11 =>
              intro A W hv hlen hJ hbase hdL hdH
              have e38 : A.eval (.tmp 38) = .int .i64 x.c := hdL 8 38 (by kernel_rfl) (by kernel_rfl) (by kernel_rfl)
              have f38 : A.tmps[38]?.getD undef = .int .i64 x.c := by simpa [Act.eval] using e38
              have e40 : A.eval (.tmp 40) = .int .i64 x.c := hdL 10 40 (by kernel_rfl) (by kernel_rfl) (by kernel_rfl)
              have f40 : A.tmps[40]?.getD undef = .int .i64 x.c := by simpa [Act.eval] using e40
              have eg : A.eval (.tmp 35) = .bool false := hdL 5 35 (by kernel_rfl) (by kernel_rfl) (by kernel_rfl)
              exact light_val (wanted_of rfl (by kernel_rfl) eg) (v := .bool false) (by simp [execOp, go_sem, e38, f38, e40, f40]) hJ rfl
            case o12 =>
              intro A W hv hlen hJ hbase hdL hdH
              have e35 : A.eval (.tmp 35) = .bool false := hdL 5 35 (by kernel_rfl) (by kernel_rfl) (by kernel_rfl)
              have f35 : A.tmps[35]?.getD undef = .bool false := by simpa [Act.eval] using e35
              have e41 : A.eval (.tmp 41) = .bool false := hdL 11 41 (by kernel_rfl) (by kernel_rfl) (by kernel_rfl)
              have f41 : A.tmps[41]?.getD undef = .bool false := by simpa [Act.eval] using e41
              exact light_val rfl (v := .bool false) (by simp [execOp, go_sem, e35, f35, e41, f41]) hJ rfl
            case o13 =>
              intro A W hv hlen hJ hbase hdL hdH
              have e42 : A.eval (.tmp 42) = .bool false := hdL 12 42 (by kernel_rfl) (by kernel_rfl) (by kernel_rfl)
              have f42 : A.tmps[42]?.getD undef = .bool false := by simpa [Act.eval] using e42
              exact light_val rfl (v := .bool false) (by simp [execOp, e42, f42]) hJ rfl
            case o14 =>
              intro A W hv hlen hJ hbase hdL hdH
              have e0 : A.eval (.tmp 0) = ptr g := hbase 0 (by kernel_rfl)
              have f0 : A.tmps[0]?.getD undef = ptr g := by simpa [Act.eval] using e0
              have eg : A.eval (.tmp 43) = .bool false := hdL 13 43 (by kernel_rfl) (by kernel_rfl) (by kernel_rfl)
              exact light_val (wanted_of rfl (by kernel_rfl) eg) (v := ptr g) (by simp [execOp, e0, f0]) hJ rfl
            case o15 =>
              intro A W hv hlen hJ hbase hdL hdH
              have e7 : A.eval (.tmp 7) = .int .i64 (k : Int) := hbase 7 (by kernel_rfl)
              have f7 : A.tmps[7]?.getD undef = .int .i64 (k : Int) := by simpa [Act.eval] using e7
              have eg : A.eval (.tmp 43) = .bool false := hdL 13 43 (by kernel_rfl) (by kernel_rfl) (by kernel_rfl)
              exact light_val (wanted_of rfl (by kernel_rfl) eg) (v := .int .i64 (k : Int)) (by simp [execOp, e7, f7]) hJ rfl
            case o16 =>
              intro A W hv hlen hJ hbase hdL hdH
              have e44 : A.eval (.tmp 44) = ptr g := hdL 14 44 (by kernel_rfl) (by kernel_rfl) (by kernel_rfl)
              have f44 : A.tmps[44]?.getD undef = ptr g := by simpa [Act.eval] using e44
              have e45 : A.eval (.tmp 45) = .int .i64 (k : Int) := hdL 15 45 (by kernel_rfl) (by kernel_rfl) (by kernel_rfl)
              have f45 : A.tmps[45]?.getD undef = .int .i64 (k : Int) := by simpa [Act.eval] using e45
              have eg : A.eval (.tmp 43) = .bool false := hdL 13 43 (by kernel_rfl) (by kernel_rfl) (by kernel_rfl)
              refine light_callP (wanted_of rfl (by kernel_rfl) eg) (args := #[ptr g, .int .i64 (k : Int)]) (f := 31) (by simp [execOp, resolve, invoke, go_sem, e44, f44, e45, f45]) ?_
              refine (hfresh.out _ (by rw [show W = w0 from hJ]; exact P0)).mono ?_
              rintro e w' ⟨rfl, rfl⟩
              exact ⟨_, rfl, hJ, rfl⟩
            case o17 =>
              intro A W hv hlen hJ hbase hdL hdH
              have e9 : A.eval (.tmp 9) = ptr gl := hbase 9 (by kernel_rfl)
              have f9 : A.tmps[9]?.getD undef = ptr gl := by simpa [Act.eval] using e9
              have eg : A.eval (.tmp 43) = .bool false := hdL 13 43 (by kernel_rfl) (by kernel_rfl) (by kernel_rfl)
              exact light_val (wanted_of rfl (by kernel_rfl) eg) (v := .pointer (some ⟨gl, 1, none⟩)) (by simp [execOp, go_sem, e9, f9]) hJ rfl
            case o18 =>
              intro A W hv hlen hJ hbase hdL hdH
              have e47 : A.eval (.tmp 47) = .pointer (some ⟨gl, 1, none⟩) := hdL 17 47 (by kernel_rfl) (by kernel_rfl) (by kernel_rfl)
              have f47 : A.tmps[47]?.getD undef = .pointer (some ⟨gl, 1, none⟩) := by simpa [Act.eval] using e47
              have eg : A.eval (.tmp 43) = .bool false := hdL 13 43 (by kernel_rfl) (by kernel_rfl) (by kernel_rfl)
              have hc : W.cell? ⟨gl, 1, none⟩ = some (.bool true) := by rw [show W = w0 from hJ]; exact kc1
              exact light_val (wanted_of rfl (by kernel_rfl) eg) (v := .bool true) (by simp [execOp, go_sem, e47, f47, hc]) hJ rfl
            case o19 =>
              intro A W hv hlen hJ hbase hdL hdH
              have e48 : A.eval (.tmp 48) = .bool true := hdL 18 48 (by kernel_rfl) (by kernel_rfl) (by kernel_rfl)
              have f48 : A.tmps[48]?.getD undef = .bool true := by simpa [Act.eval] using e48
              have eg : A.eval (.tmp 43) = .bool false := hdL 13 43 (by kernel_rfl) (by kernel_rfl) (by kernel_rfl)
              exact light_val (wanted_of rfl (by kernel_rfl) eg) (v := .bool true) (by simp [execOp, e48, f48]) hJ rfl
            case o20 =>
              intro A W hv hlen hJ hbase hdL hdH
              have e9 : A.eval (.tmp 9) = ptr gl := hbase 9 (by kernel_rfl)
              have f9 : A.tmps[9]?.getD undef = ptr gl := by simpa [Act.eval] using e9
              have eg : A.eval (.tmp 49) = .bool true := hdL 19 49 (by kernel_rfl) (by kernel_rfl) (by kernel_rfl)
              exact light_no (unwanted_of rfl (by kernel_rfl) eg) rfl
            case o21 =>
              intro A W hv hlen hJ hbase hdL hdH
              have e50 : A.eval (.tmp 50) = undef := hdL 20 50 (by kernel_rfl) (by kernel_rfl) (by kernel_rfl)
              have f50 : A.tmps[50]?.getD undef = undef := by simpa [Act.eval] using e50
              have eg : A.eval (.tmp 49) = .bool true := hdL 19 49 (by kernel_rfl) (by kernel_rfl) (by kernel_rfl)
              exact light_no (unwanted_of rfl (by kernel_rfl) eg) rfl
            case o22 =>
              intro A W hv hlen hJ hbase hdL hdH
              have e49 : A.eval (.tmp 49) = .bool true := hdL 19 49 (by kernel_rfl) (by kernel_rfl) (by kernel_rfl)
              have f49 : A.tmps[49]?.getD undef = .bool true := by simpa [Act.eval] using e49
              have e51 : A.eval (.tmp 51) = undef := hdL 21 51 (by kernel_rfl) (by kernel_rfl) (by kernel_rfl)
              have f51 : A.tmps[51]?.getD undef = undef := by simpa [Act.eval] using e51
              have eg : A.eval (.tmp 43) = .bool false := hdL 13 43 (by kernel_rfl) (by kernel_rfl) (by kernel_rfl)
              exact light_val (wanted_of rfl (by kernel_rfl) eg) (v := .bool true) (by simp [execOp, go_sem, e49, f49, e51, f51]) hJ rfl
            case o23 =>
              intro A W hv hlen hJ hbase hdL hdH
              have e46 : A.eval (.tmp 46) = .bool true := hdL 16 46 (by kernel_rfl) (by kernel_rfl) (by kernel_rfl)
              have f46 : A.tmps[46]?.getD undef = .bool true := by simpa [Act.eval] using e46
              have e52 : A.eval (.tmp 52) = .bool true := hdL 22 52 (by kernel_rfl) (by kernel_rfl) (by kernel_rfl)
              have f52 : A.tmps[52]?.getD undef = .bool true := by simpa [Act.eval] using e52
              have eg : A.eval (.tmp 43) = .bool false := hdL 13 43 (by kernel_rfl) (by kernel_rfl) (by kernel_rfl)
              exact light_val (wanted_of rfl (by kernel_rfl) eg) (v := .bool false) (by simp [execOp, go_sem, e46, f46, e52, f52]) hJ rfl
            case o24 =>
              intro A W hv hlen hJ hbase hdL hdH
              have e43 : A.eval (.tmp 43) = .bool false := hdL 13 43 (by kernel_rfl) (by kernel_rfl) (by kernel_rfl)
              have f43 : A.tmps[43]?.getD undef = .bool false := by simpa [Act.eval] using e43
              have e53 : A.eval (.tmp 53) = .bool false := hdL 23 53 (by kernel_rfl) (by kernel_rfl) (by kernel_rfl)
              have f53 : A.tmps[53]?.getD undef = .bool false := by simpa [Act.eval] using e53
              exact light_val rfl (v := .bool false) (by simp [execOp, go_sem, e43, f43, e53, f53]) hJ rfl
            case oe =>
              intro vs W' hv hlen hJ hL' hH
              obtain rfl : W' = w0 := hJ
              have x54 := hL' 24 (by decide) (by rfl)
              have x54 : vs 24 = .bool false := x54
              simp only [layL, Nat.reduceAdd, Act.put, List.setIfInBounds_toArray, List.set_cons_zero, List.set_cons_succ]
              clear hL' hH
              generalize vs 0 = y100 at *
              generalize vs 1 = y101 at *
              generalize vs 2 = y102 at *
              generalize vs 3 = y103 at *
              generalize vs 4 = y104 at *
              generalize vs 5 = y105 at *
              generalize vs 6 = y106 at *
              generalize vs 7 = y107 at *
              generalize vs 8 = y108 at *
              generalize vs 9 = y109 at *
              generalize vs 10 = y110 at *
              generalize vs 11 = y111 at *
              generalize vs 12 = y112 at *
              generalize vs 13 = y113 at *
              generalize vs 14 = y114 at *
              generalize vs 15 = y115 at *
              generalize vs 16 = y116 at *
              generalize vs 17 = y117 at *
              generalize vs 18 = y118 at *
              generalize vs 19 = y119 at *
              generalize vs 20 = y120 at *
              generalize vs 21 = y121 at *
              generalize vs 22 = y122 at *
              generalize vs 23 = y123 at *
              rw [x54]
              clear x54
              go_wp2
              go_roundw
              case rel => exact ⟨k + 1, m, by omega, by go_num, rfl, hsn, F0⟩
              case measure => simp [intOf]; omega
          | false =>
            obtain ⟨b2, hs2⟩ : ∃ b, Hid ((x.s == 2) = b) := ⟨_, rfl⟩
            have hfresh : Hid (∀ W, PoolB W g L → Calls Try.prog 31 #[ptr g, .int .i64 (k : Int)] W fun r w' => r = .returned (.bool b2) ∧ W = w') := (show ∀ W, _ from fun W h => by
              have := hfresh0 W h
              unfold Pg.frsh at this
              rw [hs1, hs2.out] at this
              exact this)
            clear hfresh0
            go_wp2_with (first
              | (refine at_index 50 _ _ rfl ?_; go_must (refine wpList_indexA arr_counts rfl _ _ rfl C rfl hCl.out k rfl hk240 ?_; rw [HCk.out]))
              | (with_reducible refine at_wpP ?_; refine wpList_bldLf rfl _ rfl Pg0 [] rfl built_leaf0 ?_)
              | (refine at_idx 34 _ _ rfl ?_; go_must (refine wpList_idxR rfl 34 _ _ rfl 63 Try.underlying34 5 leaf_size _ _ _ rfl (hs.fr0 F2) (by decide) _ _ k rfl rfl hlt ?_; rw [Hx.out]; intro ba oa hba hca))
              | (with_reducible refine at_wpP ?_; refine at_ld 63 _ rfl ?_; have q := B3; go_must (refine wpList_ldLf rfl _ rfl gl rfl x B3 ?_))
              | (with_reducible refine at_wpP ?_; refine at_ld 63 _ rfl ?_; have q := hca; refine wpList_ldAt rfl _ rfl ba oa rfl x hca ?_)
              | (with_reducible refine at_wpP ?_; refine wpList_allocLf rfl rfl ?_; intro gl w1 hgl b1 f1 sl; have l1 := b1.lt; have F1 := hf.thenN f1; have z1 := f1.size)
              | (with_reducible refine at_wpP ?_; refine at_st 63 _ _ rfl ?_; have q := B2; go_must (refine wpList_stLf rfl _ _ rfl gl rfl Pg0 x B2 rfl ?_; intro w3 B3 f3; have F3 := Fr.own F2 (by omega) f3))
              | (with_reducible refine at_wpP ?_; refine at_st 63 _ _ rfl ?_; go_must (refine wpList_stLf rfl _ _ rfl gl rfl Pg0 Pg0 b1 rfl ?_; intro w2 B2 f2; have F2 := Fr.own F1 (by omega) f2; have z2 := f2.size))
              | (go_at_call 35; go_must (refine (rfree_any x hx4 _).mono ?_; rintro e w4 ⟨rfl, f4⟩; rw [hb]; have F4 := F3.thenN f4; have B4 := B3.fr0 f4)))
            obtain ⟨w0, HW⟩ : ∃ w0, Hid (w4.drew = w0) := ⟨_, rfl⟩
            have f0 : Fr noB w4 w0 := by rw [← HW.out]; exact (Fr.refl _ _).drew
            have F0 := F4.thenN f0
            have P0 := hp.fr0 F0
            have B0 := B4.fr0 f0
            obtain ⟨kc0, kc1, kc2, _, _⟩ := LfB.all B0
            rw [hs1] at kc1
            rw [hs2.out] at kc2
            refine wp_region_chain_lay (by kernel_rfl) [] [none, none, none, none, none, none, none, none, none, none, none, none, none, none, none, none, none, none, none, none, none, none, none, none, none]
              [fun v => v = .int .u8 x.c, fun v => v = .int .i64 x.c, fun v => v = .pointer (some ⟨gl, 0, none⟩), fun v => v = .int .i64 x.c, fun v => v = .bool false, fun v => v = .bool false, fun v => v = ptr g, fun v => v = .int .i64 (k : Int), fun v => v = .int .i64 x.c, fun v => v = .pointer (some ⟨gl, 0, none⟩), fun v => v = .int .i64 x.c, fun v => v = .bool false, fun v => v = .bool false, fun v => v = .bool false, fun v => v = ptr g, fun v => v = .int .i64 (k : Int), fun v => v = .bool b2, fun v => v = .pointer (some ⟨gl, 1, none⟩), fun v => v = .bool false, fun v => v = .bool false, fun v => v = .pointer (some ⟨gl, 2, none⟩), fun v => v = .bool b2, fun v => v = .bool b2, fun v => v = .bool false, fun v => v = .bool false]
              (JQ w0) (HW.out) (by kernel_rfl) (by kernel_rfl) (by decide) ⟨?o0, ?o1, ?o2, ?o3, ?o4, ?o5, ?o6, ?o7, ?o8, ?o9, ?o10, ?o11, ?o12, ?o13, ?o14, ?o15, ?o16, ?o17, ?o18, ?o19, ?o20, ?o21, ?o22, ?o23, ?o24, trivial⟩ ?oe
            case o0 =>
              intro A W hv hlen hJ hbase hdL hdH
              have e8 : A.eval (.tmp 8) = .int .u8 x.c := hbase 8 (by kernel_rfl)
              have f8 : A.tmps[8]?.getD undef = .int .u8 x.c := by simpa [Act.eval] using e8
              exact light_val rfl (v := .int .u8 x.c) (by simp [execOp, e8, f8]) hJ rfl
            case o1 =>
              intro A W hv hlen hJ hbase hdL hdH
              have e30 : A.eval (.tmp 30) = .int .u8 x.c := hdL 0 30 (by kernel_rfl) (by kernel_rfl) (by kernel_rfl)
              have f30 : A.tmps[30]?.getD undef = .int .u8 x.c := by simpa [Act.eval] using e30
              exact light_val rfl (v := .int .i64 x.c) (by simp [execOp, go_sem, e30, f30, hcv]) hJ rfl
            case o2 =>
              intro A W hv hlen hJ hbase hdL hdH
              have e9 : A.eval (.tmp 9) = ptr gl := hbase 9 (by kernel_rfl)
              have f9 : A.tmps[9]?.getD undef = ptr gl := by simpa [Act.eval] using e9
              exact light_val rfl (v := .pointer (some ⟨gl, 0, none⟩)) (by simp [execOp, go_sem, e9, f9]) hJ rfl
            case o3 =>
              intro A W hv hlen hJ hbase hdL hdH
              have e32 : A.eval (.tmp 32) = .pointer (some ⟨gl, 0, none⟩) := hdL 2 32 (by kernel_rfl) (by kernel_rfl) (by kernel_rfl)
              have f32 : A.tmps[32]?.getD undef = .pointer (some ⟨gl, 0, none⟩) := by simpa [Act.eval] using e32
              have hc : W.cell? ⟨gl, 0, none⟩ = some (.int .i64 x.c) := by rw [show W = w0 from hJ]; exact kc0
              exact light_val rfl (v := .int .i64 x.c) (by simp [execOp, go_sem, e32, f32, hc]) hJ rfl
            case o4 =>
              intro A W hv hlen hJ hbase hdL hdH
              have e31 : A.eval (.tmp 31) = .int .i64 x.c := hdL 1 31 (by kernel_rfl) (by kernel_rfl) (by kernel_rfl)
              have f31 : A.tmps[31]?.getD undef = .int .i64 x.c := by simpa [Act.eval] using e31
              have e33 : A.eval (.tmp 33) = .int .i64 x.c := hdL 3 33 (by kernel_rfl) (by kernel_rfl) (by kernel_rfl)
              have f33 : A.tmps[33]?.getD undef = .int .i64 x.c := by simpa [Act.eval] using e33
              exact light_val rfl (v := .bool false) (by simp [execOp, go_sem, e31, f31, e33, f33]) hJ rfl
            case o5 =>
              intro A W hv hlen hJ hbase hdL hdH
              have e34 : A.eval (.tmp 34) = .bool false := hdL 4 34 (by kernel_rfl) (by kernel_rfl) (by kernel_rfl)
              have f34 : A.tmps[34]?.getD undef = .bool false := by simpa [Act.eval] using e34
              exact light_val rfl (v := .bool false) (by simp [execOp, e34, f34]) hJ rfl
            case o6 =>
              intro A W hv hlen hJ hbase hdL hdH
              have e0 : A.eval (.tmp 0) = ptr g := hbase 0 (by kernel_rfl)
              have f0 : A.tmps[0]?.getD undef = ptr g := by simpa [Act.eval] using e0
              have eg : A.eval (.tmp 35) = .bool false := hdL 5 35 (by kernel_rfl) (by kernel_rfl) (by kernel_rfl)
              exact light_val (wanted_of rfl (by kernel_rfl) eg) (v := ptr g) (by simp [execOp, e0, f0]) hJ rfl
            case o7 =>
              intro A W hv hlen hJ hbase hdL hdH
              have e7 : A.eval (.tmp 7) = .int .i64 (k : Int) := hbase 7 (by kernel_rfl)
              have f7 : A.tmps[7]?.getD undef = .int .i64 (k : Int) := by simpa [Act.eval] using e7
              have eg : A.eval (.tmp 35) = .bool false := hdL 5 35 (by kernel_rfl) (by kernel_rfl) (by kernel_rfl)
              exact light_val (wanted_of rfl (by kernel_rfl) eg) (v := .int .i64 (k : Int)) (by simp [execOp, e7, f7]) hJ rfl
            case o8 =>
              intro A W hv hlen hJ hbase hdL hdH
              have e36 : A.eval (.tmp 36) = ptr g := hdL 6 36 (by kernel_rfl) (by kernel_rfl) (by kernel_rfl)
              have f36 : A.tmps[36]?.getD undef = ptr g := by simpa [Act.eval] using e36
              have e37 : A.eval (.tmp 37) = .int .i64 (k : Int) := hdL 7 37 (by kernel_rfl) (by kernel_rfl) (by kernel_rfl)
              have f37 : A.tmps[37]?.getD undef = .int .i64 (k : Int) := by simpa [Act.eval] using e37
              have eg : A.eval (.tmp 35) = .bool false := hdL 5 35 (by kernel_rfl) (by kernel_rfl) (by kernel_rfl)
              refine light_callP (wanted_of rfl (by kernel_rfl) eg) (args := #[ptr g, .int .i64 (k : Int)]) (f := 30) (by simp [execOp, resolve, invoke, go_sem, e36, f36, e37, f37]) ?_
              refine (hcount.out _ (by rw [show W = w0 from hJ]; exact P0)).mono ?_
              rintro e w' ⟨rfl, rfl⟩
              exact ⟨_, rfl, hJ, rfl⟩
            case o9 =>
              intro A W hv hlen hJ hbase hdL hdH
              have e9 : A.eval (.tmp 9) = ptr gl := hbase 9 (by kernel_rfl)
              have f9 : A.tmps[9]?.getD undef = ptr gl := by simpa [Act.eval] using e9
              have eg : A.eval (.tmp 35) = .bool false := hdL 5 35 (by kernel_rfl) (by kernel_rfl) (by kernel_rfl)
              exact light_val (wanted_of rfl (by kernel_rfl) eg) (v := .pointer (some ⟨gl, 0, none⟩)) (by simp [execOp, go_sem, e9, f9]) hJ rfl
            case o10 =>
              intro A W hv hlen hJ hbase hdL hdH
              have e39 : A.eval (.tmp 39) = .pointer (some ⟨gl, 0, none⟩) := hdL 9 39 (by kernel_rfl) (by kernel_rfl) (by kernel_rfl)
              have f39 : A.tmps[39]?.getD undef = .pointer (some ⟨gl, 0, none⟩) := by simpa [Act.eval] using e39
              have eg : A.eval (.tmp 35) = .bool false := hdL 5 35 (by kernel_rfl) (by kernel_rfl) (by kernel_rfl)
              have hc : W.cell? ⟨gl, 0, none⟩ = some (.int .i64 x.c) := by rw [show W = w0 from hJ]; exact kc0
              exact light_val (wanted_of rfl (by kernel_rfl) eg) (v := .int .i64 x.c) (by simp [execOp, go_sem, e39, f39, hc]) hJ rfl
            case o11 =>
              intro A W hv hlen hJ hbase hdL hdH
              have e38 : A.eval (.tmp 38) = .int .i64 x.c := hdL 8 38 (by kernel_rfl) (by kernel_rfl) (by kernel_rfl)
              have f38 : A.tmps[38]?.getD undef = .int .i64 x.c := by simpa [Act.eval] using e38
              have e40 : A.eval (.tmp 40) = .int .i64 x.c := hdL 10 40 (by kernel_rfl) (by kernel_rfl) (by kernel_rfl)
              have f40 : A.tmps[40]?.getD undef = .int .i64 x.c := by simpa [Act.eval] using e40
              have eg : A.eval (.tmp 35) = .bool false := hdL 5 35 (by kernel_rfl) (by kernel_rfl) (by kernel_rfl)
              exact light_val (wanted_of rfl (by kernel_rfl) eg) (v := .bool false) (by simp [execOp, go_sem, e38, f38, e40, f40]) hJ rfl
            case o12 =>
              intro A W hv hlen hJ hbase hdL hdH
              have e35 : A.eval (.tmp 35) = .bool false := hdL 5 35 (by kernel_rfl) (by kernel_rfl) (by kernel_rfl)
              have f35 : A.tmps[35]?.getD undef = .bool false := by simpa [Act.eval] using e35
              have e41 : A.eval (.tmp 41) = .bool false := hdL 11 41 (by kernel_rfl) (by kernel_rfl) (by kernel_rfl)
              have f41 : A.tmps[41]?.getD undef = .bool false := by simpa [Act.eval] using e41
              exact light_val rfl (v := .bool false) (by simp [execOp, go_sem, e35, f35, e41, f41]) hJ rfl
            case o13 =>
              intro A W hv hlen hJ hbase hdL hdH
              have e42 : A.eval (.tmp 42) = .bool false := hdL 12 42 (by kernel_rfl) (by kernel_rfl) (by kernel_rfl)
              have f42 : A.tmps[42]?.getD undef = .bool false := by simpa [Act.eval] using e42
              exact light_val rfl (v := .bool false) (by simp [execOp, e42, f42]) hJ rfl
            case o14 =>
              intro A W hv hlen hJ hbase hdL hdH
              have e0 : A.eval (.tmp 0) = ptr g := hbase 0 (by kernel_rfl)
              have f0 : A.tmps[0]?.getD undef = ptr g := by simpa [Act.eval] using e0
              have eg : A.eval (.tmp 43) = .bool false := hdL 13 43 (by kernel_rfl) (by kernel_rfl) (by kernel_rfl)
              exact light_val (wanted_of rfl (by kernel_rfl) eg) (v := ptr g) (by simp [execOp, e0, f0]) hJ rfl
            case o15 =>
              intro A W hv hlen hJ hbase hdL hdH
              have e7 : A.eval (.tmp 7) = .int .i64 (k : Int) := hbase 7 (by kernel_rfl)
              have f7 : A.tmps[7]?.getD undef = .int .i64 (k : Int) := by simpa [Act.eval] using e7
              have eg : A.eval (.tmp 43) = .bool false := hdL 13 43 (by kernel_rfl) (by kernel_rfl) (by kernel_rfl)
              exact light_val (wanted_of rfl (by kernel_rfl) eg) (v := .int .i64 (k : Int)) (by simp [execOp, e7, f7]) hJ rfl
            case o16 =>
              intro A W hv hlen hJ hbase hdL hdH
              have e44 : A.eval (.tmp 44) = ptr g := hdL 14 44 (by kernel_rfl) (by kernel_rfl) (by kernel_rfl)
              have f44 : A.tmps[44]?.getD undef = ptr g := by simpa [Act.eval] using e44
              have e45 : A.eval (.tmp 45) = .int .i64 (k : Int) := hdL 15 45 (by kernel_rfl) (by kernel_rfl) (by kernel_rfl)
              have f45 : A.tmps[45]?.getD undef = .int .i64 (k : Int) := by simpa [Act.eval] using e45
              have eg : A.eval (.tmp 43) = .bool false := hdL 13 43 (by kernel_rfl) (by kernel_rfl) (by kernel_rfl)
              refine light_callP (wanted_of rfl (by kernel_rfl) eg) (args := #[ptr g, .int .i64 (k : Int)]) (f := 31) (by simp [execOp, resolve, invoke, go_sem, e44, f44, e45, f45]) ?_
              refine (hfresh.out _ (by rw [show W = w0 from hJ]; exact P0)).mono ?_
              rintro e w' ⟨rfl, rfl⟩
              exact ⟨_, rfl, hJ, rfl⟩
            case o17 =>
              intro A W hv hlen hJ hbase hdL hdH
              have e9 : A.eval (.tmp 9) = ptr gl := hbase 9 (by kernel_rfl)
              have f9 : A.tmps[9]?.getD undef = ptr gl := by simpa [Act.eval] using e9
              have eg : A.eval (.tmp 43) = .bool false := hdL 13 43 (by kernel_rfl) (by kernel_rfl) (by kernel_rfl)
              exact light_val (wanted_of rfl (by kernel_rfl) eg) (v := .pointer (some ⟨gl, 1, none⟩)) (by simp [execOp, go_sem, e9, f9]) hJ rfl
            case o18 =>
              intro A W hv hlen hJ hbase hdL hdH
              have e47 : A.eval (.tmp 47) = .pointer (some ⟨gl, 1, none⟩) := hdL 17 47 (by kernel_rfl) (by kernel_rfl) (by kernel_rfl)
              have f47 : A.tmps[47]?.getD undef = .pointer (some ⟨gl, 1, none⟩) := by simpa [Act.eval] using e47
              have eg : A.eval (.tmp 43) = .bool false := hdL 13 43 (by kernel_rfl) (by kernel_rfl) (by kernel_rfl)
              have hc : W.cell? ⟨gl, 1, none⟩ = some (.bool false) := by rw [show W = w0 from hJ]; exact kc1
              exact light_val (wanted_of rfl (by kernel_rfl) eg) (v := .bool false) (by simp [execOp, go_sem, e47, f47, hc]) hJ rfl
            case o19 =>
              intro A W hv hlen hJ hbase hdL hdH
              have e48 : A.eval (.tmp 48) = .bool false := hdL 18 48 (by kernel_rfl) (by kernel_rfl) (by kernel_rfl)
              have f48 : A.tmps[48]?.getD undef = .bool false := by simpa [Act.eval] using e48
              have eg : A.eval (.tmp 43) = .bool false := hdL 13 43 (by kernel_rfl) (by kernel_rfl) (by kernel_rfl)
              exact light_val (wanted_of rfl (by kernel_rfl) eg) (v := .bool false) (by simp [execOp, e48, f48]) hJ rfl
            case o20 =>
              intro A W hv hlen hJ hbase hdL hdH
              have e9 : A.eval (.tmp 9) = ptr gl := hbase 9 (by kernel_rfl)
              have f9 : A.tmps[9]?.getD undef = ptr gl := by simpa [Act.eval] using e9
              have eg : A.eval (.tmp 49) = .bool false := hdL 19 49 (by kernel_rfl) (by kernel_rfl) (by kernel_rfl)
              exact light_val (wanted_of rfl (by kernel_rfl) eg) (v := .pointer (some ⟨gl, 2, none⟩)) (by simp [execOp, go_sem, e9, f9]) hJ rfl
            case o21 =>
              intro A W hv hlen hJ hbase hdL hdH
              have e50 : A.eval (.tmp 50) = .pointer (some ⟨gl, 2, none⟩) := hdL 20 50 (by kernel_rfl) (by kernel_rfl) (by kernel_rfl)
              have f50 : A.tmps[50]?.getD undef = .pointer (some ⟨gl, 2, none⟩) := by simpa [Act.eval] using e50
              have eg : A.eval (.tmp 49) = .bool false := hdL 19 49 (by kernel_rfl) (by kernel_rfl) (by kernel_rfl)
              have hc : W.cell? ⟨gl, 2, none⟩ = some (.bool b2) := by rw [show W = w0 from hJ]; exact kc2
              exact light_val (wanted_of rfl (by kernel_rfl) eg) (v := .bool b2) (by simp [execOp, go_sem, e50, f50, hc]) hJ rfl
            case o22 =>
              intro A W hv hlen hJ hbase hdL hdH
              have e49 : A.eval (.tmp 49) = .bool false := hdL 19 49 (by kernel_rfl) (by kernel_rfl) (by kernel_rfl)
              have f49 : A.tmps[49]?.getD undef = .bool false := by simpa [Act.eval] using e49
              have e51 : A.eval (.tmp 51) = .bool b2 := hdL 21 51 (by kernel_rfl) (by kernel_rfl) (by kernel_rfl)
              have f51 : A.tmps[51]?.getD undef = .bool b2 := by simpa [Act.eval] using e51
              have eg : A.eval (.tmp 43) = .bool false := hdL 13 43 (by kernel_rfl) (by kernel_rfl) (by kernel_rfl)
              exact light_val (wanted_of rfl (by kernel_rfl) eg) (v := .bool b2) (by simp [execOp, go_sem, e49, f49, e51, f51]) hJ rfl
            case o23 =>
              intro A W hv hlen hJ hbase hdL hdH
              have e46 : A.eval (.tmp 46) = .bool b2 := hdL 16 46 (by kernel_rfl) (by kernel_rfl) (by kernel_rfl)
              have f46 : A.tmps[46]?.getD undef = .bool b2 := by simpa [Act.eval] using e46
              have e52 : A.eval (.tmp 52) = .bool b2 := hdL 22 52 (by kernel_rfl) (by kernel_rfl) (by kernel_rfl)
              have f52 : A.tmps[52]?.getD undef = .bool b2 := by simpa [Act.eval] using e52
              have eg : A.eval (.tmp 43) = .bool false := hdL 13 43 (by kernel_rfl) (by kernel_rfl) (by kernel_rfl)
              exact light_val (wanted_of rfl (by kernel_rfl) eg) (v := .bool false) (by simp [execOp, go_sem, e46, f46, e52, f52]) hJ rfl
            case o24 =>
              intro A W hv hlen hJ hbase hdL hdH
              have e43 : A.eval (.tmp 43) = .bool false := hdL 13 43 (by kernel_rfl) (by kernel_rfl) (by kernel_rfl)
              have f43 : A.tmps[43]?.getD undef = .bool false := by simpa [Act.eval] using e43
              have e53 : A.eval (.tmp 53) = .bool false := hdL 23 53 (by kernel_rfl) (by kernel_rfl) (by kernel_rfl)
              have f53 : A.tmps[53]?.getD undef = .bool false := by simpa [Act.eval] using e53
              exact light_val rfl (v := .bool false) (by simp [execOp, go_sem, e43, f43, e53, f53]) hJ rfl
            case oe =>
              intro vs W' hv hlen hJ hL' hH
              obtain rfl : W' = w0 := hJ
              have x54 := hL' 24 (by decide) (by rfl)
              have x54 : vs 24 = .bool false := x54
              simp only [layL, Nat.reduceAdd, Act.put, List.setIfInBounds_toArray, List.set_cons_zero, List.set_cons_succ]
              clear hL' hH
              generalize vs 0 = y100 at *
              generalize vs 1 = y101 at *
              generalize vs 2 = y102 at *
              generalize vs 3 = y103 at *
              generalize vs 4 = y104 at *
              generalize vs 5 = y105 at *
              generalize vs 6 = y106 at *
              generalize vs 7 = y107 at *
              generalize vs 8 = y108 at *
              generalize vs 9 = y109 at *
              generalize vs 10 = y110 at *
              generalize vs 11 = y111 at *
              generalize vs 12 = y112 at *
              generalize vs 13 = y113 at *
              generalize vs 14 = y114 at *
              generalize vs 15 = y115 at *
              generalize vs 16 = y116 at *
              generalize vs 17 = y117 at *
              generalize vs 18 = y118 at *
              generalize vs 19 = y119 at *
              generalize vs 20 = y120 at *
              generalize vs 21 = y121 at *
              generalize vs 22 = y122 at *
              generalize vs 23 = y123 at *
              rw [x54]
              clear x54
              go_wp2
              go_roundw
              case rel => exact ⟨k + 1, m, by omega, by go_num, rfl, hsn, F0⟩
              case measure => simp [intOf]; omega
      · have hlt' : ¬ (k : Int) < (L.length : Int) := by omega
        have hg := plAt_out L k (by omega)
        have hsn := show Hid _ from plFree_out L k (by omega)
        rw [hm.out] at hsn
        obtain ⟨x, Hx⟩ : ∃ x, Hid (Pg0 = x) := ⟨_, rfl⟩
        rw [Hx.out] at hg
        rw [hg] at hx HCk hcount0 hfresh0
        have hx4 := hx.2.2.1
        have hcv : IntKind.i64.wrap x.c = x.c := by rw [IntKind.wrap_i64]; have := hx.1; have := hx.2.1; omega
        have hcount := show Hid _ from hcount0
        have hs1 : (x.s == 1) = false := by rw [← Hx.out]; rfl
        clear hg hx hcount0
        obtain ⟨b2, hs2⟩ : ∃ b, Hid ((x.s == 2) = b) := ⟨_, rfl⟩
        have hfresh : Hid (∀ W, PoolB W g L → Calls Try.prog 31 #[ptr g, .int .i64 (k : Int)] W fun r w' => r = .returned (.bool b2) ∧ W = w') := (show ∀ W, _ from fun W h => by
          have := hfresh0 W h
          unfold Pg.frsh at this
          rw [hs1, hs2.out] at this
          exact this)
        clear hfresh0
        go_wp2_with (first
          | (refine at_index 50 _ _ rfl ?_; go_must (refine wpList_indexA arr_counts rfl _ _ rfl C rfl hCl.out k rfl hk240 ?_; rw [HCk.out]))
          | (with_reducible refine at_wpP ?_; refine wpList_bldLf rfl _ rfl x [] rfl (by rw [← Hx.out]; exact built_leaf0) ?_)
          | (with_reducible refine at_wpP ?_; refine wpList_allocLf rfl rfl ?_; intro gl w1 hgl b1 f1 sl; have l1 := b1.lt; have F1 := hf.thenN f1; have z1 := f1.size)
          | (with_reducible refine at_wpP ?_; refine at_st 63 _ _ rfl ?_; go_must (refine wpList_stLf rfl _ _ rfl gl rfl Pg0 x b1 rfl ?_; intro w2 B2 f2; have F2 := Fr.own F1 (by omega) f2; have z2 := f2.size)))
        obtain ⟨w0, HW⟩ : ∃ w0, Hid (w2.drew = w0) := ⟨_, rfl⟩
        have f0 : Fr noB w2 w0 := by rw [← HW.out]; exact (Fr.refl _ _).drew
        have F0 := F2.thenN f0
        have P0 := hp.fr0 F0
        have B0 := B2.fr0 f0
        obtain ⟨kc0, kc1, kc2, _, _⟩ := LfB.all B0
        rw [hs1] at kc1
        rw [hs2.out] at kc2
        refine wp_region_chain_lay (by kernel_rfl) [] [none, none, none, none, none, none, none, none, none, none, none, none, none, none, none, none, none, none, none, none, none, none, none, none, none]
          [fun v => v = .int .u8 x.c, fun v => v = .int .i64 x.c, fun v => v = .pointer (some ⟨gl, 0, none⟩), fun v => v = .int .i64 x.c, fun v => v = .bool false, fun v => v = .bool false, fun v => v = ptr g, fun v => v = .int .i64 (k : Int), fun v => v = .int .i64 x.c, fun v => v = .pointer (some ⟨gl, 0, none⟩), fun v => v = .int .i64 x.c, fun v => v = .bool false, fun v => v = .bool false, fun v => v = .bool false, fun v => v = ptr g, fun v => v = .int .i64 (k : Int), fun v => v = .bool b2, fun v => v = .pointer (some ⟨gl, 1, none⟩), fun v => v = .bool false, fun v => v = .bool false, fun v => v = .pointer (some ⟨gl, 2, none⟩), fun v => v = .bool b2, fun v => v = .bool b2, fun v => v = .bool false, fun v => v = .bool false]
          (JQ w0) (HW.out) (by kernel_rfl) (by kernel_rfl) (by decide) ⟨?o0, ?o1, ?o2, ?o3, ?o4, ?o5, ?o6, ?o7, ?o8, ?o9, ?o10, ?o11, ?o12, ?o13, ?o14, ?o15, ?o16, ?o17, ?o18, ?o19, ?o20, ?o21, ?o22, ?o23, ?o24, trivial⟩ ?oe
        case o0 =>
          intro A W hv hlen hJ hbase hdL hdH
          have e8 : A.eval (.tmp 8) = .int .u8 x.c := hbase 8 (by kernel_rfl)
          have f8 : A.tmps[8]?.getD undef = .int .u8 x.c := by simpa [Act.eval] using e8
          exact light_val rfl (v := .int .u8 x.c) (by simp [execOp, e8, f8]) hJ rfl
        case o1 =>
          intro A W hv hlen hJ hbase hdL hdH
          have e30 : A.eval (.tmp 30) = .int .u8 x.c := hdL 0 30 (by kernel_rfl) (by kernel_rfl) (by kernel_rfl)
          have f30 : A.tmps[30]?.getD undef = .int .u8 x.c := by simpa [Act.eval] using e30
          exact light_val rfl (v := .int .i64 x.c) (by simp [execOp, go_sem, e30, f30, hcv]) hJ rfl
        case o2 =>
          intro A W hv hlen hJ hbase hdL hdH
          have e9 : A.eval (.tmp 9) = ptr gl := hbase 9 (by kernel_rfl)
          have f9 : A.tmps[9]?.getD undef = ptr gl := by simpa [Act.eval] using e9
          exact light_val rfl (v := .pointer (some ⟨gl, 0, none⟩)) (by simp [execOp, go_sem, e9, f9]) hJ rfl
        case o3 =>
          intro A W hv hlen hJ hbase hdL hdH
          have e32 : A.eval (.tmp 32) = .pointer (some ⟨gl, 0, none⟩) := hdL 2 32 (by kernel_rfl) (by kernel_rfl) (by kernel_rfl)
          have f32 : A.tmps[32]?.getD undef = .pointer (some ⟨gl, 0, none⟩) := by simpa [Act.eval] using e32
          have hc : W.cell? ⟨gl, 0, none⟩ = some (.int .i64 x.c) := by rw [show W = w0 from hJ]; exact kc0
          exact light_val rfl (v := .int .i64 x.c) (by simp [execOp, go_sem, e32, f32, hc]) hJ rfl
        case o4 =>
          intro A W hv hlen hJ hbase hdL hdH
          have e31 : A.eval (.tmp 31) = .int .i64 x.c := hdL 1 31 (by kernel_rfl) (by kernel_rfl) (by kernel_rfl)
          have f31 : A.tmps[31]?.getD undef = .int .i64 x.c := by simpa [Act.eval] using e31
          have e33 : A.eval (.tmp 33) = .int .i64 x.c := hdL 3 33 (by kernel_rfl) (by kernel_rfl) (by kernel_rfl)
          have f33 : A.tmps[33]?.getD undef = .int .i64 x.c := by simpa [Act.eval] using e33
          exact light_val rfl (v := .bool false) (by simp [execOp, go_sem, e31, f31, e33, f33]) hJ rfl
        case o5 =>
          intro A W hv hlen hJ hbase hdL hdH
          have e34 : A.eval (.tmp 34) = .bool false := hdL 4 34 (by kernel_rfl) (by kernel_rfl) (by kernel_rfl)
          have f34 : A.tmps[34]?.getD undef = .bool false := by simpa [Act.eval] using e34
          exact light_val rfl (v := .bool false) (by simp [execOp, e34, f34]) hJ rfl
        case o6 =>
          intro A W hv hlen hJ hbase hdL hdH
          have e0 : A.eval (.tmp 0) = ptr g := hbase 0 (by kernel_rfl)
          have f0 : A.tmps[0]?.getD undef = ptr g := by simpa [Act.eval] using e0
          have eg : A.eval (.tmp 35) = .bool false := hdL 5 35 (by kernel_rfl) (by kernel_rfl) (by kernel_rfl)
          exact light_val (wanted_of rfl (by kernel_rfl) eg) (v := ptr g) (by simp [execOp, e0, f0]) hJ rfl
        case o7 =>
          intro A W hv hlen hJ hbase hdL hdH
          have e7 : A.eval (.tmp 7) = .int .i64 (k : Int) := hbase 7 (by kernel_rfl)
          have f7 : A.tmps[7]?.getD undef = .int .i64 (k : Int) := by simpa [Act.eval] using e7
          have eg : A.eval (.tmp 35) = .bool false := hdL 5 35 (by kernel_rfl) (by kernel_rfl) (by kernel_rfl)
          exact light_val (wanted_of rfl (by kernel_rfl) eg) (v := .int .i64 (k : Int)) (by simp [execOp, e7, f7]) hJ rfl
        case o8 =>
          intro A W hv hlen hJ hbase hdL hdH
          have e36 : A.eval (.tmp 36) = ptr g := hdL 6 36 (by kernel_rfl) (by kernel_rfl) (by kernel_rfl)
          have f36 : A.tmps[36]?.getD undef = ptr g := by simpa [Act.eval] using e36
          have e37 : A.eval (.tmp 37) = .int .i64 (k : Int) := hdL 7 37 (by kernel_rfl) (by kernel_rfl) (by kernel_rfl)
          have f37 : A.tmps[37]?.getD undef = .int .i64 (k : Int) := by simpa [Act.eval] using e37
          have eg : A.eval (.tmp 35) = .bool false := hdL 5 35 (by kernel_rfl) (by kernel_rfl) (by kernel_rfl)
          refine light_callP (wanted_of rfl (by kernel_rfl) eg) (args := #[ptr g, .int .i64 (k : Int)]) (f := 30) (by simp [execOp, resolve, invoke, go_sem, e36, f36, e37, f37]) ?_
          refine (hcount.out _ (by rw [show W = w0 from hJ]; exact P0)).mono ?_
          rintro e w' ⟨rfl, rfl⟩
          exact ⟨_, rfl, hJ, rfl⟩
        case o9 =>
          intro A W hv hlen hJ hbase hdL hdH
          have e9 : A.eval (.tmp 9) = ptr gl := hbase 9 (by kernel_rfl)
          have f9 : A.tmps[9]?.getD undef = ptr gl := by simpa [Act.eval] using e9
          have eg : A.eval (.tmp 35) = .bool false := hdL 5 35 (by kernel_rfl) (by kernel_rfl) (by kernel_rfl)
          exact light_val (wanted_of rfl (by kernel_rfl) eg) (v := .pointer (some ⟨gl, 0, none⟩)) (by simp [execOp, go_sem, e9, f9]) hJ rfl
        case o10 =>
          intro A W hv hlen hJ hbase hdL hdH
          have e39 : A.eval (.tmp 39) = .pointer (some ⟨gl, 0, none⟩) := hdL 9 39 (by kernel_rfl) (by kernel_rfl) (by kernel_rfl)
          have f39 : A.tmps[39]?.getD undef = .pointer (some ⟨gl, 0, none⟩) := by simpa [Act.eval] using e39
          have eg : A.eval (.tmp 35) = .bool false := hdL 5 35 (by kernel_rfl) (by kernel_rfl) (by kernel_rfl)
          have hc : W.cell? ⟨gl, 0, none⟩ = some (.int .i64 x.c) := by rw [show W = w0 from hJ]; exact kc0
          exact light_val (wanted_of rfl (by kernel_rfl) eg) (v := .int .i64 x.c) (by simp [execOp, go_sem, e39, f39, hc]) hJ rfl
        case o11 =>
          intro A W hv hlen hJ hbase hdL hdH
          have e38 : A.eval (.tmp 38) = .int .i64 x.c := hdL 8 38 (by kernel_rfl) (by kernel_rfl) (by kernel_rfl)
          have f38 : A.tmps[38]?.getD undef = .int .i64 x.c := by simpa [Act.eval] using e38
          have e40 : A.eval (.tmp 40) = .int .i64 x.c := hdL 10 40 (by kernel_rfl) (by kernel_rfl) (by kernel_rfl)
          have f40 : A.tmps[40]?.getD undef = .int .i64 x.c := by simpa [Act.eval] using e40
          have eg : A.eval (.tmp 35) = .bool false := hdL 5 35 (by kernel_rfl) (by kernel_rfl) (by kernel_rfl)
          exact light_val (wanted_of rfl (by kernel_rfl) eg) (v := .bool false) (by simp [execOp, go_sem, e38, f38, e40, f40]) hJ rfl
        case o12 =>
          intro A W hv hlen hJ hbase hdL hdH
          have e35 : A.eval (.tmp 35) = .bool false := hdL 5 35 (by kernel_rfl) (by kernel_rfl) (by kernel_rfl)
          have f35 : A.tmps[35]?.getD undef = .bool false := by simpa [Act.eval] using e35
          have e41 : A.eval (.tmp 41) = .bool false := hdL 11 41 (by kernel_rfl) (by kernel_rfl) (by kernel_rfl)
          have f41 : A.tmps[41]?.getD undef = .bool false := by simpa [Act.eval] using e41
          exact light_val rfl (v := .bool false) (by simp [execOp, go_sem, e35, f35, e41, f41]) hJ rfl
        case o13 =>
          intro A W hv hlen hJ hbase hdL hdH
          have e42 : A.eval (.tmp 42) = .bool false := hdL 12 42 (by kernel_rfl) (by kernel_rfl) (by kernel_rfl)
          have f42 : A.tmps[42]?.getD undef = .bool false := by simpa [Act.eval] using e42
          exact light_val rfl (v := .bool false) (by simp [execOp, e42, f42]) hJ rfl
        case o14 =>
          intro A W hv hlen hJ hbase hdL hdH
          have e0 : A.eval (.tmp 0) = ptr g := hbase 0 (by kernel_rfl)
          have f0 : A.tmps[0]?.getD undef = ptr g := by simpa [Act.eval] using e0
          have eg : A.eval (.tmp 43) = .bool false := hdL 13 43 (by kernel_rfl) (by kernel_rfl) (by kernel_rfl)
          exact light_val (wanted_of rfl (by kernel_rfl) eg) (v := ptr g) (by simp [execOp, e0, f0]) hJ rfl
        case o15 =>
          intro A W hv hlen hJ hbase hdL hdH
          have e7 : A.eval (.tmp 7) = .int .i64 (k : Int) := hbase 7 (by kernel_rfl)
          have f7 : A.tmps[7]?.getD undef = .int .i64 (k : Int) := by simpa [Act.eval] using e7
          have eg : A.eval (.tmp 43) = .bool false := hdL 13 43 (by kernel_rfl) (by kernel_rfl) (by kernel_rfl)
          exact light_val (wanted_of rfl (by kernel_rfl) eg) (v := .int .i64 (k : Int)) (by simp [execOp, e7, f7]) hJ rfl
        case o16 =>
          intro A W hv hlen hJ hbase hdL hdH
          have e44 : A.eval (.tmp 44) = ptr g := hdL 14 44 (by kernel_rfl) (by kernel_rfl) (by kernel_rfl)
          have f44 : A.tmps[44]?.getD undef = ptr g := by simpa [Act.eval] using e44
          have e45 : A.eval (.tmp 45) = .int .i64 (k : Int) := hdL 15 45 (by kernel_rfl) (by kernel_rfl) (by kernel_rfl)
          have f45 : A.tmps[45]?.getD undef = .int .i64 (k : Int) := by simpa [Act.eval] using e45
          have eg : A.eval (.tmp 43) = .bool false := hdL 13 43 (by kernel_rfl) (by kernel_rfl) (by kernel_rfl)
          refine light_callP (wanted_of rfl (by kernel_rfl) eg) (args := #[ptr g, .int .i64 (k : Int)]) (f := 31) (by simp [execOp, resolve, invoke, go_sem, e44, f44, e45, f45]) ?_
          refine (hfresh.out _ (by rw [show W = w0 from hJ]; exact P0)).mono ?_
          rintro e w' ⟨rfl, rfl⟩
          exact ⟨_, rfl, hJ, rfl⟩
        case o17 =>
          intro A W hv hlen hJ hbase hdL hdH
          have e9 : A.eval (.tmp 9) = ptr gl := hbase 9 (by kernel_rfl)
          have f9 : A.tmps[9]?.getD undef = ptr gl := by simpa [Act.eval] using e9
          have eg : A.eval (.tmp 43) = .bool false := hdL 13 43 (by kernel_rfl) (by kernel_rfl) (by kernel_rfl)
          exact light_val (wanted_of rfl (by kernel_rfl) eg) (v := .pointer (some ⟨gl, 1, none⟩)) (by simp [execOp, go_sem, e9, f9]) hJ rfl
        case o18 =>
          intro A W hv hlen hJ hbase hdL hdH
          have e47 : A.eval (.tmp 47) = .pointer (some ⟨gl, 1, none⟩) := hdL 17 47 (by kernel_rfl) (by kernel_rfl) (by kernel_rfl)
          have f47 : A.tmps[47]?.getD undef = .pointer (some ⟨gl, 1, none⟩) := by simpa [Act.eval] using e47
          have eg : A.eval (.tmp 43) = .bool false := hdL 13 43 (by kernel_rfl) (by kernel_rfl) (by kernel_rfl)
          have hc : W.cell? ⟨gl, 1, none⟩ = some (.bool false) := by rw [show W = w0 from hJ]; exact kc1
          exact light_val (wanted_of rfl (by kernel_rfl) eg) (v := .bool false) (by simp [execOp, go_sem, e47, f47, hc]) hJ rfl
        case o19 =>
          intro A W hv hlen hJ hbase hdL hdH
          have e48 : A.eval (.tmp 48) = .bool false := hdL 18 48 (by kernel_rfl) (by kernel_rfl) (by kernel_rfl)
          have f48 : A.tmps[48]?.getD undef = .bool false := by simpa [Act.eval] using e48
          have eg : A.eval (.tmp 43) = .bool false := hdL 13 43 (by kernel_rfl) (by kernel_rfl) (by kernel_rfl)
          exact light_val (wanted_of rfl (by kernel_rfl) eg) (v := .bool false) (by simp [execOp, e48, f48]) hJ rfl
        case o20 =>
          intro A W hv hlen hJ hbase hdL hdH
          have e9 : A.eval (.tmp 9) = ptr gl := hbase 9 (by kernel_rfl)
          have f9 : A.tmps[9]?.getD undef = ptr gl := by simpa [Act.eval] using e9
          have eg : A.eval (.tmp 49) = .bool false := hdL 19 49 (by kernel_rfl) (by kernel_rfl) (by kernel_rfl)
          exact light_val (wanted_of rfl (by kernel_rfl) eg) (v := .pointer (some ⟨gl, 2, none⟩)) (by simp [execOp, go_sem, e9, f9]) hJ rfl
        case o21 =>
          intro A W hv hlen hJ hbase hdL hdH
          have e50 : A.eval (.tmp 50) = .pointer (some ⟨gl, 2, none⟩) := hdL 20 50 (by kernel_rfl) (by kernel_rfl) (by kernel_rfl)
          have f50 : A.tmps[50]?.getD undef = .pointer (some ⟨gl, 2, none⟩) := by simpa [Act.eval] using e50
          have eg : A.eval (.tmp 49) = .bool false := hdL 19 49 (by kernel_rfl) (by kernel_rfl) (by kernel_rfl)
          have hc : W.cell? ⟨gl, 2, none⟩ = some (.bool b2) := by rw [show W = w0 from hJ]; exact kc2
          exact light_val (wanted_of rfl (by kernel_rfl) eg) (v := .bool b2) (by simp [execOp, go_sem, e50, f50, hc]) hJ rfl
        case o22 =>
          intro A W hv hlen hJ hbase hdL hdH
          have e49 : A.eval (.tmp 49) = .bool false := hdL 19 49 (by kernel_rfl) (by kernel_rfl) (by kernel_rfl)
          have f49 : A.tmps[49]?.getD undef = .bool false := by simpa [Act.eval] using e49
          have e51 : A.eval (.tmp 51) = .bool b2 := hdL 21 51 (by kernel_rfl) (by kernel_rfl) (by kernel_rfl)
          have f51 : A.tmps[51]?.getD undef = .bool b2 := by simpa [Act.eval] using e51
          have eg : A.eval (.tmp 43) = .bool false := hdL 13 43 (by kernel_rfl) (by kernel_rfl) (by kernel_rfl)
          exact light_val (wanted_of rfl (by kernel_rfl) eg) (v := .bool b2) (by simp [execOp, go_sem, e49, f49, e51, f51]) hJ rfl
        case o23 =>
          intro A W hv hlen hJ hbase hdL hdH
          have e46 : A.eval (.tmp 46) = .bool b2 := hdL 16 46 (by kernel_rfl) (by kernel_rfl) (by kernel_rfl)
          have f46 : A.tmps[46]?.getD undef = .bool b2 := by simpa [Act.eval] using e46
          have e52 : A.eval (.tmp 52) = .bool b2 := hdL 22 52 (by kernel_rfl) (by kernel_rfl) (by kernel_rfl)
          have f52 : A.tmps[52]?.getD undef = .bool b2 := by simpa [Act.eval] using e52
          have eg : A.eval (.tmp 43) = .bool false := hdL 13 43 (by kernel_rfl) (by kernel_rfl) (by kernel_rfl)
          exact light_val (wanted_of rfl (by kernel_rfl) eg) (v := .bool false) (by simp [execOp, go_sem, e46, f46, e52, f52]) hJ rfl
        case o24 =>
          intro A W hv hlen hJ hbase hdL hdH
          have e43 : A.eval (.tmp 43) = .bool false := hdL 13 43 (by kernel_rfl) (by kernel_rfl) (by kernel_rfl)
          have f43 : A.tmps[43]?.getD undef = .bool false := by simpa [Act.eval] using e43
          have e53 : A.eval (.tmp 53) = .bool false := hdL 23 53 (by kernel_rfl) (by kernel_rfl) (by kernel_rfl)
          have f53 : A.tmps[53]?.getD undef = .bool false := by simpa [Act.eval] using e53
          exact light_val rfl (v := .bool false) (by simp [execOp, go_sem, e43, f43, e53, f53]) hJ rfl
        case oe =>
          intro vs W' hv hlen hJ hL' hH
          obtain rfl : W' = w0 := hJ
          have x54 := hL' 24 (by decide) (by rfl)
          have x54 : vs 24 = .bool false := x54
          simp only [layL, Nat.reduceAdd, Act.put, List.setIfInBounds_toArray, List.set_cons_zero, List.set_cons_succ]
          clear hL' hH
          generalize vs 0 = y100 at *
          generalize vs 1 = y101 at *
          generalize vs 2 = y102 at *
          generalize vs 3 = y103 at *
          generalize vs 4 = y104 at *
          generalize vs 5 = y105 at *
          generalize vs 6 = y106 at *
          generalize vs 7 = y107 at *
          generalize vs 8 = y108 at *
          generalize vs 9 = y109 at *
          generalize vs 10 = y110 at *
          generalize vs 11 = y111 at *
          generalize vs 12 = y112 at *
          generalize vs 13 = y113 at *
          generalize vs 14 = y114 at *
          generalize vs 15 = y115 at *
          generalize vs 16 = y116 at *
          generalize vs 17 = y117 at *
          generalize vs 18 = y118 at *
          generalize vs 19 = y119 at *
          generalize vs 20 = y120 at *
          generalize vs 21 = y121 at *
          generalize vs 22 = y122 at *
          generalize vs 23 = y123 at *
          rw [x54]
          clear x54
          go_wp2
          go_roundw
          case rel => exact ⟨k + 1, m, by omega, by go_num, rfl, hsn, F0⟩
          case measure => simp [intOf]; omega
    · obtain rfl : k = 240 := by omega
      rw [List.take_of_length_le hl240] at hm
      obtain rfl : m = E := hm.out.symm.trans HE.out
      have Pw := hp.fr0 hf
      have h1 : plCount L (-1) = 0 := rfl
      have h2 : plCount L 240 = 0 := by unfold plCount plIn; rw [if_neg (by simp; omega)]
      go_wp2_with (first
        | (go_at_call 14; go_must (refine (psize_any g _ Pw).mono ?_; rintro e w' ⟨rfl, rfl⟩))
        | (go_at_call 29; go_must (refine (pfree_at hL HE.out g _ Pw).mono ?_; rintro e w' ⟨rfl, rfl⟩))
        | (go_at_call 30; have q := qc1; go_must (refine (pcount_at hL h2 g _ Pw).mono ?_; rintro e w' ⟨rfl, rfl⟩))
        | (go_at_call 30; go_must (refine (pcount_at hL h1 g _ Pw).mono ?_; rintro e w' ⟨rfl, rfl⟩; have qc1 : True := trivial)))
      go_ret
      exact ⟨rfl, hf⟩
end Go.Proofs.Ytghkpeejogldkaa
