/- Texts H18 of the proof of NodesUndo, one behind the other. -/
import Derived.Test.YtamfnjliikiifaaBundleNodesUndo1
import Derived.Test.YtamfnjliikiifaaBundleNodesUndo2
import Derived.Test.YtamfnjliikiifaaBundleNodesUndo3
import Derived.Test.YtamfnjliikiifaaBundleNodesUndo4
import Derived.Test.YtamfnjliikiifaaBundleNodesUndo5
import Derived.Test.YtamfnjliikiifaaBundleNodesUndo6
import Derived.Test.YtamfnjliikiifaaBundleNodesUndo7
import Derived.Test.YtamfnjliikiifaaBundleNodesUndo8
import Derived.Test.YtamfnjliikiifaaBundleNodesUndo9
import Derived.Test.YtamfnjliikiifaaBundleNodesUndo10
import Derived.Test.YtamfnjliikiifaaBundleNodesUndo11
import Derived.Test.YtamfnjliikiifaaBundleNodesUndo12
import Derived.Test.YtamfnjliikiifaaBundleNodesUndo13
import Derived.Test.YtamfnjliikiifaaBundleNodesUndo14
import Derived.Test.YtamfnjliikiifaaBundleNodesUndo15
import Derived.Test.YtamfnjliikiifaaBundleNodesUndo16
import Derived.Test.YtamfnjliikiifaaBundleNodesUndo17
import Derived.Test.YtamfnjliikiifaaBundleNodesUndo18
import Derived.Test.YtamfnjliikiifaaBundleNodesUndo19
import Derived.Test.YtamfnjliikiifaaBundleNodesUndo20
import Derived.Test.YtamfnjliikiifaaBundleNodesUndo21
/- NodesUndo. (Written by h18_gen.py.) -/
namespace Go.Proofs.Ytamfnjliikiifaa
open Go.RowKit Go.Proofs.U Go.Shelf Go.Maps
set_option linter.unusedSimpArgs false
set_option linter.unusedVariables false
theorem wmk_len (X : DSt) (L : List Pg) (R keys b : List Int) : (wmk X L R keys b).1.2.1.length = L.length ∧ (wmk X L R keys b).1.2.2.length ≤ R.length + 1 := by
  unfold wmk
  split
  · split
    · split
      · simp only; rw [hold_len, makeF_len, makeF_len, mark_len]; simp
      · simp only; rw [mark_len]; simp
    · simp only; rw [mark_len]; simp
  · simp only; rw [mark_len]; simp
theorem wd_old {w0 w : World} {F : Nat → Prop} {gs gp gw : Nat} {rv : Value} {X : DSt} {L : List Pg} {m : Nat} {R : List Int} (h : Wd w F gs gp gw w0.heap.size rv X L m R) (hF : ∀ k, F k → w0.heap.size ≤ k) (hp : w0.heap.size ≤ gp) (hw : w0.heap.size ≤ gw) : ∀ i, i < w0.heap.size → wdB F gp gw rv i → noB i := by
  intro i hi q
  rcases q with q | q | q | q
  · have := hF i q; omega
  · omega
  · omega
  · have := (h.row.newB i q).1; omega
theorem drop_F {F : Nat → Prop} {gs gp : Nat} {X : DSt} {L M : List Pg} {m : Nat} {e : Int} {w : World} (p : Int) (s : Sto w F gs gp X L m) (hm : m ≤ 100000) (he : dropF X (muL L + 1) L p = (M, e)) :
    Calls Try.prog 11 #[ptr gs, .int .i64 p] w fun r w' => r = .returned (.int .i64 e) ∧ Sto w' F gs gp X M m ∧ Fr (onB1 gp) w w' := by
  refine (ndrop_any hm (muL L + 1) L p w (by omega) s).mono ?_
  rw [he]
  exact fun r w' h => h
theorem counts_F {F : Nat → Prop} {gs gp : Nat} {X : DSt} {L : List Pg} {m : Nat} {C : List Int} {w : World} (s : Sto w F gs gp X L m) (hC : plCounts L = C) :
    Calls Try.prog 24 #[ptr gp] w fun r w' => r = .returned (pgV C) ∧ Fr noB w w' := by
  rw [← hC]
  exact pcounts_any gp w s.pl
set_option maxRecDepth 100000 in
set_option maxHeartbeats 16000000 in
theorem nundo_walk (n : Int) (vf : Value) (front : List ActH) (va : Value) (acts : List ActH) (w : World) (hn : (Lit.int .i64 n).wf = true) (hfr : SlH w vf front) (hac : SlH w va acts) :
    Calls Try.prog 6 #[.int .i64 n, vf, va] w fun r w' => r = .returned (.bool true) ∧ Below w.heap.size w w' := by
  obtain ⟨hA, hAok⟩ := hfr
  obtain ⟨hB, hBok⟩ := hac
  obtain ⟨af, cf, rfl, hcf⟩ := hA.opn
  obtain ⟨ab, cb, rfl, hcb⟩ := hB.opn
  by_cases c0 : n < 4
  · have d0 : decide (n < 4) = true := decide_eq_true c0
    go_enter Try.func6, Try.ntmps6
    go_wp2_with (first
      | (go_at_call 12; go_must (refine (nalive_any _).mono ?_; rintro e w1 ⟨rfl, f1⟩)))
    go_ret
    exact ⟨rfl, f1.below⟩
  · have d0 : decide (n < 4) = false := decide_eq_false c0
    by_cases c1 : (100 : Int) < n
    · have d1 : decide ((100 : Int) < n) = true := decide_eq_true c1
      go_enter Try.func6, Try.ntmps6
      go_wp2_with (first
        | (go_at_call 12; go_must (refine (nalive_any _).mono ?_; rintro e w1 ⟨rfl, f1⟩)))
      go_ret
      exact ⟨rfl, f1.below⟩
    · have d1 : decide ((100 : Int) < n) = false := decide_eq_false c1
      by_cases c2 : (30 : Int) < (front.length : Int)
      · have d2 : decide ((30 : Int) < (front.length : Int)) = true := decide_eq_true c2
        go_enter Try.func6, Try.ntmps6
        go_wp2_with (first
          | (go_at_call 12; go_must (refine (nalive_any _).mono ?_; rintro e w1 ⟨rfl, f1⟩)))
        go_ret
        exact ⟨rfl, f1.below⟩
      · have d2 : decide ((30 : Int) < (front.length : Int)) = false := decide_eq_false c2
        by_cases c3 : (30 : Int) < (acts.length : Int)
        · have d3 : decide ((30 : Int) < (acts.length : Int)) = true := decide_eq_true c3
          go_enter Try.func6, Try.ntmps6
          go_wp2_with (first
            | (go_at_call 12; go_must (refine (nalive_any _).mono ?_; rintro e w1 ⟨rfl, f1⟩)))
          go_ret
          exact ⟨rfl, f1.below⟩
        · have d3 : decide ((30 : Int) < (acts.length : Int)) = false := decide_eq_false c3
          have hmade := fun W => made_N n (by omega) W
          obtain ⟨X0, H0⟩ : ∃ X0, Hid (newD n = X0) := ⟨_, rfl⟩
          obtain ⟨L0, H1⟩ : ∃ L0, Hid (plNew (sizeN n) = L0) := ⟨_, rfl⟩
          rw [H0.out, H1.out] at hmade
          go_enter Try.func6, Try.ntmps6
          go_wp2_with (first
            | (go_at_call 12; go_must (refine (nalive_any _).mono ?_; rintro e w1 ⟨rfl, f1⟩))
            | (go_at_call 7; go_must (refine (hmade _).mono ?_; rintro e w2 ⟨gs, gp, rfl, s2⟩; have S2 := s2.base f1))
            | (with_reducible refine at_wpP ?_; refine wpList_boxG rfl 41 _ rfl (.agg #[ptr gs, nilS]) [ptr gs, nilS] rfl rfl ?_; intro gw w3 hgw b3 f3 s3; have l3 := b3.lt))
          obtain ⟨F0, sF, aF, bs, bp, D2⟩ := S2
          have ltp := sF.ltp
          have lts := sF.lts
          have zD2 := D2.size
          have bw : w.heap.size ≤ gw := by omega
          have W3 : Wd w3 F0 gs gp gw w.heap.size nilS X0 L0 0 [] :=
            { st := sF.fr0 f3, bx := b3, row := OwnR.none _ _, wf := (by intro x hx; cases hx), fw := (fun q => by have := sF.ft _ q; omega), np := (by omega), ns := (by omega), ap := (by intro k hk; cases hk) }
          have D3 := D2.thenN f3
          go_loopw [41] (fun i wr => ∃ (j : Nat) (F : Nat → Prop) (rv : Value) (X : DSt) (L : List Pg) (m : Nat) (R : List Int), j ≤ front.length ∧ i = .int .i64 (j : Int) ∧ Wd wr F gs gp gw w.heap.size rv X L m R ∧ (∀ k, F k → w.heap.size ≤ k) ∧ m ≤ 2 * j ∧ R.length ≤ j ∧ Fr noB w wr) (fun i _ => front.length - (intOf i).toNat)
          case atStart => exact ⟨0, F0, nilS, X0, L0, 0, [], by omega, rfl, W3, aF, by omega, by simp, D3⟩
          case round =>
            obtain ⟨j, F, rv, X, L, m, R, hj, rfl, hW, hF, hmj, hRj, D⟩ := hrel
            clear W3 D3 f3 b3 D2 sF aF s2 f1 hmade zD2
            have hold := wd_old hW hF bp bw
            have zD := D.size
            have ltp := hW.st.ltp
            by_cases hlt : j < front.length
            · have hlt' : (j : Int) < (front.length : Int) := by omega
              obtain ⟨x, Hx⟩ : ∃ x, Hid (front[j] = x) := ⟨front[j], (rfl : front[j] = front[j])⟩
              obtain ⟨hx0, hx1, hxS, hxl, hxb, hxk⟩ := hAok x (by rw [← Hx.out]; simp)
              have hxs : ∃ a n c, x.kv = .slice a n c := by obtain ⟨a, c, e, _⟩ := hxS.opn; exact ⟨_, _, _, e⟩
              by_cases hk : x.kind = 0
              · go_wp2_with (first
                  | (with_reducible refine at_wpP ?_; refine at_idx 37 _ _ rfl ?_; go_must (refine wpList_idxR rfl 37 _ _ rfl 43 Try.underlying37 19 act_size9 _ _ _ rfl (hA.fr0 D) (by decide) _ _ j rfl rfl hlt ?_; rw [Hx.out]; intro ba oa hba hca))
                  | (with_reducible refine at_wpP ?_; refine at_ld 43 _ rfl ?_; have qm := hca; refine wpList_ldH rfl _ rfl ba oa rfl x hxl hca ?_)
                  | (with_reducible refine at_wpP ?_; refine wpList_alH rfl rfl ?_; intro ga w1 hga b1 f1 sa; have l1 := b1.lt; have z1 := f1.size)
                  | (with_reducible refine at_wpP ?_; refine at_st 43 _ _ rfl ?_; go_must (refine wpList_stH rfl _ _ rfl ga rfl act0 x b1 act0_len hxl hxs rfl ?_; intro w2 b2 f2; have F2 := Fr.ownX f1 sa f2; have z2 := F2.size; have l2 := b2.lt; obtain ⟨q0, q1⟩ := b2.all; rw [show x.kind = 0 from hk] at q0))
                  | (with_reducible refine at_wpP ?_; refine at_ld 43 _ rfl ?_; have qm := b2; refine wpList_ldHb rfl _ rfl ga rfl x hxl b2 ?_)
                  | (go_at_call 14; go_must (refine (wmake_any x _ (hW.fr0 F2) (by omega) (by omega) (by omega) hxl hxb hxk (fun w' f => hxS.fr0 ((D.thenN F2).thenT f hold))).mono ?_; rintro e w5 ⟨F', rv', rfl, W5, hF5, hr5, f5⟩)))
                go_roundw
                case rel =>
                  have hwl := wmk_len X L R x.keys x.blk
                  exact ⟨j + 1, F', rv', _, _, m + 2, _, by omega, by go_num, W5, (fun k hk => by rcases hF5 k hk with q | q; exact hF k q; omega), by omega, by omega, (D.thenN F2).thenT f5 hold⟩
                case measure => simp [intOf]; omega
              · have hk' : (x.kind == 0) = false := by simpa using hk
                go_wp2_with (first
                  | (with_reducible refine at_wpP ?_; refine at_idx 37 _ _ rfl ?_; go_must (refine wpList_idxR rfl 37 _ _ rfl 43 Try.underlying37 19 act_size9 _ _ _ rfl (hA.fr0 D) (by decide) _ _ j rfl rfl hlt ?_; rw [Hx.out]; intro ba oa hba hca))
                  | (with_reducible refine at_wpP ?_; refine at_ld 43 _ rfl ?_; have qm := hca; refine wpList_ldH rfl _ rfl ba oa rfl x hxl hca ?_)
                  | (with_reducible refine at_wpP ?_; refine wpList_alH rfl rfl ?_; intro ga w1 hga b1 f1 sa; have l1 := b1.lt; have z1 := f1.size)
                  | (with_reducible refine at_wpP ?_; refine at_st 43 _ _ rfl ?_; go_must (refine wpList_stH rfl _ _ rfl ga rfl act0 x b1 act0_len hxl hxs rfl ?_; intro w2 b2 f2; have F2 := Fr.ownX f1 sa f2; have z2 := F2.size; have l2 := b2.lt; obtain ⟨q0, q1⟩ := b2.all; skip)))
                go_roundw
                case rel => exact ⟨j + 1, F, rv, X, L, m, R, by omega, by go_num, hW.fr0 F2, hF, by omega, by omega, D.thenN F2⟩
                case measure => simp [intOf]; omega
            · obtain rfl : j = front.length := by omega
              have hlt' : ¬ (front.length : Int) < (front.length : Int) := by omega
              have hmark := nmark_any _ hW.st
              have hokM := mark_ok hW.st.ok
              obtain ⟨M, HM⟩ : ∃ M, Hid (plMark L = M) := ⟨_, rfl⟩
              rw [HM.out] at hmark hokM
              obtain ⟨C, HC⟩ : ∃ C, Hid (plCounts M = C) := ⟨_, rfl⟩
              have hCl : Hid (C.length = 240) := by show _ = _; rw [← HC.out]; exact plCounts_len M
              obtain ⟨E, HE⟩ : ∃ E, Hid (((plFree M : Nat) : Int) = E) := ⟨_, rfl⟩
              obtain ⟨k0, k1⟩ := wd_cells hW
              have hnp := hW.np
              have lgw := hW.bx.lt
              have hft := hW.st.ft
              go_wp2_with (first
                | (go_at_call 20; go_must (refine hmark.mono ?_; rintro e w20 ⟨gm, rfl, sgm, pm, s20, f20⟩; have lgm := pm.lt; have z20 := f20.size; have k020 := f20.cell k0 (fun q => hnp q)))
                | (go_at_call 15; have qm := s24; go_must (refine (npool_any _ s24).mono ?_; rintro e w24' ⟨rfl, rfl⟩))
                | (go_at_call 15; go_must (refine (npool_any _ s20).mono ?_; rintro e w20' ⟨rfl, rfl⟩))
                | (go_at_call 24; go_must (refine (counts_F s20 HC.out).mono ?_; rintro e w21 ⟨rfl, f21⟩; have z21 := f21.size; have k021 := f21.cell k020 (fun q => q)))
                | (with_reducible refine at_wpP ?_; refine wpList_allocA arr_counts rfl rfl ?_; intro g11 w22 hg11 b22 f22 r22; have z22 := f22.size; have l22 := b22.lt; have k022 := f22.cell k021 (fun q => q))
                | (with_reducible refine at_wpP ?_; refine at_st 57 _ _ rfl ?_; go_must (refine wpList_storeA arr_counts rfl _ _ rfl g11 rfl C rfl _ b22 hCl.out (zerB_len 240) ?_; intro w24 b24 f24; have z24 := f24.size; have F24 := f21.thenN (Fr.ownX f22 r22 f24); have s24 := s20.fr0 F24; have pm24 := pm.fr0 F24; have k024 := F24.cell k020 (fun q => q); have D24 := (D.thenT f20 (fun i hi q => by unfold onB1 at q; omega)).thenN F24; have W24 := (hW.pl f20 s20).fr0 F24))
                | (go_at_call 18; go_must (refine (free_F s24 HE.out).mono ?_; rintro e w25 ⟨rfl, rfl⟩)))
              have nFm : ¬ F gm := fun q => by have := hft _ q; omega
              have nF11 : ¬ F g11 := fun q => by have := hft _ q; omega
              have lgm2 := pm24.lt
              have l24 := b24.lt
              have hm60 : m ≤ 60 := by omega
              have hR30 : R.length ≤ 30 := by omega
              have ngm : gm ≠ gp := by omega
              have ng11 : g11 ≠ gp := by omega
              have hwf := hW.wf
              go_loopw [13] (fun i wr => ∃ (t : Nat) (F : Nat → Prop) (X : DSt) (m : Nat), t ≤ 2 ∧ i = .int .i64 (t : Int) ∧ Wd wr F gs gp gw w.heap.size rv X M m R ∧ PoolB wr gm M ∧ BxV wr g11 57 (pgv C) ∧ (∀ k, F k → w.heap.size ≤ k) ∧ ¬ F gm ∧ ¬ F g11 ∧ m ≤ 60 + 60 * t ∧ Fr noB w wr) (fun i _ => 2 - (intOf i).toNat)
              case atStart => exact ⟨0, F, X, m, by omega, rfl, W24, pm24, b24, hF, nFm, nF11, by omega, D24⟩
              case round =>
                clear W24 pm24 b24 nFm nF11 D24 hmark hold hW hF hmj hRj D s24 f24 F24 b22 f22 s20 f20 pm f21 k0 k1 k020 k021 k022 k024
                obtain ⟨t, F, X, m, ht, rfl, hW, pm, b11, hF, nFm, nF11, hmt, D⟩ := hrel
                have hold := wd_old hW hF bp bw
                have zD := D.size
                have ltp := hW.st.ltp
                have lts := hW.st.lts
                have lgw := hW.bx.lt
                have lgm := pm.lt
                have l11 := b11.lt
                have hft := hW.st.ft
                have hnp := hW.np
                have nstm : ¬ stB F gp gm := fun q => by rcases q with q | q; exact nFm q; exact ngm q
                have nst11 : ¬ stB F gp g11 := fun q => by rcases q with q | q; exact nF11 q; exact ng11 q
                have nstw : ¬ stB F gp gw := fun q => by rcases q with q | q; exact hW.fw q; exact hnp q
                obtain ⟨k0, k1⟩ := wd_cells hW
                by_cases hlt2 : t < 2
                · have hlt2' : (t : Int) < 2 := by omega
                  have hrowr := hW.row
                  obtain ⟨ar, cr, rfl⟩ := hrowr.opn
                  go_wp2_with fail
                  obtain ⟨w0k, HWk⟩ : ∃ w0, Hid (wr.drew = w0) := ⟨_, rfl⟩
                  have f0k : Fr noB wr w0k := by rw [← HWk.out]; exact (Fr.refl _ _).drew
                  have z0k := f0k.size
                  have k00 := f0k.cell k0 (fun q => q)
                  have k10 := f0k.cell k1 (fun q => q)
                  have rowk := hrowr.fr0 f0k
                  refine wp_region_chain_layT (by kernel_rfl) [4, 9, 10, 11, 12] [none, none, none, none, some 0, none, none, none, none, some 1, some 2, some 3, some 4]
                    [fun v => v = ptr gw, fun v => v = ptr gw, fun v => v = .pointer (some ⟨gw, 0, none⟩), fun v => v = ptr gs, fun _ => True, fun v => v = ptr gw, fun v => v = ptr gw, fun v => v = .pointer (some ⟨gw, 1, none⟩), fun v => v = .slice ar R.length cr, fun _ => True, fun _ => True, fun _ => True, fun _ => True]
                    (JKW w0k gs R) (HWk.out) (by kernel_rfl) (by kernel_rfl) (by decide) ⟨?o0, ?o1, ?o2, ?o3, ?o4, ?o5, ?o6, ?o7, ?o8, ?o9, ?o10, ?o11, ?o12, trivial⟩ ?oe
                  case o0 =>
                    intro A W hv hlen hJ hbase hdL hdH
                    have e7 : A.eval (.tmp 7) = ptr gw := hbase 7 (by kernel_rfl)
                    have f7 : A.tmps[7]?.getD undef = ptr gw := by simpa [Act.eval] using e7
                    exact light_val rfl (v := ptr gw) (by simp [execOp, e7, f7]) hJ rfl
                  case o1 =>
                    intro A W hv hlen hJ hbase hdL hdH
                    have e73 : A.eval (.tmp 73) = ptr gw := hdL 0 73 (by kernel_rfl) (by kernel_rfl) (by kernel_rfl)
                    have f73 : A.tmps[73]?.getD undef = ptr gw := by simpa [Act.eval] using e73
                    exact light_val rfl (v := ptr gw) (by simp [execOp, go_sem, e73, f73]) hJ rfl
                  case o2 =>
                    intro A W hv hlen hJ hbase hdL hdH
                    have e74 : A.eval (.tmp 74) = ptr gw := hdL 1 74 (by kernel_rfl) (by kernel_rfl) (by kernel_rfl)
                    have f74 : A.tmps[74]?.getD undef = ptr gw := by simpa [Act.eval] using e74
                    exact light_val rfl (v := .pointer (some ⟨gw, 0, none⟩)) (by simp [execOp, go_sem, e74, f74]) hJ rfl
                  case o3 =>
                    intro A W hv hlen hJ hbase hdL hdH
                    have e75 : A.eval (.tmp 75) = .pointer (some ⟨gw, 0, none⟩) := hdL 2 75 (by kernel_rfl) (by kernel_rfl) (by kernel_rfl)
                    have f75 : A.tmps[75]?.getD undef = .pointer (some ⟨gw, 0, none⟩) := by simpa [Act.eval] using e75
                    have hc := (JKW.fr hJ).cell k00 (fun q => q)
                    exact light_val rfl (v := ptr gs) (by simp [execOp, go_sem, e75, f75, hc]) hJ rfl
                  case o4 =>
                    intro A W hv hlen hJ hbase hdL hdH
                    obtain rfl : hv = [] := List.eq_nil_of_length_eq_zero hlen
                    obtain rfl := (show W = _ from hJ)
                    exact heavy_val rfl (v := .slice (some ⟨W.heap.size, 0, none⟩) 0 0) (w' := W.alloc (.cells #[] 3)) (by simp [execOp, go_sem]) ⟨rfl, rfl⟩
                  case o5 =>
                    intro A W hv hlen hJ hbase hdL hdH
                    have e7 : A.eval (.tmp 7) = ptr gw := hbase 7 (by kernel_rfl)
                    have f7 : A.tmps[7]?.getD undef = ptr gw := by simpa [Act.eval] using e7
                    exact light_val rfl (v := ptr gw) (by simp [execOp, e7, f7]) hJ rfl
                  case o6 =>
                    intro A W hv hlen hJ hbase hdL hdH
                    have e78 : A.eval (.tmp 78) = ptr gw := hdL 5 78 (by kernel_rfl) (by kernel_rfl) (by kernel_rfl)
                    have f78 : A.tmps[78]?.getD undef = ptr gw := by simpa [Act.eval] using e78
                    exact light_val rfl (v := ptr gw) (by simp [execOp, go_sem, e78, f78]) hJ rfl
                  case o7 =>
                    intro A W hv hlen hJ hbase hdL hdH
                    have e79 : A.eval (.tmp 79) = ptr gw := hdL 6 79 (by kernel_rfl) (by kernel_rfl) (by kernel_rfl)
                    have f79 : A.tmps[79]?.getD undef = ptr gw := by simpa [Act.eval] using e79
                    exact light_val rfl (v := .pointer (some ⟨gw, 1, none⟩)) (by simp [execOp, go_sem, e79, f79]) hJ rfl
                  case o8 =>
                    intro A W hv hlen hJ hbase hdL hdH
                    have e80 : A.eval (.tmp 80) = .pointer (some ⟨gw, 1, none⟩) := hdL 7 80 (by kernel_rfl) (by kernel_rfl) (by kernel_rfl)
                    have f80 : A.tmps[80]?.getD undef = .pointer (some ⟨gw, 1, none⟩) := by simpa [Act.eval] using e80
                    have hc := (JKW.fr hJ).cell k10 (fun q => q)
                    exact light_val rfl (v := .slice ar R.length cr) (by simp [execOp, go_sem, e80, f80, hc]) hJ rfl
                  case o9 =>
                    intro A W hv hlen hJ hbase hdL hdH
                    have e81 : A.eval (.tmp 81) = .slice ar R.length cr := hdL 8 81 (by kernel_rfl) (by kernel_rfl) (by kernel_rfl)
                    have f81 : A.tmps[81]?.getD undef = .slice ar R.length cr := by simpa [Act.eval] using e81
                    obtain ⟨v77, rfl⟩ := List.length_eq_one_iff.1 hlen
                    obtain ⟨rfl, rfl⟩ := hJ
                    have e77 : A.eval (.tmp 77) = .slice (some ⟨w0k.heap.size, 0, none⟩) 0 0 := by have := hdH 4 77 0 (by kernel_rfl) rfl (by kernel_rfl); simpa using this.symm
                    refine heavy_wp rfl ?_
                    have f1 : Fr noB w0k (w0k.alloc (.cells #[] 3)) := (Fr.refl _ _).alloc _
                    refine wp_appN (ec := en64) (sz := 1) (base := w0k.heap.size) (.tmp 77) (.tmp 81) 39 rfl _ 8 Try.underlying39 info_int rfl (by decide) _ e77 (OwnR.empty w0k _ (Nat.le_refl _)) _ R e81 (rowk.fr0 f1).sl (by intro y hy u hu; simp at hu; subst hu; rfl) (by unfold maxLen; simp; omega) (by simp; omega) f1.size ?_
                    intro v' w' hO' hg'
                    exact ⟨v', rfl, by simpa using hO', f1.grown hg' (fun k hk hlt => by cases hk; exact absurd hlt (Nat.lt_irrefl _))⟩
                  case o10 =>
                    intro A W hv hlen hJ hbase hdL hdH
                    have e76 : A.eval (.tmp 76) = ptr gs := hdL 3 76 (by kernel_rfl) (by kernel_rfl) (by kernel_rfl)
                    have f76 : A.tmps[76]?.getD undef = ptr gs := by simpa [Act.eval] using e76
                    match hv, hlen with
                    | [x77, v82], _ =>
                      obtain ⟨hO', hf'⟩ := hJ
                      have e82 : A.eval (.tmp 82) = v82 := by have := hdH 9 82 1 (by kernel_rfl) rfl (by kernel_rfl); simpa using this.symm
                      have f82 : A.tmps[82]?.getD undef = v82 := by simpa [Act.eval] using e82
                      obtain ⟨a6, c6, hv6⟩ := hO'.opn
                      have hr : (Instr.build 41 #[(0, ptr gs), (1, v82)]).run Try.prog W = .ok (.agg #[ptr gs, v82]) W := run_build (P := Try.prog) W 41 #[(0, ptr gs), (1, v82)] _ (by subst hv6; kernel_rfl)
                      exact heavy_val rfl (v := .agg #[ptr gs, v82]) (by simp [execOp, e76, e82, hr, Result.andThen]) ⟨hO', hf', rfl⟩
                  case o11 =>
                    intro A W hv hlen hJ hbase hdL hdH
                    match hv, hlen with
                    | [x77, v82, u83], _ =>
                      obtain ⟨hO', hf', rfl⟩ := hJ
                      have e83 : A.eval (.tmp 83) = .agg #[ptr gs, v82] := by have := hdH 10 83 2 (by kernel_rfl) rfl (by kernel_rfl); simpa using this.symm
                      have f83 : A.tmps[83]?.getD undef = .agg #[ptr gs, v82] := by simpa [Act.eval] using e83
                      refine heavy_val rfl (v := ptr W.heap.size) (w' := W.alloc (.cells #[ptr gs, v82] 41)) (by simp [execOp, go_sem, e83, f83, Value.cells]) ⟨W.heap.size, rfl, hf'.size, heap_alloc_new W _, hO'.fr0 ((Fr.refl _ _).alloc _), hf'.alloc _, fun k hk => ?_⟩
                      have := (hO'.newB k hk).2
                      omega
                  case o12 =>
                    intro A W hv hlen hJ hbase hdL hdH
                    match hv, hlen with
                    | [x77, v82, u83, p84], _ =>
                      obtain ⟨g, rfl, h1, h2, h3, h4, h5⟩ := hJ
                      have e84 : A.eval (.tmp 84) = ptr g := by have := hdH 11 84 3 (by kernel_rfl) rfl (by kernel_rfl); simpa using this.symm
                      have f84 : A.tmps[84]?.getD undef = ptr g := by simpa [Act.eval] using e84
                      exact heavy_val rfl (v := ptr g) (by simp [execOp, go_sem, e84, f84]) ⟨g, rfl, h1, h2, h3, h4, h5⟩
                  case oe =>
                    intro vs W'k hv hlen hJ hL hH
                    match hv, hlen with
                    | [y77, vk, u83, p84, p14], _ =>
                      obtain ⟨gk, rfl, sgk, bk, rk, fk, nk⟩ := hJ
                      have x12 : vs 12 = ptr gk := by have := hH 4 12 rfl (by kernel_rfl); simpa using this.symm
                      simp only [layL, Nat.reduceAdd, Act.put, List.setIfInBounds_toArray, List.set_cons_zero, List.set_cons_succ, x12]
                      clear hL hH x12
                      generalize vs 0 = y100 at *
                      generalize vs 1 = y101 at *
                      generalize vs 2 = y102 at *
                      generalize vs 3 = y103 at *
                      generalize vs 4 = y104 at *
                      generalize vs 5 = y105 at *
                      generalize vs 6 = y106 at *
                      generalize vs 7 = y107 at *
                      generalize vs 8 = y108 at *
                      generalize vs 9 = y109 at *
                      generalize vs 10 = y110 at *
                      generalize vs 11 = y111 at *
                      have zk := fk.size
                      have lgk := bk.lt
                      have Wk : Wd W'k F gs gp gk w0k.heap.size vk X M m R :=
                        { st := (hW.st.fr0 f0k).fr0 fk, bx := bk, row := rk, wf := hwf, fw := (fun q => by have := hft _ q; omega), np := (by omega), ns := (by omega),
                          ap := (fun k hk => by have h1 := (rk.newB k hk).1; exact ⟨fun q => (by have := hft _ q; omega), by omega, by omega, nk k hk⟩) }
                      have fkS : Fr (stB F gp) w0k W'k := fk.mono (fun _ _ q => q.elim)
                      go_wp2_with fail
                      go_loopw [87] (fun i wq => ∃ (j : Nat) (F' : Nat → Prop) (rv' : Value) (X' : DSt) (L' : List Pg) (m' : Nat) (R' : List Int), j ≤ acts.length ∧ i = .int .i64 (j : Int) ∧ Wd wq F' gs gp gk w0k.heap.size rv' X' L' m' R' ∧ (∀ k, F' k → F k ∨ w0k.heap.size ≤ k) ∧ Hid (M.length = L'.length) ∧ m' ≤ m + 2 * j ∧ R'.length ≤ 30 + j ∧ Fr (stB F gp) w0k wq) (fun i _ => acts.length - (intOf i).toNat)
                      case atStart => exact ⟨0, F, vk, X, M, m, R, by omega, rfl, Wk, fun k q => Or.inl q, rfl, by omega, by omega, fkS⟩
                      case round =>
                        clear Wk bk rk fk nk fkS
                        obtain ⟨j, F', rv', X', L', m', R', hj, rfl, hW', hF', hl', hm', hR', hf⟩ := hrel
                        have hft' := hW'.st.ft
                        have ltp' := hW'.st.ltp
                        have zf := hf.size
                        have lgk' := hW'.bx.lt
                        have hnp' := hW'.np
                        have hns' := hW'.ns
                        have Dq := (D.thenN f0k).thenT hf (fun i hi q => hold i hi (stB_wdB i q))
                        have hold' : ∀ i, i < w0k.heap.size → wdB F' gp gk rv' i → stB F gp i := by
                          intro i hi q
                          rcases q with q | q | q | q
                          · rcases hF' i q with q | q
                            · exact Or.inl q
                            · omega
                          · exact Or.inr q
                          · omega
                          · have := (hW'.row.newB i q).1; omega
                        have holdP : ∀ i, i < w0k.heap.size → onB1 gp i → stB F gp i := fun i _ q => Or.inr q
                        obtain ⟨k0', k1'⟩ := wd_cells hW'
                        by_cases hlt : j < acts.length
                        · have hlt' : (j : Int) < (acts.length : Int) := by omega
                          obtain ⟨x, Hx⟩ : ∃ x, Hid (acts[j] = x) := ⟨acts[j], (rfl : acts[j] = acts[j])⟩
                          obtain ⟨hx0, hx1, hxS, hxl, hxb, hxk⟩ := hBok x (by rw [← Hx.out]; simp)
                          have hxs : ∃ a n c, x.kv = .slice a n c := by obtain ⟨a, c, e, _⟩ := hxS.opn; exact ⟨_, _, _, e⟩
                          by_cases hk0 : x.kind = 0
                          · have hk := hk0
                            go_wp2_with (first
                              | (with_reducible refine at_wpP ?_; refine at_idx 37 _ _ rfl ?_; go_must (refine wpList_idxR rfl 37 _ _ rfl 43 Try.underlying37 19 act_size9 _ _ _ rfl (hB.fr0 Dq) (by decide) _ _ j rfl rfl hlt ?_; rw [Hx.out]; intro ba oa hba hca))
                              | (with_reducible refine at_wpP ?_; refine at_ld 43 _ rfl ?_; have qm := hca; refine wpList_ldH rfl _ rfl ba oa rfl x hxl hca ?_)
                              | (with_reducible refine at_wpP ?_; refine wpList_alH rfl rfl ?_; intro ga w1 hga b1 f1 sa; have l1 := b1.lt; have z1 := f1.size)
                              | (with_reducible refine at_wpP ?_; refine at_st 43 _ _ rfl ?_; go_must (refine wpList_stH rfl _ _ rfl ga rfl act0 x b1 act0_len hxl hxs rfl ?_; intro w2 b2 f2; have F2 := Fr.ownX f1 sa f2; have z2 := F2.size; have l2 := b2.lt; obtain ⟨q0, q1⟩ := b2.all; rw [show x.kind = 0 from hk] at q0))
                              | (with_reducible refine at_wpP ?_; refine at_ld 43 _ rfl ?_; have qm := b2; refine wpList_ldHb rfl _ rfl ga rfl x hxl b2 ?_)
                              | (go_at_call 14; go_must (refine (wmake_any x _ (hW'.fr0 F2) (by omega) (by omega) (by omega) hxl hxb hxk (fun w' f => hxS.fr0 ((Dq.thenN F2).thenT f (fun i hi q => hold i hi (stB_wdB i (hold' i (by omega) q)))))).mono ?_; rintro e w5 ⟨F5, rv5, rfl, W5, hF5, hr5, f5⟩)))
                            go_roundw
                            case rel =>
                              have hwl := wmk_len X' L' R' x.keys x.blk
                              exact ⟨j + 1, F5, rv5, _, _, m' + 2, _, by omega, by go_num, W5, (fun k hk => by rcases hF5 k hk with q | q; exact hF' k q; exact Or.inr (by omega)), hl'.out.trans hwl.1.symm, by omega, by omega, (hf.thenN F2).thenT f5 hold'⟩
                            case measure => simp [intOf]; omega
                          · have hk0' : (x.kind == 0) = false := by simpa using hk0
                            by_cases hk1 : x.kind = 1
                            · have hk := hk1
                              have hrow' := hW'.row
                              obtain ⟨a', c', rfl⟩ := hrow'.opn
                              by_cases hR0 : 0 < R'.length
                              · have hdR' : (0 : Int) < (R'.length : Int) := by omega
                                obtain ⟨q, hq, hqR⟩ : ∃ q : Nat, max 0 (min x.at' ((R'.length : Int) - 1)) = (q : Int) ∧ q < R'.length := ⟨(max 0 (min x.at' ((R'.length : Int) - 1))).toNat, by omega, by omega⟩
                                have hq := show Hid _ from hq
                                have hwrp : Hid (IntKind.i64.wrap ((R'.length : Int) - 1) = (R'.length : Int) - 1) := wrap_sm (by omega)
                                obtain ⟨y, Hy⟩ : ∃ y, Hid (R'[q] = y) := ⟨R'[q], (rfl : R'[q] = R'[q])⟩
                                go_wp2_with (first
                                  | (with_reducible refine at_wpP ?_; refine at_idx 37 _ _ rfl ?_; go_must (refine wpList_idxR rfl 37 _ _ rfl 43 Try.underlying37 19 act_size9 _ _ _ rfl (hB.fr0 Dq) (by decide) _ _ j rfl rfl hlt ?_; rw [Hx.out]; intro ba oa hba hca))
                                  | (with_reducible refine at_wpP ?_; refine at_ld 43 _ rfl ?_; have qm := hca; refine wpList_ldH rfl _ rfl ba oa rfl x hxl hca ?_)
                                  | (with_reducible refine at_wpP ?_; refine wpList_alH rfl rfl ?_; intro ga w1 hga b1 f1 sa; have l1 := b1.lt; have z1 := f1.size)
                                  | (with_reducible refine at_wpP ?_; refine at_st 43 _ _ rfl ?_; go_must (refine wpList_stH rfl _ _ rfl ga rfl act0 x b1 act0_len hxl hxs rfl ?_; intro w2 b2 f2; have F2 := Fr.ownX f1 sa f2; have z2 := F2.size; have l2 := b2.lt; obtain ⟨q0, q1⟩ := b2.all; rw [show x.kind = 1 from hk] at q0; have k02 := F2.cell k0' (fun q => q); have k12 := F2.cell k1' (fun q => q))))
                                have W2 := hW'.fr0 F2
                                have hroW := W2.row
                                obtain ⟨br, orr, cr', hve, hcel⟩ := hroW.sl.addr (by decide) hR0
                                cases hve
                                have hkq : w2.cell? ⟨br, orr + q, none⟩ = some (.int .i64 y) := by have := hcel q hqR 0 (.int .i64 y) (by rw [Hy.out]; rfl); rwa [Nat.mul_one] at this
                                have hbrw := W2.ap br rfl
                                obtain ⟨L5, e5, hdr⟩ : ∃ L5 e5, dropF X' (muL L' + 1) L' y = (L5, e5) := ⟨_, _, rfl⟩
                                have hl5 : Hid (M.length = L5.length) := by
                                  have := dropF_len (X := X') (muL L' + 1) L' y
                                  rw [hdr] at this
                                  exact hl'.out.trans this.symm
                                obtain ⟨w0d, HWd⟩ : ∃ w0, Hid (w2.drew = w0) := ⟨_, rfl⟩
                                have f0d : Fr noB w2 w0d := by rw [← HWd.out]; exact (Fr.refl _ _).drew
                                have z0d := f0d.size
                                have k0d := f0d.cell k02 (fun q => q)
                                have k1d := f0d.cell k12 (fun q => q)
                                have q1d := f0d.cell q1 (fun q => q)
                                have kqd := f0d.cell hkq (fun q => q)
                                have nPk : ¬ onB1 gp gk := fun q => hnp' q
                                have nPa : ¬ onB1 gp ga := fun q => by unfold onB1 at q; omega
                                have nPb : ¬ onB1 gp br := fun q => hbrw.2.1 q
                                refine wp_region_chain_layT (by kernel_rfl) [20] [none, none, none, none, none, none, none, none, none, none, none, none, none, none, none, none, none, none, none, none, some 0]
                                  [fun v => v = ptr gk, fun v => v = ptr gk, fun v => v = .pointer (some ⟨gk, 0, none⟩), fun v => v = ptr gs, fun v => v = ptr gk, fun v => v = ptr gk, fun v => v = .pointer (some ⟨gk, 1, none⟩), fun v => v = .slice (some ⟨br, orr, none⟩) R'.length c', fun v => v = .pointer (some ⟨ga, 1, none⟩), fun v => v = .int .i64 x.at', fun v => v = ptr gk, fun v => v = ptr gk, fun v => v = .pointer (some ⟨gk, 1, none⟩), fun v => v = .slice (some ⟨br, orr, none⟩) R'.length c', fun v => v = .int .i64 (R'.length : Int), fun v => v = .int .i64 ((R'.length : Int) - 1), fun v => v = .int .i64 (min x.at' ((R'.length : Int) - 1)), fun v => v = .int .i64 (q : Int), fun v => v = .pointer (some ⟨br, orr + q, none⟩), fun v => v = .int .i64 y, fun _ => True]
                                  (JSW w0d (onB1 gp) (.int .i64 e5) (fun W => Sto W F' gs gp X' L5 m')) (HWd.out) (by kernel_rfl) (by kernel_rfl) (by decide) ⟨?o0, ?o1, ?o2, ?o3, ?o4, ?o5, ?o6, ?o7, ?o8, ?o9, ?o10, ?o11, ?o12, ?o13, ?o14, ?o15, ?o16, ?o17, ?o18, ?o19, ?o20, trivial⟩ ?oe
                                case o0 =>
                                  intro A W hv hlen hJ hbase hdL hdH
                                  have e14 : A.eval (.tmp 14) = ptr gk := hbase 14 (by kernel_rfl)
                                  have f14 : A.tmps[14]?.getD undef = ptr gk := by simpa [Act.eval] using e14
                                  exact light_val rfl (v := ptr gk) (by simp [execOp, e14, f14]) hJ rfl
                                case o1 =>
                                  intro A W hv hlen hJ hbase hdL hdH
                                  have e106 : A.eval (.tmp 106) = ptr gk := hdL 0 106 (by kernel_rfl) (by kernel_rfl) (by kernel_rfl)
                                  have f106 : A.tmps[106]?.getD undef = ptr gk := by simpa [Act.eval] using e106
                                  exact light_val rfl (v := ptr gk) (by simp [execOp, go_sem, e106, f106]) hJ rfl
                                case o2 =>
                                  intro A W hv hlen hJ hbase hdL hdH
                                  have e107 : A.eval (.tmp 107) = ptr gk := hdL 1 107 (by kernel_rfl) (by kernel_rfl) (by kernel_rfl)
                                  have f107 : A.tmps[107]?.getD undef = ptr gk := by simpa [Act.eval] using e107
                                  exact light_val rfl (v := .pointer (some ⟨gk, 0, none⟩)) (by simp [execOp, go_sem, e107, f107]) hJ rfl
                                case o3 =>
                                  intro A W hv hlen hJ hbase hdL hdH
                                  have e108 : A.eval (.tmp 108) = .pointer (some ⟨gk, 0, none⟩) := hdL 2 108 (by kernel_rfl) (by kernel_rfl) (by kernel_rfl)
                                  have f108 : A.tmps[108]?.getD undef = .pointer (some ⟨gk, 0, none⟩) := by simpa [Act.eval] using e108
                                  have hc := (JSW.fr hJ).cell k0d (nPk)
                                  exact light_val rfl (v := ptr gs) (by simp [execOp, go_sem, e108, f108, hc]) hJ rfl
                                case o4 =>
                                  intro A W hv hlen hJ hbase hdL hdH
                                  have e14 : A.eval (.tmp 14) = ptr gk := hbase 14 (by kernel_rfl)
                                  have f14 : A.tmps[14]?.getD undef = ptr gk := by simpa [Act.eval] using e14
                                  exact light_val rfl (v := ptr gk) (by simp [execOp, e14, f14]) hJ rfl
                                case o5 =>
                                  intro A W hv hlen hJ hbase hdL hdH
                                  have e110 : A.eval (.tmp 110) = ptr gk := hdL 4 110 (by kernel_rfl) (by kernel_rfl) (by kernel_rfl)
                                  have f110 : A.tmps[110]?.getD undef = ptr gk := by simpa [Act.eval] using e110
                                  exact light_val rfl (v := ptr gk) (by simp [execOp, go_sem, e110, f110]) hJ rfl
                                case o6 =>
                                  intro A W hv hlen hJ hbase hdL hdH
                                  have e111 : A.eval (.tmp 111) = ptr gk := hdL 5 111 (by kernel_rfl) (by kernel_rfl) (by kernel_rfl)
                                  have f111 : A.tmps[111]?.getD undef = ptr gk := by simpa [Act.eval] using e111
                                  exact light_val rfl (v := .pointer (some ⟨gk, 1, none⟩)) (by simp [execOp, go_sem, e111, f111]) hJ rfl
                                case o7 =>
                                  intro A W hv hlen hJ hbase hdL hdH
                                  have e112 : A.eval (.tmp 112) = .pointer (some ⟨gk, 1, none⟩) := hdL 6 112 (by kernel_rfl) (by kernel_rfl) (by kernel_rfl)
                                  have f112 : A.tmps[112]?.getD undef = .pointer (some ⟨gk, 1, none⟩) := by simpa [Act.eval] using e112
                                  have hc := (JSW.fr hJ).cell k1d (nPk)
                                  exact light_val rfl (v := .slice (some ⟨br, orr, none⟩) R'.length c') (by simp [execOp, go_sem, e112, f112, hc]) hJ rfl
                                case o8 =>
                                  intro A W hv hlen hJ hbase hdL hdH
                                  have e16 : A.eval (.tmp 16) = ptr ga := hbase 16 (by kernel_rfl)
                                  have f16 : A.tmps[16]?.getD undef = ptr ga := by simpa [Act.eval] using e16
                                  exact light_val rfl (v := .pointer (some ⟨ga, 1, none⟩)) (by simp [execOp, go_sem, e16, f16]) hJ rfl
                                case o9 =>
                                  intro A W hv hlen hJ hbase hdL hdH
                                  have e114 : A.eval (.tmp 114) = .pointer (some ⟨ga, 1, none⟩) := hdL 8 114 (by kernel_rfl) (by kernel_rfl) (by kernel_rfl)
                                  have f114 : A.tmps[114]?.getD undef = .pointer (some ⟨ga, 1, none⟩) := by simpa [Act.eval] using e114
                                  have hc := (JSW.fr hJ).cell q1d (nPa)
                                  exact light_val rfl (v := .int .i64 x.at') (by simp [execOp, go_sem, e114, f114, hc]) hJ rfl
                                case o10 =>
                                  intro A W hv hlen hJ hbase hdL hdH
                                  have e14 : A.eval (.tmp 14) = ptr gk := hbase 14 (by kernel_rfl)
                                  have f14 : A.tmps[14]?.getD undef = ptr gk := by simpa [Act.eval] using e14
                                  exact light_val rfl (v := ptr gk) (by simp [execOp, e14, f14]) hJ rfl
                                case o11 =>
                                  intro A W hv hlen hJ hbase hdL hdH
                                  have e116 : A.eval (.tmp 116) = ptr gk := hdL 10 116 (by kernel_rfl) (by kernel_rfl) (by kernel_rfl)
                                  have f116 : A.tmps[116]?.getD undef = ptr gk := by simpa [Act.eval] using e116
                                  exact light_val rfl (v := ptr gk) (by simp [execOp, go_sem, e116, f116]) hJ rfl
                                case o12 =>
                                  intro A W hv hlen hJ hbase hdL hdH
                                  have e117 : A.eval (.tmp 117) = ptr gk := hdL 11 117 (by kernel_rfl) (by kernel_rfl) (by kernel_rfl)
                                  have f117 : A.tmps[117]?.getD undef = ptr gk := by simpa [Act.eval] using e117
                                  exact light_val rfl (v := .pointer (some ⟨gk, 1, none⟩)) (by simp [execOp, go_sem, e117, f117]) hJ rfl
                                case o13 =>
                                  intro A W hv hlen hJ hbase hdL hdH
                                  have e118 : A.eval (.tmp 118) = .pointer (some ⟨gk, 1, none⟩) := hdL 12 118 (by kernel_rfl) (by kernel_rfl) (by kernel_rfl)
                                  have f118 : A.tmps[118]?.getD undef = .pointer (some ⟨gk, 1, none⟩) := by simpa [Act.eval] using e118
                                  have hc := (JSW.fr hJ).cell k1d (nPk)
                                  exact light_val rfl (v := .slice (some ⟨br, orr, none⟩) R'.length c') (by simp [execOp, go_sem, e118, f118, hc]) hJ rfl
                                case o14 =>
                                  intro A W hv hlen hJ hbase hdL hdH
                                  have e119 : A.eval (.tmp 119) = .slice (some ⟨br, orr, none⟩) R'.length c' := hdL 13 119 (by kernel_rfl) (by kernel_rfl) (by kernel_rfl)
                                  have f119 : A.tmps[119]?.getD undef = .slice (some ⟨br, orr, none⟩) R'.length c' := by simpa [Act.eval] using e119
                                  exact light_val rfl (v := .int .i64 (R'.length : Int)) (by simp [execOp, resolve, invoke, builtin, Builtin.len_, go_sem, e119, f119]) hJ rfl
                                case o15 =>
                                  intro A W hv hlen hJ hbase hdL hdH
                                  have e120 : A.eval (.tmp 120) = .int .i64 (R'.length : Int) := hdL 14 120 (by kernel_rfl) (by kernel_rfl) (by kernel_rfl)
                                  have f120 : A.tmps[120]?.getD undef = .int .i64 (R'.length : Int) := by simpa [Act.eval] using e120
                                  exact light_val rfl (v := .int .i64 ((R'.length : Int) - 1)) (by simp [execOp, go_sem, e120, f120, hwrp.out]) hJ rfl
                                case o16 =>
                                  intro A W hv hlen hJ hbase hdL hdH
                                  have e115 : A.eval (.tmp 115) = .int .i64 x.at' := hdL 9 115 (by kernel_rfl) (by kernel_rfl) (by kernel_rfl)
                                  have f115 : A.tmps[115]?.getD undef = .int .i64 x.at' := by simpa [Act.eval] using e115
                                  have e121 : A.eval (.tmp 121) = .int .i64 ((R'.length : Int) - 1) := hdL 15 121 (by kernel_rfl) (by kernel_rfl) (by kernel_rfl)
                                  have f121 : A.tmps[121]?.getD undef = .int .i64 ((R'.length : Int) - 1) := by simpa [Act.eval] using e121
                                  exact light_val rfl (v := .int .i64 (min x.at' ((R'.length : Int) - 1))) (by simp [execOp, resolve, invoke, builtin, go_sem, e115, f115, e121, f121]) hJ rfl
                                case o17 =>
                                  intro A W hv hlen hJ hbase hdL hdH
                                  have e122 : A.eval (.tmp 122) = .int .i64 (min x.at' ((R'.length : Int) - 1)) := hdL 16 122 (by kernel_rfl) (by kernel_rfl) (by kernel_rfl)
                                  have f122 : A.tmps[122]?.getD undef = .int .i64 (min x.at' ((R'.length : Int) - 1)) := by simpa [Act.eval] using e122
                                  exact light_val rfl (v := .int .i64 (q : Int)) (by rw [← hq.out]; simp [execOp, resolve, invoke, builtin, go_sem, e122, f122]) hJ rfl
                                case o18 =>
                                  intro A W hv hlen hJ hbase hdL hdH
                                  have e113 : A.eval (.tmp 113) = .slice (some ⟨br, orr, none⟩) R'.length c' := hdL 7 113 (by kernel_rfl) (by kernel_rfl) (by kernel_rfl)
                                  have f113 : A.tmps[113]?.getD undef = .slice (some ⟨br, orr, none⟩) R'.length c' := by simpa [Act.eval] using e113
                                  have e123 : A.eval (.tmp 123) = .int .i64 (q : Int) := hdL 17 123 (by kernel_rfl) (by kernel_rfl) (by kernel_rfl)
                                  have f123 : A.tmps[123]?.getD undef = .int .i64 (q : Int) := by simpa [Act.eval] using e123
                                  have hr := (by have := run_idxS (P := Try.prog) (w := W) 39 3 Try.underlying39 int_size1 br orr R'.length c' .i64 q hqR; rwa [Nat.mul_one] at this)
                                  exact light_val rfl (v := .pointer (some ⟨br, orr + q, none⟩)) (by simp [execOp, e113, e123, hr, Result.andThen]) hJ rfl
                                case o19 =>
                                  intro A W hv hlen hJ hbase hdL hdH
                                  have e124 : A.eval (.tmp 124) = .pointer (some ⟨br, orr + q, none⟩) := hdL 18 124 (by kernel_rfl) (by kernel_rfl) (by kernel_rfl)
                                  have f124 : A.tmps[124]?.getD undef = .pointer (some ⟨br, orr + q, none⟩) := by simpa [Act.eval] using e124
                                  have hc := (JSW.fr hJ).cell kqd (nPb)
                                  exact light_val rfl (v := .int .i64 y) (by simp [execOp, go_sem, e124, f124, hc]) hJ rfl
                                case o20 =>
                                  intro A W hv hlen hJ hbase hdL hdH
                                  have e109 : A.eval (.tmp 109) = ptr gs := hdL 3 109 (by kernel_rfl) (by kernel_rfl) (by kernel_rfl)
                                  have f109 : A.tmps[109]?.getD undef = ptr gs := by simpa [Act.eval] using e109
                                  have e125 : A.eval (.tmp 125) = .int .i64 y := hdL 19 125 (by kernel_rfl) (by kernel_rfl) (by kernel_rfl)
                                  have f125 : A.tmps[125]?.getD undef = .int .i64 y := by simpa [Act.eval] using e125
                                  obtain rfl : hv = [] := List.eq_nil_of_length_eq_zero hlen
                                  obtain rfl := (show W = _ from hJ)
                                  refine heavy_call rfl (args := #[ptr gs, .int .i64 y]) (f := 11) (by simp [execOp, resolve, invoke, go_sem, e109, f109, e125, f125]) ?_
                                  refine (drop_F y (W2.st.fr0 f0d) (by omega) hdr).mono ?_
                                  rintro e w' ⟨rfl, s, f⟩
                                  exact ⟨_, rfl, rfl, s, f⟩
                                case oe =>
                                  intro vs W'd hv hlen hJ hL hH
                                  have x0 : vs 0 = ptr gk := hL 0 (by kernel_rfl) (by kernel_rfl)
                                  have x1 : vs 1 = ptr gk := hL 1 (by kernel_rfl) (by kernel_rfl)
                                  have x2 : vs 2 = .pointer (some ⟨gk, 0, none⟩) := hL 2 (by kernel_rfl) (by kernel_rfl)
                                  have x3 : vs 3 = ptr gs := hL 3 (by kernel_rfl) (by kernel_rfl)
                                  have x4 : vs 4 = ptr gk := hL 4 (by kernel_rfl) (by kernel_rfl)
                                  have x5 : vs 5 = ptr gk := hL 5 (by kernel_rfl) (by kernel_rfl)
                                  have x6 : vs 6 = .pointer (some ⟨gk, 1, none⟩) := hL 6 (by kernel_rfl) (by kernel_rfl)
                                  have x7 : vs 7 = .slice (some ⟨br, orr, none⟩) R'.length c' := hL 7 (by kernel_rfl) (by kernel_rfl)
                                  have x8 : vs 8 = .pointer (some ⟨ga, 1, none⟩) := hL 8 (by kernel_rfl) (by kernel_rfl)
                                  have x9 : vs 9 = .int .i64 x.at' := hL 9 (by kernel_rfl) (by kernel_rfl)
                                  have x10 : vs 10 = ptr gk := hL 10 (by kernel_rfl) (by kernel_rfl)
                                  have x11 : vs 11 = ptr gk := hL 11 (by kernel_rfl) (by kernel_rfl)
                                  have x12 : vs 12 = .pointer (some ⟨gk, 1, none⟩) := hL 12 (by kernel_rfl) (by kernel_rfl)
                                  have x13 : vs 13 = .slice (some ⟨br, orr, none⟩) R'.length c' := hL 13 (by kernel_rfl) (by kernel_rfl)
                                  have x14 : vs 14 = .int .i64 (R'.length : Int) := hL 14 (by kernel_rfl) (by kernel_rfl)
                                  have x15 : vs 15 = .int .i64 ((R'.length : Int) - 1) := hL 15 (by kernel_rfl) (by kernel_rfl)
                                  have x16 : vs 16 = .int .i64 (min x.at' ((R'.length : Int) - 1)) := hL 16 (by kernel_rfl) (by kernel_rfl)
                                  have x17 : vs 17 = .int .i64 (q : Int) := hL 17 (by kernel_rfl) (by kernel_rfl)
                                  have x18 : vs 18 = .pointer (some ⟨br, orr + q, none⟩) := hL 18 (by kernel_rfl) (by kernel_rfl)
                                  have x19 : vs 19 = .int .i64 y := hL 19 (by kernel_rfl) (by kernel_rfl)
                                  have x20 : vs 20 = .int .i64 e5 := JSW.val hJ (hH 0 20 rfl (by kernel_rfl))
                                  simp only [layL, Nat.reduceAdd, Act.put, List.setIfInBounds_toArray, List.set_cons_zero, List.set_cons_succ, x0, x1, x2, x3, x4, x5, x6, x7, x8, x9, x10, x11, x12, x13, x14, x15, x16, x17, x18, x19, x20]
                                  clear x0 x1 x2 x3 x4 x5 x6 x7 x8 x9 x10 x11 x12 x13 x14 x15 x16 x17 x18 x19 x20 hL hH
                                  obtain ⟨hQd, fQd⟩ := JSW.end hJ hlen
                                  clear hJ hlen
                                  have Fd : Fr (onB1 gp) w2 W'd := (f0d.mono (fun _ _ q => q.elim)).trans fQd
                                  go_wp2
                                  go_roundw
                                  case rel => exact ⟨j + 1, F', _, X', L5, m', R', by omega, by go_num, W2.pl Fd hQd, hF', hl5, by omega, by omega, (hf.thenN F2).thenT Fd holdP⟩
                                  case measure => simp [intOf]; omega
                              · have hdR' : ¬ (0 : Int) < (R'.length : Int) := by omega
                                go_wp2_with (first
                                  | (with_reducible refine at_wpP ?_; refine at_idx 37 _ _ rfl ?_; go_must (refine wpList_idxR rfl 37 _ _ rfl 43 Try.underlying37 19 act_size9 _ _ _ rfl (hB.fr0 Dq) (by decide) _ _ j rfl rfl hlt ?_; rw [Hx.out]; intro ba oa hba hca))
                                  | (with_reducible refine at_wpP ?_; refine at_ld 43 _ rfl ?_; have qm := hca; refine wpList_ldH rfl _ rfl ba oa rfl x hxl hca ?_)
                                  | (with_reducible refine at_wpP ?_; refine wpList_alH rfl rfl ?_; intro ga w1 hga b1 f1 sa; have l1 := b1.lt; have z1 := f1.size)
                                  | (with_reducible refine at_wpP ?_; refine at_st 43 _ _ rfl ?_; go_must (refine wpList_stH rfl _ _ rfl ga rfl act0 x b1 act0_len hxl hxs rfl ?_; intro w2 b2 f2; have F2 := Fr.ownX f1 sa f2; have z2 := F2.size; have l2 := b2.lt; obtain ⟨q0, q1⟩ := b2.all; rw [show x.kind = 1 from hk] at q0; have k02 := F2.cell k0' (fun q => q); have k12 := F2.cell k1' (fun q => q))))
                                go_roundw
                                case rel => exact ⟨j + 1, F', _, X', L', m', R', by omega, by go_num, hW'.fr0 F2, hF', hl', by omega, by omega, hf.thenN F2⟩
                                case measure => simp [intOf]; omega
                            · have hk1' : (x.kind == 1) = false := by simpa using hk1
                              by_cases hk2 : x.kind = 2
                              · have hk := hk2
                                obtain ⟨L5, e5, hho⟩ : ∃ L5 e5, plHold L' (max 0 (min x.at' 200)) = (L5, e5) := ⟨_, _, rfl⟩
                                have hl5 : Hid (M.length = L5.length) := by
                                  have := hold_len L' (max 0 (min x.at' 200))
                                  rw [hho] at this
                                  exact hl'.out.trans this.symm
                                obtain ⟨q, hq⟩ : ∃ q, Hid (max 0 (min x.at' 200) = q) := ⟨_, rfl⟩
                                rw [hq.out] at hho
                                go_wp2_with (first
                                  | (with_reducible refine at_wpP ?_; refine at_idx 37 _ _ rfl ?_; go_must (refine wpList_idxR rfl 37 _ _ rfl 43 Try.underlying37 19 act_size9 _ _ _ rfl (hB.fr0 Dq) (by decide) _ _ j rfl rfl hlt ?_; rw [Hx.out]; intro ba oa hba hca))
                                  | (with_reducible refine at_wpP ?_; refine at_ld 43 _ rfl ?_; have qm := hca; refine wpList_ldH rfl _ rfl ba oa rfl x hxl hca ?_)
                                  | (with_reducible refine at_wpP ?_; refine wpList_alH rfl rfl ?_; intro ga w1 hga b1 f1 sa; have l1 := b1.lt; have z1 := f1.size)
                                  | (with_reducible refine at_wpP ?_; refine at_st 43 _ _ rfl ?_; go_must (refine wpList_stH rfl _ _ rfl ga rfl act0 x b1 act0_len hxl hxs rfl ?_; intro w2 b2 f2; have F2 := Fr.ownX f1 sa f2; have z2 := F2.size; have l2 := b2.lt; obtain ⟨q0, q1⟩ := b2.all; rw [show x.kind = 2 from hk] at q0; have k02 := F2.cell k0' (fun q => q))))
                                have W2 := hW'.fr0 F2
                                obtain ⟨w0h, HWh⟩ : ∃ w0, Hid (w2.drew = w0) := ⟨_, rfl⟩
                                have f0h : Fr noB w2 w0h := by rw [← HWh.out]; exact (Fr.refl _ _).drew
                                have z0h := f0h.size
                                have k0h := f0h.cell k02 (fun q => q)
                                have q1h := f0h.cell q1 (fun q => q)
                                have nPk : ¬ onB1 gp gk := fun q => hnp' q
                                have nPa : ¬ onB1 gp ga := fun q => by unfold onB1 at q; omega
                                refine wp_region_chain_layT (by kernel_rfl) [8] [none, none, none, none, none, none, none, none, some 0]
                                  [fun v => v = ptr gk, fun v => v = ptr gk, fun v => v = .pointer (some ⟨gk, 0, none⟩), fun v => v = ptr gs, fun v => v = .pointer (some ⟨ga, 1, none⟩), fun v => v = .int .i64 x.at', fun v => v = .int .i64 (min x.at' 200), fun v => v = .int .i64 q, fun _ => True]
                                  (JSW w0h (onB1 gp) (.int .i64 e5) (fun W => Sto W F' gs gp X' L5 m')) (HWh.out) (by kernel_rfl) (by kernel_rfl) (by decide) ⟨?o0, ?o1, ?o2, ?o3, ?o4, ?o5, ?o6, ?o7, ?o8, trivial⟩ ?oe
                                case o0 =>
                                  intro A W hv hlen hJ hbase hdL hdH
                                  have e14 : A.eval (.tmp 14) = ptr gk := hbase 14 (by kernel_rfl)
                                  have f14 : A.tmps[14]?.getD undef = ptr gk := by simpa [Act.eval] using e14
                                  exact light_val rfl (v := ptr gk) (by simp [execOp, e14, f14]) hJ rfl
                                case o1 =>
                                  intro A W hv hlen hJ hbase hdL hdH
                                  have e129 : A.eval (.tmp 129) = ptr gk := hdL 0 129 (by kernel_rfl) (by kernel_rfl) (by kernel_rfl)
                                  have f129 : A.tmps[129]?.getD undef = ptr gk := by simpa [Act.eval] using e129
                                  exact light_val rfl (v := ptr gk) (by simp [execOp, go_sem, e129, f129]) hJ rfl
                                case o2 =>
                                  intro A W hv hlen hJ hbase hdL hdH
                                  have e130 : A.eval (.tmp 130) = ptr gk := hdL 1 130 (by kernel_rfl) (by kernel_rfl) (by kernel_rfl)
                                  have f130 : A.tmps[130]?.getD undef = ptr gk := by simpa [Act.eval] using e130
                                  exact light_val rfl (v := .pointer (some ⟨gk, 0, none⟩)) (by simp [execOp, go_sem, e130, f130]) hJ rfl
                                case o3 =>
                                  intro A W hv hlen hJ hbase hdL hdH
                                  have e131 : A.eval (.tmp 131) = .pointer (some ⟨gk, 0, none⟩) := hdL 2 131 (by kernel_rfl) (by kernel_rfl) (by kernel_rfl)
                                  have f131 : A.tmps[131]?.getD undef = .pointer (some ⟨gk, 0, none⟩) := by simpa [Act.eval] using e131
                                  have hc := (JSW.fr hJ).cell k0h (nPk)
                                  exact light_val rfl (v := ptr gs) (by simp [execOp, go_sem, e131, f131, hc]) hJ rfl
                                case o4 =>
                                  intro A W hv hlen hJ hbase hdL hdH
                                  have e16 : A.eval (.tmp 16) = ptr ga := hbase 16 (by kernel_rfl)
                                  have f16 : A.tmps[16]?.getD undef = ptr ga := by simpa [Act.eval] using e16
                                  exact light_val rfl (v := .pointer (some ⟨ga, 1, none⟩)) (by simp [execOp, go_sem, e16, f16]) hJ rfl
                                case o5 =>
                                  intro A W hv hlen hJ hbase hdL hdH
                                  have e133 : A.eval (.tmp 133) = .pointer (some ⟨ga, 1, none⟩) := hdL 4 133 (by kernel_rfl) (by kernel_rfl) (by kernel_rfl)
                                  have f133 : A.tmps[133]?.getD undef = .pointer (some ⟨ga, 1, none⟩) := by simpa [Act.eval] using e133
                                  have hc := (JSW.fr hJ).cell q1h (nPa)
                                  exact light_val rfl (v := .int .i64 x.at') (by simp [execOp, go_sem, e133, f133, hc]) hJ rfl
                                case o6 =>
                                  intro A W hv hlen hJ hbase hdL hdH
                                  have e134 : A.eval (.tmp 134) = .int .i64 x.at' := hdL 5 134 (by kernel_rfl) (by kernel_rfl) (by kernel_rfl)
                                  have f134 : A.tmps[134]?.getD undef = .int .i64 x.at' := by simpa [Act.eval] using e134
                                  exact light_val rfl (v := .int .i64 (min x.at' 200)) (by simp [execOp, resolve, invoke, builtin, go_sem, e134, f134]) hJ rfl
                                case o7 =>
                                  intro A W hv hlen hJ hbase hdL hdH
                                  have e135 : A.eval (.tmp 135) = .int .i64 (min x.at' 200) := hdL 6 135 (by kernel_rfl) (by kernel_rfl) (by kernel_rfl)
                                  have f135 : A.tmps[135]?.getD undef = .int .i64 (min x.at' 200) := by simpa [Act.eval] using e135
                                  exact light_val rfl (v := .int .i64 q) (by rw [← hq.out]; simp [execOp, resolve, invoke, builtin, go_sem, e135, f135]) hJ rfl
                                case o8 =>
                                  intro A W hv hlen hJ hbase hdL hdH
                                  have e132 : A.eval (.tmp 132) = ptr gs := hdL 3 132 (by kernel_rfl) (by kernel_rfl) (by kernel_rfl)
                                  have f132 : A.tmps[132]?.getD undef = ptr gs := by simpa [Act.eval] using e132
                                  have e136 : A.eval (.tmp 136) = .int .i64 q := hdL 7 136 (by kernel_rfl) (by kernel_rfl) (by kernel_rfl)
                                  have f136 : A.tmps[136]?.getD undef = .int .i64 q := by simpa [Act.eval] using e136
                                  obtain rfl : hv = [] := List.eq_nil_of_length_eq_zero hlen
                                  obtain rfl := (show W = _ from hJ)
                                  refine heavy_call rfl (args := #[ptr gs, .int .i64 q]) (f := 10) (by simp [execOp, resolve, invoke, go_sem, e132, f132, e136, f136]) ?_
                                  refine (hold_F q (W2.st.fr0 f0h) hho).mono ?_
                                  rintro e w' ⟨rfl, s, f⟩
                                  exact ⟨_, rfl, rfl, s, f⟩
                                case oe =>
                                  intro vs W'h hv hlen hJ hL hH
                                  have x0 : vs 0 = ptr gk := hL 0 (by kernel_rfl) (by kernel_rfl)
                                  have x1 : vs 1 = ptr gk := hL 1 (by kernel_rfl) (by kernel_rfl)
                                  have x2 : vs 2 = .pointer (some ⟨gk, 0, none⟩) := hL 2 (by kernel_rfl) (by kernel_rfl)
                                  have x3 : vs 3 = ptr gs := hL 3 (by kernel_rfl) (by kernel_rfl)
                                  have x4 : vs 4 = .pointer (some ⟨ga, 1, none⟩) := hL 4 (by kernel_rfl) (by kernel_rfl)
                                  have x5 : vs 5 = .int .i64 x.at' := hL 5 (by kernel_rfl) (by kernel_rfl)
                                  have x6 : vs 6 = .int .i64 (min x.at' 200) := hL 6 (by kernel_rfl) (by kernel_rfl)
                                  have x7 : vs 7 = .int .i64 q := hL 7 (by kernel_rfl) (by kernel_rfl)
                                  have x8 : vs 8 = .int .i64 e5 := JSW.val hJ (hH 0 8 rfl (by kernel_rfl))
                                  simp only [layL, Nat.reduceAdd, Act.put, List.setIfInBounds_toArray, List.set_cons_zero, List.set_cons_succ, x0, x1, x2, x3, x4, x5, x6, x7, x8]
                                  clear x0 x1 x2 x3 x4 x5 x6 x7 x8 hL hH
                                  obtain ⟨hQh, fQh⟩ := JSW.end hJ hlen
                                  clear hJ hlen
                                  have Fh : Fr (onB1 gp) w2 W'h := (f0h.mono (fun _ _ q => q.elim)).trans fQh
                                  go_wp2
                                  go_roundw
                                  case rel => exact ⟨j + 1, F', _, X', L5, m', R', by omega, by go_num, W2.pl Fh hQh, hF', hl5, by omega, by omega, (hf.thenN F2).thenT Fh holdP⟩
                                  case measure => simp [intOf]; omega
                              · have hk2' : (x.kind == 2) = false := by simpa using hk2
                                go_wp2_with (first
                                  | (with_reducible refine at_wpP ?_; refine at_idx 37 _ _ rfl ?_; go_must (refine wpList_idxR rfl 37 _ _ rfl 43 Try.underlying37 19 act_size9 _ _ _ rfl (hB.fr0 Dq) (by decide) _ _ j rfl rfl hlt ?_; rw [Hx.out]; intro ba oa hba hca))
                                  | (with_reducible refine at_wpP ?_; refine at_ld 43 _ rfl ?_; have qm := hca; refine wpList_ldH rfl _ rfl ba oa rfl x hxl hca ?_)
                                  | (with_reducible refine at_wpP ?_; refine wpList_alH rfl rfl ?_; intro ga w1 hga b1 f1 sa; have l1 := b1.lt; have z1 := f1.size)
                                  | (with_reducible refine at_wpP ?_; refine at_st 43 _ _ rfl ?_; go_must (refine wpList_stH rfl _ _ rfl ga rfl act0 x b1 act0_len hxl hxs rfl ?_; intro w2 b2 f2; have F2 := Fr.ownX f1 sa f2; have z2 := F2.size; have l2 := b2.lt; obtain ⟨q0, q1⟩ := b2.all; skip)))
                                go_roundw
                                case rel => exact ⟨j + 1, F', rv', X', L', m', R', by omega, by go_num, hW'.fr0 F2, hF', hl', by omega, by omega, hf.thenN F2⟩
                                case measure => simp [intOf]; omega
                        · obtain rfl : j = acts.length := by omega
                          have hlt' : ¬ (acts.length : Int) < (acts.length : Int) := by omega
                          have pmq := (pm.fr0 f0k).fr hf nstm
                          have b11q := (b11.fr0 f0k).fr hf nst11
                          have k0q := hf.cell (f0k.cell k0 (fun q => q)) nstw
                          go_wp2_with (first
                            | (go_at_call 23; go_must (refine (nundo_any _ hW'.st pmq hokM hl'.out).mono ?_; rintro e w8 ⟨rfl, s8, f8⟩; have z8 := f8.size; have k08 := f8.cell k0q (fun q => hnp q))))
                          have hf8 := hf.thenT f8 holdP
                          have pm8 := BxV.ne pmq f8 ngm
                          have b118 := BxV.ne b11q f8 ng11
                          have hCC : (!(C == C)) = false := by simp
                          obtain ⟨w0c, HWc⟩ : ∃ w0, Hid (w8.drew = w0) := ⟨_, rfl⟩
                          have f0c : Fr noB w8 w0c := by rw [← HWc.out]; exact (Fr.refl _ _).drew
                          have z0c := f0c.size
                          have k0c := f0c.cell k08 (fun q => q)
                          have s8c := s8.fr0 f0c
                          have b11c := b118.fr0 f0c
                          refine wp_region_chain_layT (by kernel_rfl) [] [none, none, none, none, none, none, none, none, none, none, none, none, none, none, none, none, none, none]
                            [fun v => v = ptr gw, fun v => v = ptr gw, fun v => v = .pointer (some ⟨gw, 0, none⟩), fun v => v = ptr gs, fun v => v = ptr gp, fun v => v = pgV C, fun v => v = pgV C, fun v => v = .bool false, fun v => v = .bool false, fun v => v = ptr gw, fun v => v = ptr gw, fun v => v = .pointer (some ⟨gw, 0, none⟩), fun v => v = ptr gs, fun v => v = ptr gp, fun v => v = .int .i64 E, fun v => v = .int .i64 E, fun v => v = .bool false, fun v => v = .bool false]
                            (JGX w0c) (by rw [HWc.out]; exact Fr.refl _ _) (by kernel_rfl) (by kernel_rfl) (by decide) ⟨?o0, ?o1, ?o2, ?o3, ?o4, ?o5, ?o6, ?o7, ?o8, ?o9, ?o10, ?o11, ?o12, ?o13, ?o14, ?o15, ?o16, ?o17, trivial⟩ ?oe
                          case o0 =>
                            intro A W hv hlen hJ hbase hdL hdH
                            have e7 : A.eval (.tmp 7) = ptr gw := hbase 7 (by kernel_rfl)
                            have f7 : A.tmps[7]?.getD undef = ptr gw := by simpa [Act.eval] using e7
                            exact light_val rfl (v := ptr gw) (by simp [execOp, e7, f7]) hJ rfl
                          case o1 =>
                            intro A W hv hlen hJ hbase hdL hdH
                            have e145 : A.eval (.tmp 145) = ptr gw := hdL 0 145 (by kernel_rfl) (by kernel_rfl) (by kernel_rfl)
                            have f145 : A.tmps[145]?.getD undef = ptr gw := by simpa [Act.eval] using e145
                            exact light_val rfl (v := ptr gw) (by simp [execOp, go_sem, e145, f145]) hJ rfl
                          case o2 =>
                            intro A W hv hlen hJ hbase hdL hdH
                            have e146 : A.eval (.tmp 146) = ptr gw := hdL 1 146 (by kernel_rfl) (by kernel_rfl) (by kernel_rfl)
                            have f146 : A.tmps[146]?.getD undef = ptr gw := by simpa [Act.eval] using e146
                            exact light_val rfl (v := .pointer (some ⟨gw, 0, none⟩)) (by simp [execOp, go_sem, e146, f146]) hJ rfl
                          case o3 =>
                            intro A W hv hlen hJ hbase hdL hdH
                            have e147 : A.eval (.tmp 147) = .pointer (some ⟨gw, 0, none⟩) := hdL 2 147 (by kernel_rfl) (by kernel_rfl) (by kernel_rfl)
                            have f147 : A.tmps[147]?.getD undef = .pointer (some ⟨gw, 0, none⟩) := by simpa [Act.eval] using e147
                            have hc := ((show Fr noB w0c W from hJ)).cell k0c (fun q => q)
                            exact light_val rfl (v := ptr gs) (by simp [execOp, go_sem, e147, f147, hc]) hJ rfl
                          case o4 =>
                            intro A W hv hlen hJ hbase hdL hdH
                            have e148 : A.eval (.tmp 148) = ptr gs := hdL 3 148 (by kernel_rfl) (by kernel_rfl) (by kernel_rfl)
                            have f148 : A.tmps[148]?.getD undef = ptr gs := by simpa [Act.eval] using e148
                            refine light_callX rfl (args := #[ptr gs]) (f := 15) (by simp [execOp, resolve, invoke, go_sem, e148, f148]) ?_
                            refine (npool_any _ (s8c.fr0 hJ)).mono ?_
                            rintro e w' ⟨rfl, rfl⟩
                            exact ⟨_, rfl, hJ, rfl⟩
                          case o5 =>
                            intro A W hv hlen hJ hbase hdL hdH
                            have e149 : A.eval (.tmp 149) = ptr gp := hdL 4 149 (by kernel_rfl) (by kernel_rfl) (by kernel_rfl)
                            have f149 : A.tmps[149]?.getD undef = ptr gp := by simpa [Act.eval] using e149
                            refine light_callX rfl (args := #[ptr gp]) (f := 24) (by simp [execOp, resolve, invoke, go_sem, e149, f149]) ?_
                            refine (counts_F (s8c.fr0 hJ) HC.out).mono ?_
                            rintro e w' ⟨rfl, f'⟩
                            exact ⟨_, rfl, hJ.thenN f', rfl⟩
                          case o6 =>
                            intro A W hv hlen hJ hbase hdL hdH
                            have e11 : A.eval (.tmp 11) = ptr g11 := hbase 11 (by kernel_rfl)
                            have f11 : A.tmps[11]?.getD undef = ptr g11 := by simpa [Act.eval] using e11
                            have hr := run_loadA arr_counts W g11 0 C (bxAll (b11c.fr0 hJ)) hCl.out
                            exact light_val rfl (v := pgV C) (by simp [execOp, e11, hr, Result.andThen]) hJ rfl
                          case o7 =>
                            intro A W hv hlen hJ hbase hdL hdH
                            have e150 : A.eval (.tmp 150) = pgV C := hdL 5 150 (by kernel_rfl) (by kernel_rfl) (by kernel_rfl)
                            have f150 : A.tmps[150]?.getD undef = pgV C := by simpa [Act.eval] using e150
                            have e151 : A.eval (.tmp 151) = pgV C := hdL 6 151 (by kernel_rfl) (by kernel_rfl) (by kernel_rfl)
                            have f151 : A.tmps[151]?.getD undef = pgV C := by simpa [Act.eval] using e151
                            have hr := run_neqA arr_counts W C C hCl.out hCl.out
                            rw [hCC] at hr
                            exact light_val rfl (v := .bool false) (by simp [execOp, e150, e151, hr, eqgAn arr_counts, Result.andThen]) hJ rfl
                          case o8 =>
                            intro A W hv hlen hJ hbase hdL hdH
                            have e152 : A.eval (.tmp 152) = .bool false := hdL 7 152 (by kernel_rfl) (by kernel_rfl) (by kernel_rfl)
                            have f152 : A.tmps[152]?.getD undef = .bool false := by simpa [Act.eval] using e152
                            exact light_val rfl (v := .bool false) (by simp [execOp, e152, f152]) hJ rfl
                          case o9 =>
                            intro A W hv hlen hJ hbase hdL hdH
                            have e7 : A.eval (.tmp 7) = ptr gw := hbase 7 (by kernel_rfl)
                            have f7 : A.tmps[7]?.getD undef = ptr gw := by simpa [Act.eval] using e7
                            have eg : A.eval (.tmp 153) = .bool false := hdL 8 153 (by kernel_rfl) (by kernel_rfl) (by kernel_rfl)
                            exact light_val (wanted_of rfl (by kernel_rfl) eg) (v := ptr gw) (by simp [execOp, e7, f7]) hJ rfl
                          case o10 =>
                            intro A W hv hlen hJ hbase hdL hdH
                            have e154 : A.eval (.tmp 154) = ptr gw := hdL 9 154 (by kernel_rfl) (by kernel_rfl) (by kernel_rfl)
                            have f154 : A.tmps[154]?.getD undef = ptr gw := by simpa [Act.eval] using e154
                            have eg : A.eval (.tmp 153) = .bool false := hdL 8 153 (by kernel_rfl) (by kernel_rfl) (by kernel_rfl)
                            exact light_val (wanted_of rfl (by kernel_rfl) eg) (v := ptr gw) (by simp [execOp, go_sem, e154, f154]) hJ rfl
                          case o11 =>
                            intro A W hv hlen hJ hbase hdL hdH
                            have e155 : A.eval (.tmp 155) = ptr gw := hdL 10 155 (by kernel_rfl) (by kernel_rfl) (by kernel_rfl)
                            have f155 : A.tmps[155]?.getD undef = ptr gw := by simpa [Act.eval] using e155
                            have eg : A.eval (.tmp 153) = .bool false := hdL 8 153 (by kernel_rfl) (by kernel_rfl) (by kernel_rfl)
                            exact light_val (wanted_of rfl (by kernel_rfl) eg) (v := .pointer (some ⟨gw, 0, none⟩)) (by simp [execOp, go_sem, e155, f155]) hJ rfl
                          case o12 =>
                            intro A W hv hlen hJ hbase hdL hdH
                            have e156 : A.eval (.tmp 156) = .pointer (some ⟨gw, 0, none⟩) := hdL 11 156 (by kernel_rfl) (by kernel_rfl) (by kernel_rfl)
                            have f156 : A.tmps[156]?.getD undef = .pointer (some ⟨gw, 0, none⟩) := by simpa [Act.eval] using e156
                            have eg : A.eval (.tmp 153) = .bool false := hdL 8 153 (by kernel_rfl) (by kernel_rfl) (by kernel_rfl)
                            have hc := ((show Fr noB w0c W from hJ)).cell k0c (fun q => q)
                            exact light_val (wanted_of rfl (by kernel_rfl) eg) (v := ptr gs) (by simp [execOp, go_sem, e156, f156, hc]) hJ rfl
                          case o13 =>
                            intro A W hv hlen hJ hbase hdL hdH
                            have e157 : A.eval (.tmp 157) = ptr gs := hdL 12 157 (by kernel_rfl) (by kernel_rfl) (by kernel_rfl)
                            have f157 : A.tmps[157]?.getD undef = ptr gs := by simpa [Act.eval] using e157
                            have eg : A.eval (.tmp 153) = .bool false := hdL 8 153 (by kernel_rfl) (by kernel_rfl) (by kernel_rfl)
                            refine light_callX (wanted_of rfl (by kernel_rfl) eg) (args := #[ptr gs]) (f := 15) (by simp [execOp, resolve, invoke, go_sem, e157, f157]) ?_
                            refine (npool_any _ (s8c.fr0 hJ)).mono ?_
                            rintro e w' ⟨rfl, rfl⟩
                            exact ⟨_, rfl, hJ, rfl⟩
                          case o14 =>
                            intro A W hv hlen hJ hbase hdL hdH
                            have e158 : A.eval (.tmp 158) = ptr gp := hdL 13 158 (by kernel_rfl) (by kernel_rfl) (by kernel_rfl)
                            have f158 : A.tmps[158]?.getD undef = ptr gp := by simpa [Act.eval] using e158
                            have eg : A.eval (.tmp 153) = .bool false := hdL 8 153 (by kernel_rfl) (by kernel_rfl) (by kernel_rfl)
                            refine light_callX (wanted_of rfl (by kernel_rfl) eg) (args := #[ptr gp]) (f := 18) (by simp [execOp, resolve, invoke, go_sem, e158, f158]) ?_
                            refine (free_F (s8c.fr0 hJ) HE.out).mono ?_
                            rintro e w' ⟨rfl, rfl⟩
                            exact ⟨_, rfl, hJ, rfl⟩
                          case o15 =>
                            intro A W hv hlen hJ hbase hdL hdH
                            have e12 : A.eval (.tmp 12) = .int .i64 E := hbase 12 (by kernel_rfl)
                            have f12 : A.tmps[12]?.getD undef = .int .i64 E := by simpa [Act.eval] using e12
                            have eg : A.eval (.tmp 153) = .bool false := hdL 8 153 (by kernel_rfl) (by kernel_rfl) (by kernel_rfl)
                            exact light_val (wanted_of rfl (by kernel_rfl) eg) (v := .int .i64 E) (by simp [execOp, e12, f12]) hJ rfl
                          case o16 =>
                            intro A W hv hlen hJ hbase hdL hdH
                            have e159 : A.eval (.tmp 159) = .int .i64 E := hdL 14 159 (by kernel_rfl) (by kernel_rfl) (by kernel_rfl)
                            have f159 : A.tmps[159]?.getD undef = .int .i64 E := by simpa [Act.eval] using e159
                            have e160 : A.eval (.tmp 160) = .int .i64 E := hdL 15 160 (by kernel_rfl) (by kernel_rfl) (by kernel_rfl)
                            have f160 : A.tmps[160]?.getD undef = .int .i64 E := by simpa [Act.eval] using e160
                            have eg : A.eval (.tmp 153) = .bool false := hdL 8 153 (by kernel_rfl) (by kernel_rfl) (by kernel_rfl)
                            exact light_val (wanted_of rfl (by kernel_rfl) eg) (v := .bool false) (by simp [execOp, go_sem, e159, f159, e160, f160]) hJ rfl
                          case o17 =>
                            intro A W hv hlen hJ hbase hdL hdH
                            have e153 : A.eval (.tmp 153) = .bool false := hdL 8 153 (by kernel_rfl) (by kernel_rfl) (by kernel_rfl)
                            have f153 : A.tmps[153]?.getD undef = .bool false := by simpa [Act.eval] using e153
                            have e161 : A.eval (.tmp 161) = .bool false := hdL 16 161 (by kernel_rfl) (by kernel_rfl) (by kernel_rfl)
                            have f161 : A.tmps[161]?.getD undef = .bool false := by simpa [Act.eval] using e161
                            exact light_val rfl (v := .bool false) (by simp [execOp, go_sem, e153, f153, e161, f161]) hJ rfl
                          case oe =>
                            intro vs W'c hv hlen hJ hL hH
                            have x0 : vs 0 = ptr gw := hL 0 (by kernel_rfl) (by kernel_rfl)
                            have x1 : vs 1 = ptr gw := hL 1 (by kernel_rfl) (by kernel_rfl)
                            have x2 : vs 2 = .pointer (some ⟨gw, 0, none⟩) := hL 2 (by kernel_rfl) (by kernel_rfl)
                            have x3 : vs 3 = ptr gs := hL 3 (by kernel_rfl) (by kernel_rfl)
                            have x4 : vs 4 = ptr gp := hL 4 (by kernel_rfl) (by kernel_rfl)
                            have x5 : vs 5 = pgV C := hL 5 (by kernel_rfl) (by kernel_rfl)
                            have x6 : vs 6 = pgV C := hL 6 (by kernel_rfl) (by kernel_rfl)
                            have x7 : vs 7 = .bool false := hL 7 (by kernel_rfl) (by kernel_rfl)
                            have x8 : vs 8 = .bool false := hL 8 (by kernel_rfl) (by kernel_rfl)
                            have x9 : vs 9 = ptr gw := hL 9 (by kernel_rfl) (by kernel_rfl)
                            have x10 : vs 10 = ptr gw := hL 10 (by kernel_rfl) (by kernel_rfl)
                            have x11 : vs 11 = .pointer (some ⟨gw, 0, none⟩) := hL 11 (by kernel_rfl) (by kernel_rfl)
                            have x12 : vs 12 = ptr gs := hL 12 (by kernel_rfl) (by kernel_rfl)
                            have x13 : vs 13 = ptr gp := hL 13 (by kernel_rfl) (by kernel_rfl)
                            have x14 : vs 14 = .int .i64 E := hL 14 (by kernel_rfl) (by kernel_rfl)
                            have x15 : vs 15 = .int .i64 E := hL 15 (by kernel_rfl) (by kernel_rfl)
                            have x16 : vs 16 = .bool false := hL 16 (by kernel_rfl) (by kernel_rfl)
                            have x17 : vs 17 = .bool false := hL 17 (by kernel_rfl) (by kernel_rfl)
                            simp only [layL, Nat.reduceAdd, Act.put, List.setIfInBounds_toArray, List.set_cons_zero, List.set_cons_succ, x0, x1, x2, x3, x4, x5, x6, x7, x8, x9, x10, x11, x12, x13, x14, x15, x16, x17]
                            clear x0 x1 x2 x3 x4 x5 x6 x7 x8 x9 x10 x11 x12 x13 x14 x15 x16 x17 hL hH
                            clear hlen
                            have fc : Fr noB w8 W'c := f0c.thenN hJ
                            clear hJ
                            go_wp2
                            go_roundw
                            case rel =>
                              have fall := ((f0k.mono (T := stB F gp) (fun _ _ q => q.elim)).trans hf8).thenN fc
                              exact ⟨t + 1, F', X', m', by omega, by go_num, hW.lay fall (s8.fr0 fc) (fun k hk => by rcases hF' k hk with q | q; exact Or.inl q; exact Or.inr (by omega)), pm8.fr0 fc, b118.fr0 fc, (fun k hk => by rcases hF' k hk with q | q; exact hF k q; omega), (fun q => by rcases hF' _ q with q | q; exact nFm q; omega), (fun q => by rcases hF' _ q with q | q; exact nF11 q; omega), by omega, D.thenT fall (fun i hi q => hold i hi (stB_wdB i q))⟩
                            case measure => simp [intOf]; omega
                · obtain rfl : t = 2 := by omega
                  go_wp2
                  go_ret
                  exact ⟨rfl, D.below⟩
end Go.Proofs.Ytamfnjliikiifaa
