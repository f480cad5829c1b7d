/- Texts H24 of the proof of NodesExact, one behind the other. -/
import Derived.Test.YtamfnjliikiifaaBundleNodesExact1
import Derived.Test.YtamfnjliikiifaaBundleNodesExact2
import Derived.Test.YtamfnjliikiifaaBundleNodesExact3
import Derived.Test.YtamfnjliikiifaaBundleNodesExact4
import Derived.Test.YtamfnjliikiifaaBundleNodesExact5
import Derived.Test.YtamfnjliikiifaaBundleNodesExact6
import Derived.Test.YtamfnjliikiifaaBundleNodesExact7
import Derived.Test.YtamfnjliikiifaaBundleNodesExact8
import Derived.Test.YtamfnjliikiifaaBundleNodesExact9
import Derived.Test.YtamfnjliikiifaaBundleNodesExact10
import Derived.Test.YtamfnjliikiifaaBundleNodesExact11
import Derived.Test.YtamfnjliikiifaaBundleNodesExact12
import Derived.Test.YtamfnjliikiifaaBundleNodesExact13
import Derived.Test.YtamfnjliikiifaaBundleNodesExact14
import Derived.Test.YtamfnjliikiifaaBundleNodesExact15
import Derived.Test.YtamfnjliikiifaaBundleNodesExact16
import Derived.Test.YtamfnjliikiifaaBundleNodesExact17
import Derived.Test.YtamfnjliikiifaaBundleNodesExact18
import Derived.Test.YtamfnjliikiifaaBundleNodesExact19
import Derived.Test.YtamfnjliikiifaaBundleNodesExact20
import Derived.Test.YtamfnjliikiifaaBundleNodesExact21
import Derived.Test.YtamfnjliikiifaaBundleNodesExact22
import Derived.Test.YtamfnjliikiifaaBundleNodesExact23
/- NodesExact. (Written by h24_gen.py.) -/
namespace Go.Proofs.Ytamfnjliikiifaa
open Go.RowKit Go.Proofs.U Go.Shelf Go.Maps
set_option linter.unusedSimpArgs false
set_option linter.unusedVariables false
theorem slR_of_slI {w : World} {v : Value} {l : List Int} (h : SlI .i64 w v l) : SlR en64 1 w v l := by
  refine ⟨fun _ _ => rfl, ?_⟩
  have e : l.flatMap en64 = l.map (Value.int .i64) := by
    clear h
    induction l with
    | nil => rfl
    | cons x l ih => rw [List.flatMap_cons, ih]; rfl
  rw [e]
  exact h.1
/-- While a root is taken out of a world's roots. -/
def JRm (w0 : World) (gs gw : Nat) (A B : List Int) : List Value → World → Prop
  | [], W => W = w0
  | [v], W => W = w0.alloc (.cells #[] 3) ∧ v = .slice (some ⟨w0.heap.size, 0, none⟩) 0 0
  | [_, v], W => OwnR en64 1 3 W w0.heap.size v A ∧ Fr noB w0 W
  | [_, _, v], W => OwnR en64 1 3 W w0.heap.size v (A ++ B) ∧ Fr noB w0 W
  | [_, _, v, _], W => OwnR en64 1 3 W w0.heap.size v (A ++ B) ∧ Fr (onB1 gw) w0 W ∧ BxV W gw 41 [ptr gs, v]
  | _, _ => False
theorem JRm.fr {w0 : World} {gs gw : Nat} {A B : List Int} : ∀ {hv : List Value} {W : World}, JRm w0 gs gw A B hv W → hv.length ≤ 3 → Fr noB w0 W
  | [], _, h, _ => by cases h; exact Fr.refl _ _
  | [_], _, h, _ => by obtain ⟨rfl, _⟩ := h; exact (Fr.refl _ _).alloc _
  | [_, _], _, h, _ => h.2
  | [_, _, _], _, h, _ => h.2
  | _ :: _ :: _ :: _ :: _, _, _, h => absurd h (by simp)
set_option maxRecDepth 100000 in
set_option maxHeartbeats 16000000 in
theorem nexact_walk (n : Int) (va : Value) (acts : List ActH) (w : World) (hn : (Lit.int .i64 n).wf = true) (hac : SlH w va acts) :
    Calls Try.prog 4 #[.int .i64 n, va] w fun r w' => r = .returned (.bool true) ∧ Below w.heap.size w w' := by
  obtain ⟨hA, hAok⟩ := hac
  obtain ⟨ab, cb, rfl, hcb⟩ := hA.opn
  by_cases c0 : n < 4
  · have d0 : decide (n < 4) = true := decide_eq_true c0
    go_enter Try.func4, Try.ntmps4
    go_wp2_with (first
      | (go_at_call 12; go_must (refine (nalive_any _).mono ?_; rintro e w1 ⟨rfl, f1⟩)))
    go_ret
    exact ⟨rfl, f1.below⟩
  · have d0 : decide (n < 4) = false := decide_eq_false c0
    by_cases c1 : (100 : Int) < n
    · have d1 : decide ((100 : Int) < n) = true := decide_eq_true c1
      go_enter Try.func4, Try.ntmps4
      go_wp2_with (first
        | (go_at_call 12; go_must (refine (nalive_any _).mono ?_; rintro e w1 ⟨rfl, f1⟩)))
      go_ret
      exact ⟨rfl, f1.below⟩
    · have d1 : decide ((100 : Int) < n) = false := decide_eq_false c1
      by_cases c2 : (40 : Int) < (acts.length : Int)
      · have d2 : decide ((40 : Int) < (acts.length : Int)) = true := decide_eq_true c2
        go_enter Try.func4, Try.ntmps4
        go_wp2_with (first
          | (go_at_call 12; go_must (refine (nalive_any _).mono ?_; rintro e w1 ⟨rfl, f1⟩)))
        go_ret
        exact ⟨rfl, f1.below⟩
      · have d2 : decide ((40 : Int) < (acts.length : Int)) = false := decide_eq_false c2
        have hmade := fun W => made_N n (by omega) W
        have hI0 : Inv (newD n) (plNew (sizeN n)) [] := Inv.new _ _
        obtain ⟨X0, H0⟩ : ∃ X0, Hid (newD n = X0) := ⟨_, rfl⟩
        obtain ⟨L0, H1⟩ : ∃ L0, Hid (plNew (sizeN n) = L0) := ⟨_, rfl⟩
        rw [H0.out, H1.out] at hmade hI0
        replace hI0 := show Hid _ from hI0
        go_enter Try.func4, Try.ntmps4
        go_wp2_with (first
          | (go_at_call 12; go_must (refine (nalive_any _).mono ?_; rintro e w1 ⟨rfl, f1⟩))
          | (go_at_call 7; go_must (refine (hmade _).mono ?_; rintro e w2 ⟨gs, gp, rfl, s2⟩; have S2 := s2.base f1))
          | (with_reducible refine at_wpP ?_; refine wpList_boxG rfl 41 _ rfl (.agg #[ptr gs, nilS]) [ptr gs, nilS] rfl rfl ?_; intro gw w3 hgw b3 f3 s3; have l3 := b3.lt))
        obtain ⟨F0, sF, aF, bs, bp, D2⟩ := S2
        have ltp := sF.ltp
        have lts := sF.lts
        have zD2 := D2.size
        have bw : w.heap.size ≤ gw := by omega
        have W3 : Wd w3 F0 gs gp gw w.heap.size nilS X0 L0 0 [] :=
          { st := sF.fr0 f3, bx := b3, row := OwnR.none _ _, wf := (by intro x hx; cases hx), fw := (fun q => by have := sF.ft _ q; omega), np := (by omega), ns := (by omega), ap := (by intro k hk; cases hk) }
        have D3 := D2.thenN f3
        go_loopw [31] (fun i wr => ∃ (j : Nat) (F : Nat → Prop) (rv : Value) (X : DSt) (L : List Pg) (m : Nat) (R : List Int), j ≤ acts.length ∧ i = .int .i64 (j : Int) ∧ Wd wr F gs gp gw w.heap.size rv X L m R ∧ (∀ k, F k → w.heap.size ≤ k) ∧ m ≤ 2 * j ∧ R.length ≤ j ∧ Hid (Inv X L R) ∧ Fr noB w wr) (fun i _ => acts.length - (intOf i).toNat)
        case atStart => exact ⟨0, F0, nilS, X0, L0, 0, [], by omega, rfl, W3, aF, by omega, by simp, hI0, D3⟩
        case round =>
          obtain ⟨j, F, rv, X, L, m, R, hj, rfl, hW, hF, hmj, hRj, hI, D⟩ := hrel
          clear W3 D3 f3 b3 D2 sF aF s2 f1 hmade zD2 hI0
          have hold := wd_old hW hF bp bw
          have zD := D.size
          have ltp := hW.st.ltp
          have lgw := hW.bx.lt
          have hnp := hW.np
          have hrow := hW.row
          have hwf := hW.wf
          have holdP : ∀ i, i < w.heap.size → onB1 gp i → noB i := fun i hi q => by unfold onB1 at q; omega
          have holdW : ∀ i, i < w.heap.size → onB1 gw i → noB i := fun i hi q => by unfold onB1 at q; omega
          obtain ⟨ar, cr, rfl⟩ := hrow.opn
          obtain ⟨k0, k1⟩ := wd_cells hW
          by_cases hlt : j < acts.length
          · have hlt' : (j : Int) < (acts.length : Int) := by omega
            obtain ⟨x, Hx⟩ : ∃ x, Hid (acts[j] = x) := ⟨acts[j], (rfl : acts[j] = acts[j])⟩
            obtain ⟨hx0, hx1, hxS, hxl, hxb, hxk⟩ := hAok x (by rw [← Hx.out]; simp)
            have hxs : ∃ a n c, x.kv = .slice a n c := by obtain ⟨a, c, e, _⟩ := hxS.opn; exact ⟨_, _, _, e⟩
            go_upto_region 10 with (first
              | (with_reducible refine at_wpP ?_; refine at_idx 37 _ _ rfl ?_; go_must (refine wpList_idxR rfl 37 _ _ rfl 43 Try.underlying37 19 act_size9 _ _ _ rfl (hA.fr0 D) (by decide) _ _ j rfl rfl hlt ?_; rw [Hx.out]; intro ba oa hba hca))
              | (with_reducible refine at_wpP ?_; refine at_ld 43 _ rfl ?_; have qm := hca; refine wpList_ldH rfl _ rfl ba oa rfl x hxl hca ?_)
              | (with_reducible refine at_wpP ?_; refine wpList_alH rfl rfl ?_; intro ga w1 hga b1 f1 sa; have l1 := b1.lt; have z1 := f1.size)
              | (with_reducible refine at_wpP ?_; refine at_st 43 _ _ rfl ?_; go_must (refine wpList_stH rfl _ _ rfl ga rfl act0 x b1 act0_len hxl hxs rfl ?_; intro w2 b2 f2; have F2 := Fr.ownX f1 sa f2; have z2 := F2.size; have l2 := b2.lt; obtain ⟨q0, q1⟩ := b2.all; have k02 := F2.cell k0 (fun q => q); have k12 := F2.cell k1 (fun q => q))))
            by_cases hk0 : x.kind = 0
            · have hk := hk0
              have hmk := hI.out.make hW.st.up x.keys hxl hxb
              have hwl := wmk_len X L R x.keys x.blk
              have hmake := fun W (s : Wd W F gs gp gw w.heap.size (.slice ar R.length cr) X L m R) hb hK => wmake_any x W s (by omega) (by omega) hb hxl hxb hxk hK
              obtain ⟨⟨⟨X', L', R'⟩, e'⟩, HS⟩ : ∃ S, wmk X L R x.keys x.blk = S := ⟨_, rfl⟩
              rw [HS] at hmk hwl hmake
              simp only at hmk hwl
              obtain ⟨he, hI'⟩ := hmk
              replace hI' := show Hid _ from hI'
              clear HS
              rcases he with rfl | rfl | rfl
              · rw [hk] at q0 ⊢
                go_wp2_with (first
                  | (with_reducible refine at_wpP ?_; refine at_ld 43 _ rfl ?_; have qm := b2; refine wpList_ldHb rfl _ rfl ga rfl x hxl b2 ?_)
                  | (go_at_call 14; go_must (refine (hmake _ (hW.fr0 F2) (by omega) (fun w' f => hxS.fr0 ((D.thenN F2).thenT f hold))).mono ?_; rintro e w5 ⟨F', rv', rfl, W5, hF5, hr5, f5⟩; simp only at W5))
                  | (go_at_call 17; go_must (refine (exact_any _ W5 (by omega) hI'.out (by omega)).mono ?_; rintro e w9 ⟨rfl, f9⟩)))
                go_roundw
                case rel => exact ⟨j + 1, F', rv', X', L', m + 2, R', by omega, by go_num, W5.fr0 f9, (fun k hk => by rcases hF5 k hk with q | q; exact hF k q; omega), by omega, by omega, hI', ((D.thenN F2).thenT f5 hold).thenN f9⟩
                case measure => simp [intOf]; omega
              · rw [hk] at q0 ⊢
                go_wp2_with (first
                  | (with_reducible refine at_wpP ?_; refine at_ld 43 _ rfl ?_; have qm := b2; refine wpList_ldHb rfl _ rfl ga rfl x hxl b2 ?_)
                  | (go_at_call 14; go_must (refine (hmake _ (hW.fr0 F2) (by omega) (fun w' f => hxS.fr0 ((D.thenN F2).thenT f hold))).mono ?_; rintro e w5 ⟨F', rv', rfl, W5, hF5, hr5, f5⟩; simp only at W5))
                  | (go_at_call 17; go_must (refine (exact_any _ W5 (by omega) hI'.out (by omega)).mono ?_; rintro e w9 ⟨rfl, f9⟩)))
                go_roundw
                case rel => exact ⟨j + 1, F', rv', X', L', m + 2, R', by omega, by go_num, W5.fr0 f9, (fun k hk => by rcases hF5 k hk with q | q; exact hF k q; omega), by omega, by omega, hI', ((D.thenN F2).thenT f5 hold).thenN f9⟩
                case measure => simp [intOf]; omega
              · rw [hk] at q0 ⊢
                go_wp2_with (first
                  | (with_reducible refine at_wpP ?_; refine at_ld 43 _ rfl ?_; have qm := b2; refine wpList_ldHb rfl _ rfl ga rfl x hxl b2 ?_)
                  | (go_at_call 14; go_must (refine (hmake _ (hW.fr0 F2) (by omega) (fun w' f => hxS.fr0 ((D.thenN F2).thenT f hold))).mono ?_; rintro e w5 ⟨F', rv', rfl, W5, hF5, hr5, f5⟩; simp only at W5))
                  | (go_at_call 17; go_must (refine (exact_any _ W5 (by omega) hI'.out (by omega)).mono ?_; rintro e w9 ⟨rfl, f9⟩)))
                go_roundw
                case rel => exact ⟨j + 1, F', rv', X', L', m + 2, R', by omega, by go_num, W5.fr0 f9, (fun k hk => by rcases hF5 k hk with q | q; exact hF k q; omega), by omega, by omega, hI', ((D.thenN F2).thenT f5 hold).thenN f9⟩
                case measure => simp [intOf]; omega
            · have hk0' : (x.kind == 0) = false := by simpa using hk0
              by_cases hk2 : x.kind = 2
              · have hk := hk2
                have hIc := hI.out.comm
                have hokc := comm_ok hI.out.di.ok
                have hlc := comm_len L
                obtain ⟨M, HM⟩ : ∃ M, Hid (plCommit L = M) := ⟨_, rfl⟩
                rw [HM.out] at hIc hokc hlc
                replace hIc := show Hid _ from hIc
                rw [hk] at q0 ⊢
                go_wp2_with (first
                  | (go_at_call 15; go_must (refine (npool_any _ (hW.st.fr0 F2)).mono ?_; rintro e w4 ⟨rfl, rfl⟩))
                  | (go_at_call 16; go_must (refine (commit_F (hW.st.fr0 F2) HM.out).mono ?_; rintro e w5 ⟨rfl, s5, f5⟩; have W5 := (hW.fr0 F2).pl f5 s5))
                  | (go_at_call 17; go_must (refine (exact_any _ W5 (by omega) hIc.out (by omega)).mono ?_; rintro e w9 ⟨rfl, f9⟩)))
                go_roundw
                case rel => exact ⟨j + 1, F, _, X, M, m, R, by omega, by go_num, W5.fr0 f9, hF, by omega, by omega, hIc, ((D.thenN F2).thenT f5 holdP).thenN f9⟩
                case measure => simp [intOf]; omega
              · have hk2' : (x.kind == 2) = false := by simpa using hk2
                by_cases hk13 : x.kind = 1 ∨ x.kind = 3
                · by_cases hR0 : R.length = 0
                  · have hdR : ((R.length : Int) == 0) = true := by rw [hR0]; rfl
                    rcases hk13 with hk | hk
                    · rw [hk] at q0 ⊢
                      go_wp2
                      go_roundw
                      case rel => exact ⟨j + 1, F, _, X, L, m, R, by omega, by go_num, hW.fr0 F2, hF, by omega, by omega, hI, D.thenN F2⟩
                      case measure => simp [intOf]; omega
                    · rw [hk] at q0 ⊢
                      go_wp2
                      go_roundw
                      case rel => exact ⟨j + 1, F, _, X, L, m, R, by omega, by go_num, hW.fr0 F2, hF, by omega, by omega, hI, D.thenN F2⟩
                      case measure => simp [intOf]; omega
                  · have hdR : ((R.length : Int) == 0) = false := beq_false_of_ne (by omega)
                    obtain ⟨q, hq, hqR⟩ : ∃ q : Nat, max 0 (min x.at' ((R.length : Int) - 1)) = (q : Int) ∧ q < R.length := ⟨(max 0 (min x.at' ((R.length : Int) - 1))).toNat, by omega, by omega⟩
                    have hq := show Hid _ from hq
                    have hwrp : Hid (IntKind.i64.wrap ((R.length : Int) - 1) = (R.length : Int) - 1) := wrap_sm (by omega)
                    obtain ⟨y, Hy⟩ : ∃ y, Hid (R[q] = y) := ⟨R[q], (rfl : R[q] = R[q])⟩
                    rcases hk13 with hk | hk
                    · have hdp := hI.out.drop q hqR
                      rw [Hy.out] at hdp
                      obtain ⟨L5, e5, hdr⟩ : ∃ L5 e5, dropF X (muL L + 1) L y = (L5, e5) := ⟨_, _, rfl⟩
                      rw [hdr] at hdp
                      obtain ⟨he5, hI5⟩ := hdp
                      simp only at he5 hI5
                      subst he5
                      replace hI5 := show Hid _ from hI5
                      rw [hk] at q0 ⊢
                      go_wp2
                      have W2 := hW.fr0 F2
                      obtain ⟨w0a, HWa⟩ : ∃ w0, Hid (w2.drew = w0) := ⟨_, rfl⟩
                      have f0a : Fr noB w2 w0a := by rw [← HWa.out]; exact (Fr.refl _ _).drew
                      have z0a := f0a.size
                      have q1a := f0a.cell q1 (fun q => q)
                      have k1a := f0a.cell k12 (fun q => q)
                      refine wp_region_chain_layT (by kernel_rfl) [] [none, none, none, none, none, none, none, none, none, none, none]
                        [fun v => v = .pointer (some ⟨ga, 1, none⟩), fun v => v = .int .i64 x.at', fun v => v = ptr gw, fun v => v = ptr gw, fun v => v = .pointer (some ⟨gw, 1, none⟩), fun v => v = .slice ar R.length cr, fun v => v = .int .i64 (R.length : Int), fun v => v = .int .i64 ((R.length : Int) - 1), fun v => v = .int .i64 (min x.at' ((R.length : Int) - 1)), fun v => v = .int .i64 (q : Int), fun v => v = .int .i64 (q : Int)]
                        (JQX w0a) (by rw [HWa.out]; exact rfl) (by kernel_rfl) (by kernel_rfl) (by decide) ⟨?o0, ?o1, ?o2, ?o3, ?o4, ?o5, ?o6, ?o7, ?o8, ?o9, ?o10, trivial⟩ ?oe
                      case o0 =>
                        intro A W hv hlen hJ hbase hdL hdH
                        have e7 : A.eval (.tmp 7) = ptr ga := hbase 7 (by kernel_rfl)
                        have f7 : A.tmps[7]?.getD undef = ptr ga := by simpa [Act.eval] using e7
                        exact light_val rfl (v := .pointer (some ⟨ga, 1, none⟩)) (by simp [execOp, go_sem, e7, f7]) hJ rfl
                      case o1 =>
                        intro A W hv hlen hJ hbase hdL hdH
                        have e61 : A.eval (.tmp 61) = .pointer (some ⟨ga, 1, none⟩) := hdL 0 61 (by kernel_rfl) (by kernel_rfl) (by kernel_rfl)
                        have f61 : A.tmps[61]?.getD undef = .pointer (some ⟨ga, 1, none⟩) := by simpa [Act.eval] using e61
                        have hc := ((show Fr noB w0a W by rw [show W = w0a from hJ]; exact Fr.refl _ _)).cell q1a (fun q => q)
                        exact light_val rfl (v := .int .i64 x.at') (by simp [execOp, go_sem, e61, f61, hc]) hJ rfl
                      case o2 =>
                        intro A W hv hlen hJ hbase hdL hdH
                        have e5 : A.eval (.tmp 5) = ptr gw := hbase 5 (by kernel_rfl)
                        have f5 : A.tmps[5]?.getD undef = ptr gw := by simpa [Act.eval] using e5
                        exact light_val rfl (v := ptr gw) (by simp [execOp, e5, f5]) hJ rfl
                      case o3 =>
                        intro A W hv hlen hJ hbase hdL hdH
                        have e63 : A.eval (.tmp 63) = ptr gw := hdL 2 63 (by kernel_rfl) (by kernel_rfl) (by kernel_rfl)
                        have f63 : A.tmps[63]?.getD undef = ptr gw := by simpa [Act.eval] using e63
                        exact light_val rfl (v := ptr gw) (by simp [execOp, go_sem, e63, f63]) hJ rfl
                      case o4 =>
                        intro A W hv hlen hJ hbase hdL hdH
                        have e64 : A.eval (.tmp 64) = ptr gw := hdL 3 64 (by kernel_rfl) (by kernel_rfl) (by kernel_rfl)
                        have f64 : A.tmps[64]?.getD undef = ptr gw := by simpa [Act.eval] using e64
                        exact light_val rfl (v := .pointer (some ⟨gw, 1, none⟩)) (by simp [execOp, go_sem, e64, f64]) hJ rfl
                      case o5 =>
                        intro A W hv hlen hJ hbase hdL hdH
                        have e65 : A.eval (.tmp 65) = .pointer (some ⟨gw, 1, none⟩) := hdL 4 65 (by kernel_rfl) (by kernel_rfl) (by kernel_rfl)
                        have f65 : A.tmps[65]?.getD undef = .pointer (some ⟨gw, 1, none⟩) := by simpa [Act.eval] using e65
                        have hc := ((show Fr noB w0a W by rw [show W = w0a from hJ]; exact Fr.refl _ _)).cell k1a (fun q => q)
                        exact light_val rfl (v := .slice ar R.length cr) (by simp [execOp, go_sem, e65, f65, hc]) hJ rfl
                      case o6 =>
                        intro A W hv hlen hJ hbase hdL hdH
                        have e66 : A.eval (.tmp 66) = .slice ar R.length cr := hdL 5 66 (by kernel_rfl) (by kernel_rfl) (by kernel_rfl)
                        have f66 : A.tmps[66]?.getD undef = .slice ar R.length cr := by simpa [Act.eval] using e66
                        exact light_val rfl (v := .int .i64 (R.length : Int)) (by simp [execOp, resolve, invoke, builtin, Builtin.len_, go_sem, e66, f66]) hJ rfl
                      case o7 =>
                        intro A W hv hlen hJ hbase hdL hdH
                        have e67 : A.eval (.tmp 67) = .int .i64 (R.length : Int) := hdL 6 67 (by kernel_rfl) (by kernel_rfl) (by kernel_rfl)
                        have f67 : A.tmps[67]?.getD undef = .int .i64 (R.length : Int) := by simpa [Act.eval] using e67
                        exact light_val rfl (v := .int .i64 ((R.length : Int) - 1)) (by simp [execOp, go_sem, e67, f67, hwrp.out]) hJ rfl
                      case o8 =>
                        intro A W hv hlen hJ hbase hdL hdH
                        have e62 : A.eval (.tmp 62) = .int .i64 x.at' := hdL 1 62 (by kernel_rfl) (by kernel_rfl) (by kernel_rfl)
                        have f62 : A.tmps[62]?.getD undef = .int .i64 x.at' := by simpa [Act.eval] using e62
                        have e68 : A.eval (.tmp 68) = .int .i64 ((R.length : Int) - 1) := hdL 7 68 (by kernel_rfl) (by kernel_rfl) (by kernel_rfl)
                        have f68 : A.tmps[68]?.getD undef = .int .i64 ((R.length : Int) - 1) := by simpa [Act.eval] using e68
                        exact light_val rfl (v := .int .i64 (min x.at' ((R.length : Int) - 1))) (by simp [execOp, resolve, invoke, builtin, go_sem, e62, f62, e68, f68]) hJ rfl
                      case o9 =>
                        intro A W hv hlen hJ hbase hdL hdH
                        have e69 : A.eval (.tmp 69) = .int .i64 (min x.at' ((R.length : Int) - 1)) := hdL 8 69 (by kernel_rfl) (by kernel_rfl) (by kernel_rfl)
                        have f69 : A.tmps[69]?.getD undef = .int .i64 (min x.at' ((R.length : Int) - 1)) := by simpa [Act.eval] using e69
                        exact light_val rfl (v := .int .i64 (q : Int)) (by rw [← hq.out]; simp [execOp, resolve, invoke, builtin, go_sem, e69, f69]) hJ rfl
                      case o10 =>
                        intro A W hv hlen hJ hbase hdL hdH
                        have e70 : A.eval (.tmp 70) = .int .i64 (q : Int) := hdL 9 70 (by kernel_rfl) (by kernel_rfl) (by kernel_rfl)
                        have f70 : A.tmps[70]?.getD undef = .int .i64 (q : Int) := by simpa [Act.eval] using e70
                        exact light_val rfl (v := .int .i64 (q : Int)) (by simp [execOp, e70, f70]) hJ rfl
                      case oe =>
                        intro vs W'a hv hlen hJ hL hH
                        have x0 : vs 0 = .pointer (some ⟨ga, 1, none⟩) := hL 0 (by kernel_rfl) (by kernel_rfl)
                        have x1 : vs 1 = .int .i64 x.at' := hL 1 (by kernel_rfl) (by kernel_rfl)
                        have x2 : vs 2 = ptr gw := hL 2 (by kernel_rfl) (by kernel_rfl)
                        have x3 : vs 3 = ptr gw := hL 3 (by kernel_rfl) (by kernel_rfl)
                        have x4 : vs 4 = .pointer (some ⟨gw, 1, none⟩) := hL 4 (by kernel_rfl) (by kernel_rfl)
                        have x5 : vs 5 = .slice ar R.length cr := hL 5 (by kernel_rfl) (by kernel_rfl)
                        have x6 : vs 6 = .int .i64 (R.length : Int) := hL 6 (by kernel_rfl) (by kernel_rfl)
                        have x7 : vs 7 = .int .i64 ((R.length : Int) - 1) := hL 7 (by kernel_rfl) (by kernel_rfl)
                        have x8 : vs 8 = .int .i64 (min x.at' ((R.length : Int) - 1)) := hL 8 (by kernel_rfl) (by kernel_rfl)
                        have x9 : vs 9 = .int .i64 (q : Int) := hL 9 (by kernel_rfl) (by kernel_rfl)
                        have x10 : vs 10 = .int .i64 (q : Int) := hL 10 (by kernel_rfl) (by kernel_rfl)
                        simp only [layL, Nat.reduceAdd, Act.put, List.setIfInBounds_toArray, List.set_cons_zero, List.set_cons_succ, x0, x1, x2, x3, x4, x5, x6, x7, x8, x9, x10]
                        clear x0 x1 x2 x3 x4 x5 x6 x7 x8 x9 x10 hL hH
                        obtain rfl := (show W'a = w0a from hJ)
                        clear hJ hlen
                        have hroW := W2.row
                        obtain ⟨br, orr, cr', hve, hcel⟩ := hroW.sl.addr (by decide) (by omega)
                        cases hve
                        have hkq : w2.cell? ⟨br, orr + q, none⟩ = some (.int .i64 y) := by have := hcel q hqR 0 (.int .i64 y) (by rw [Hy.out]; rfl); rwa [Nat.mul_one] at this
                        have hbrw := W2.ap br rfl
                        have q0a := f0a.cell q0 (fun q => q)
                        go_wp2_with fail
                        obtain ⟨w0d, HWd⟩ : ∃ w0, Hid (W'a.drew = w0) := ⟨_, rfl⟩
                        have f0d : Fr noB W'a w0d := by rw [← HWd.out]; exact (Fr.refl _ _).drew
                        have z0d := f0d.size
                        have fad := f0a.thenN f0d
                        have k0x := fad.cell k02 (fun q => q)
                        have k1x := fad.cell k12 (fun q => q)
                        have kqx := fad.cell hkq (fun q => q)
                        have nPw : ¬ onB1 gp gw := fun q => hnp q
                        have nPb : ¬ onB1 gp br := fun q => hbrw.2.1 q
                        refine wp_region_chain_layT (by kernel_rfl) [11] [none, none, none, none, none, none, none, none, none, none, none, some 0, none]
                          [fun v => v = ptr gw, fun v => v = ptr gw, fun v => v = .pointer (some ⟨gw, 0, none⟩), fun v => v = ptr gs, fun v => v = ptr gw, fun v => v = ptr gw, fun v => v = .pointer (some ⟨gw, 1, none⟩), fun v => v = .slice (some ⟨br, orr, none⟩) R.length cr, fun v => v = .int .i64 (q : Int), fun v => v = .pointer (some ⟨br, orr + q, none⟩), fun v => v = .int .i64 y, fun _ => True, fun v => v = .bool false]
                          (JSW w0d (onB1 gp) (.int .i64 0) (fun W => Sto W F gs gp X L5 m)) (HWd.out) (by kernel_rfl) (by kernel_rfl) (by decide) ⟨?o0, ?o1, ?o2, ?o3, ?o4, ?o5, ?o6, ?o7, ?o8, ?o9, ?o10, ?o11, ?o12, trivial⟩ ?oe
                        case o0 =>
                          intro A W hv hlen hJ hbase hdL hdH
                          have e5 : A.eval (.tmp 5) = ptr gw := hbase 5 (by kernel_rfl)
                          have f5 : A.tmps[5]?.getD undef = ptr gw := by simpa [Act.eval] using e5
                          exact light_val rfl (v := ptr gw) (by simp [execOp, e5, f5]) hJ rfl
                        case o1 =>
                          intro A W hv hlen hJ hbase hdL hdH
                          have e103 : A.eval (.tmp 103) = ptr gw := hdL 0 103 (by kernel_rfl) (by kernel_rfl) (by kernel_rfl)
                          have f103 : A.tmps[103]?.getD undef = ptr gw := by simpa [Act.eval] using e103
                          exact light_val rfl (v := ptr gw) (by simp [execOp, go_sem, e103, f103]) hJ rfl
                        case o2 =>
                          intro A W hv hlen hJ hbase hdL hdH
                          have e104 : A.eval (.tmp 104) = ptr gw := hdL 1 104 (by kernel_rfl) (by kernel_rfl) (by kernel_rfl)
                          have f104 : A.tmps[104]?.getD undef = ptr gw := by simpa [Act.eval] using e104
                          exact light_val rfl (v := .pointer (some ⟨gw, 0, none⟩)) (by simp [execOp, go_sem, e104, f104]) hJ rfl
                        case o3 =>
                          intro A W hv hlen hJ hbase hdL hdH
                          have e105 : A.eval (.tmp 105) = .pointer (some ⟨gw, 0, none⟩) := hdL 2 105 (by kernel_rfl) (by kernel_rfl) (by kernel_rfl)
                          have f105 : A.tmps[105]?.getD undef = .pointer (some ⟨gw, 0, none⟩) := by simpa [Act.eval] using e105
                          have hc := (JSW.fr hJ).cell k0x (nPw)
                          exact light_val rfl (v := ptr gs) (by simp [execOp, go_sem, e105, f105, hc]) hJ rfl
                        case o4 =>
                          intro A W hv hlen hJ hbase hdL hdH
                          have e5 : A.eval (.tmp 5) = ptr gw := hbase 5 (by kernel_rfl)
                          have f5 : A.tmps[5]?.getD undef = ptr gw := by simpa [Act.eval] using e5
                          exact light_val rfl (v := ptr gw) (by simp [execOp, e5, f5]) hJ rfl
                        case o5 =>
                          intro A W hv hlen hJ hbase hdL hdH
                          have e107 : A.eval (.tmp 107) = ptr gw := hdL 4 107 (by kernel_rfl) (by kernel_rfl) (by kernel_rfl)
                          have f107 : A.tmps[107]?.getD undef = ptr gw := by simpa [Act.eval] using e107
                          exact light_val rfl (v := ptr gw) (by simp [execOp, go_sem, e107, f107]) hJ rfl
                        case o6 =>
                          intro A W hv hlen hJ hbase hdL hdH
                          have e108 : A.eval (.tmp 108) = ptr gw := hdL 5 108 (by kernel_rfl) (by kernel_rfl) (by kernel_rfl)
                          have f108 : A.tmps[108]?.getD undef = ptr gw := by simpa [Act.eval] using e108
                          exact light_val rfl (v := .pointer (some ⟨gw, 1, none⟩)) (by simp [execOp, go_sem, e108, f108]) hJ rfl
                        case o7 =>
                          intro A W hv hlen hJ hbase hdL hdH
                          have e109 : A.eval (.tmp 109) = .pointer (some ⟨gw, 1, none⟩) := hdL 6 109 (by kernel_rfl) (by kernel_rfl) (by kernel_rfl)
                          have f109 : A.tmps[109]?.getD undef = .pointer (some ⟨gw, 1, none⟩) := by simpa [Act.eval] using e109
                          have hc := (JSW.fr hJ).cell k1x (nPw)
                          exact light_val rfl (v := .slice (some ⟨br, orr, none⟩) R.length cr) (by simp [execOp, go_sem, e109, f109, hc]) hJ rfl
                        case o8 =>
                          intro A W hv hlen hJ hbase hdL hdH
                          have e9 : A.eval (.tmp 9) = .int .i64 (q : Int) := hbase 9 (by kernel_rfl)
                          have f9 : A.tmps[9]?.getD undef = .int .i64 (q : Int) := by simpa [Act.eval] using e9
                          exact light_val rfl (v := .int .i64 (q : Int)) (by simp [execOp, e9, f9]) hJ rfl
                        case o9 =>
                          intro A W hv hlen hJ hbase hdL hdH
                          have e110 : A.eval (.tmp 110) = .slice (some ⟨br, orr, none⟩) R.length cr := hdL 7 110 (by kernel_rfl) (by kernel_rfl) (by kernel_rfl)
                          have f110 : A.tmps[110]?.getD undef = .slice (some ⟨br, orr, none⟩) R.length cr := by simpa [Act.eval] using e110
                          have e111 : A.eval (.tmp 111) = .int .i64 (q : Int) := hdL 8 111 (by kernel_rfl) (by kernel_rfl) (by kernel_rfl)
                          have f111 : A.tmps[111]?.getD undef = .int .i64 (q : Int) := by simpa [Act.eval] using e111
                          have hr := (by have := run_idxS (P := Try.prog) (w := W) 39 3 Try.underlying39 int_size1 br orr R.length cr .i64 q hqR; rwa [Nat.mul_one] at this)
                          exact light_val rfl (v := .pointer (some ⟨br, orr + q, none⟩)) (by simp [execOp, e110, e111, hr, Result.andThen]) hJ rfl
                        case o10 =>
                          intro A W hv hlen hJ hbase hdL hdH
                          have e112 : A.eval (.tmp 112) = .pointer (some ⟨br, orr + q, none⟩) := hdL 9 112 (by kernel_rfl) (by kernel_rfl) (by kernel_rfl)
                          have f112 : A.tmps[112]?.getD undef = .pointer (some ⟨br, orr + q, none⟩) := by simpa [Act.eval] using e112
                          have hc := (JSW.fr hJ).cell kqx (nPb)
                          exact light_val rfl (v := .int .i64 y) (by simp [execOp, go_sem, e112, f112, hc]) hJ rfl
                        case o11 =>
                          intro A W hv hlen hJ hbase hdL hdH
                          have e106 : A.eval (.tmp 106) = ptr gs := hdL 3 106 (by kernel_rfl) (by kernel_rfl) (by kernel_rfl)
                          have f106 : A.tmps[106]?.getD undef = ptr gs := by simpa [Act.eval] using e106
                          have e113 : A.eval (.tmp 113) = .int .i64 y := hdL 10 113 (by kernel_rfl) (by kernel_rfl) (by kernel_rfl)
                          have f113 : A.tmps[113]?.getD undef = .int .i64 y := by simpa [Act.eval] using e113
                          obtain rfl : hv = [] := List.eq_nil_of_length_eq_zero hlen
                          obtain rfl := (show W = _ from hJ)
                          refine heavy_call rfl (args := #[ptr gs, .int .i64 y]) (f := 11) (by simp [execOp, resolve, invoke, go_sem, e106, f106, e113, f113]) ?_
                          refine (drop_F y ((W2.st.fr0 f0a).fr0 f0d) (by omega) hdr).mono ?_
                          rintro e w' ⟨rfl, s, f⟩
                          exact ⟨_, rfl, rfl, s, f⟩
                        case o12 =>
                          intro A W hv hlen hJ hbase hdL hdH
                          have ev := JSW.val hJ (hdH 11 114 0 (by kernel_rfl) rfl (by kernel_rfl))
                          have fv : A.tmps[114]?.getD undef = .int .i64 0 := by simpa [Act.eval] using ev
                          exact light_val rfl (v := .bool false) (by simp [execOp, go_sem, ev, fv]) hJ rfl
                        case oe =>
                          intro vs W'd hv hlen hJ hL hH
                          have x0 : vs 0 = ptr gw := hL 0 (by kernel_rfl) (by kernel_rfl)
                          have x1 : vs 1 = ptr gw := hL 1 (by kernel_rfl) (by kernel_rfl)
                          have x2 : vs 2 = .pointer (some ⟨gw, 0, none⟩) := hL 2 (by kernel_rfl) (by kernel_rfl)
                          have x3 : vs 3 = ptr gs := hL 3 (by kernel_rfl) (by kernel_rfl)
                          have x4 : vs 4 = ptr gw := hL 4 (by kernel_rfl) (by kernel_rfl)
                          have x5 : vs 5 = ptr gw := hL 5 (by kernel_rfl) (by kernel_rfl)
                          have x6 : vs 6 = .pointer (some ⟨gw, 1, none⟩) := hL 6 (by kernel_rfl) (by kernel_rfl)
                          have x7 : vs 7 = .slice (some ⟨br, orr, none⟩) R.length cr := hL 7 (by kernel_rfl) (by kernel_rfl)
                          have x8 : vs 8 = .int .i64 (q : Int) := hL 8 (by kernel_rfl) (by kernel_rfl)
                          have x9 : vs 9 = .pointer (some ⟨br, orr + q, none⟩) := hL 9 (by kernel_rfl) (by kernel_rfl)
                          have x10 : vs 10 = .int .i64 y := hL 10 (by kernel_rfl) (by kernel_rfl)
                          have x11 : vs 11 = .int .i64 0 := JSW.val hJ (hH 0 11 rfl (by kernel_rfl))
                          have x12 : vs 12 = .bool false := hL 12 (by kernel_rfl) (by kernel_rfl)
                          simp only [layL, Nat.reduceAdd, Act.put, List.setIfInBounds_toArray, List.set_cons_zero, List.set_cons_succ, x0, x1, x2, x3, x4, x5, x6, x7, x8, x9, x10, x11, x12]
                          clear x0 x1 x2 x3 x4 x5 x6 x7 x8 x9 x10 x11 x12 hL hH
                          obtain ⟨hQd, fQd⟩ := JSW.end hJ hlen
                          clear hJ hlen
                          have Fd : Fr (onB1 gp) w2 W'd := ((f0a.thenN f0d).mono (fun _ _ q => q.elim)).trans fQd
                          have Wd5 := W2.pl Fd hQd
                          have zd := Fd.size
                          have k0d := Fd.cell k02 (fun q => hnp q)
                          have k1d := Fd.cell k12 (fun q => hnp q)
                          have hroD := (ownI_of_R Wd5.row).sl hwf
                          have hqc : q ≤ cr := by
                            obtain ⟨a', c', e', hc'⟩ := hroD.opn
                            cases e'
                            omega
                          obtain ⟨VA, HVA⟩ : ∃ V : Value, Hid (V = .slice (some ⟨br, orr, none⟩) q cr) := ⟨_, rfl⟩
                          obtain ⟨VB, HVB⟩ : ∃ V : Value, Hid (V = .slice (if cr = q + 1 then some ⟨br, orr, none⟩ else (some ⟨br, orr, none⟩ : Option Addr).map (·.add ((q + 1) * 1))) (R.length - (q + 1)) (cr - (q + 1))) := ⟨_, rfl⟩
                          have hrA : ∀ W : World, (Instr.sliceAt 39 (.slice (some ⟨br, orr, none⟩) R.length cr) none (some (.int .i64 (q : Int))) none).run Try.prog W = .ok VA W := fun W => by rw [HVA.out]; exact run_cuth 39 3 Try.underlying39 1 int_size1 _ R.length cr .i64 q hqc
                          have hrB : ∀ W : World, (Instr.sliceAt 39 (.slice (some ⟨br, orr, none⟩) R.length cr) (some (.int .i64 ((q : Int) + 1))) none none).run Try.prog W = .ok VB W := fun W => by rw [HVB.out]; exact run_cutl 39 3 Try.underlying39 1 int_size1 _ R.length cr .i64 (q + 1) (by omega)
                          have hSA : SlI .i64 W'd VA (R.take q) := by rw [HVA.out]; exact hroD.takeN q (by omega)
                          have hSB : SlI .i64 W'd VB (R.drop (q + 1)) := by
                            rw [HVB.out]
                            have := hroD.cut (q + 1) (R.length - (q + 1)) (by omega) (ao' := if cr = q + 1 then some ⟨br, orr, none⟩ else (some ⟨br, orr, none⟩ : Option Addr).map (·.add ((q + 1) * 1))) (fun e => by rw [if_pos e]) (fun e => by rw [if_neg e, Nat.mul_one]) rfl
                            rwa [List.take_of_length_le (by rw [List.length_drop]; exact Nat.le_refl _)] at this
                          have hq1 : IntKind.i64.wrap ((q : Int) + 1) = (q : Int) + 1 := wrap_sm (by omega)
                          have hlA : (R.take q).length ≤ 100 := by rw [List.length_take]; omega
                          have hlB : (R.drop (q + 1)).length ≤ 100 := by rw [List.length_drop]; omega
                          have lgwd := Wd5.bx.lt
                          go_wp2_with fail
                          obtain ⟨w0r, HWr⟩ : ∃ w0, Hid (W'd.drew = w0) := ⟨_, rfl⟩
                          have f0r : Fr noB W'd w0r := by rw [← HWr.out]; exact (Fr.refl _ _).drew
                          have z0r := f0r.size
                          have k1r := f0r.cell k1d (fun q => q)
                          have bxr := Wd5.bx.fr0 f0r
                          refine wp_region_chain_layT (by kernel_rfl) [1, 8, 16, 19] [none, some 0, none, none, none, none, none, none, some 1, none, none, none, none, none, none, none, some 2, none, none, some 3]
                            [fun v => v = ptr gw, fun _ => True, fun v => v = ptr gw, fun v => v = ptr gw, fun v => v = .pointer (some ⟨gw, 1, none⟩), fun v => v = .slice (some ⟨br, orr, none⟩) R.length cr, fun v => v = .int .i64 (q : Int), fun v => v = VA, fun _ => True, fun v => v = ptr gw, fun v => v = ptr gw, fun v => v = .pointer (some ⟨gw, 1, none⟩), fun v => v = .slice (some ⟨br, orr, none⟩) R.length cr, fun v => v = .int .i64 (q : Int), fun v => v = .int .i64 ((q : Int) + 1), fun v => v = VB, fun _ => True, fun v => v = ptr gw, fun v => v = .pointer (some ⟨gw, 1, none⟩), fun _ => True]
                            (JRm w0r gs gw (R.take q) (R.drop (q + 1))) (HWr.out) (by kernel_rfl) (by kernel_rfl) (by decide) ⟨?o0, ?o1, ?o2, ?o3, ?o4, ?o5, ?o6, ?o7, ?o8, ?o9, ?o10, ?o11, ?o12, ?o13, ?o14, ?o15, ?o16, ?o17, ?o18, ?o19, trivial⟩ ?oe
                          case o0 =>
                            intro A W hv hlen hJ hbase hdL hdH
                            have e5 : A.eval (.tmp 5) = ptr gw := hbase 5 (by kernel_rfl)
                            have f5 : A.tmps[5]?.getD undef = ptr gw := by simpa [Act.eval] using e5
                            exact light_val rfl (v := ptr gw) (by simp [execOp, e5, f5]) hJ rfl
                          case o1 =>
                            intro A W hv hlen hJ hbase hdL hdH
                            obtain rfl : hv = [] := List.eq_nil_of_length_eq_zero hlen
                            obtain rfl := (show W = _ from hJ)
                            exact heavy_val rfl (v := .slice (some ⟨W.heap.size, 0, none⟩) 0 0) (w' := W.alloc (.cells #[] 3)) (by simp [execOp, go_sem]) ⟨rfl, rfl⟩
                          case o2 =>
                            intro A W hv hlen hJ hbase hdL hdH
                            have e5 : A.eval (.tmp 5) = ptr gw := hbase 5 (by kernel_rfl)
                            have f5 : A.tmps[5]?.getD undef = ptr gw := by simpa [Act.eval] using e5
                            exact light_val rfl (v := ptr gw) (by simp [execOp, e5, f5]) hJ rfl
                          case o3 =>
                            intro A W hv hlen hJ hbase hdL hdH
                            have e118 : A.eval (.tmp 118) = ptr gw := hdL 2 118 (by kernel_rfl) (by kernel_rfl) (by kernel_rfl)
                            have f118 : A.tmps[118]?.getD undef = ptr gw := by simpa [Act.eval] using e118
                            exact light_val rfl (v := ptr gw) (by simp [execOp, go_sem, e118, f118]) hJ rfl
                          case o4 =>
                            intro A W hv hlen hJ hbase hdL hdH
                            have e119 : A.eval (.tmp 119) = ptr gw := hdL 3 119 (by kernel_rfl) (by kernel_rfl) (by kernel_rfl)
                            have f119 : A.tmps[119]?.getD undef = ptr gw := by simpa [Act.eval] using e119
                            exact light_val rfl (v := .pointer (some ⟨gw, 1, none⟩)) (by simp [execOp, go_sem, e119, f119]) hJ rfl
                          case o5 =>
                            intro A W hv hlen hJ hbase hdL hdH
                            have e120 : A.eval (.tmp 120) = .pointer (some ⟨gw, 1, none⟩) := hdL 4 120 (by kernel_rfl) (by kernel_rfl) (by kernel_rfl)
                            have f120 : A.tmps[120]?.getD undef = .pointer (some ⟨gw, 1, none⟩) := by simpa [Act.eval] using e120
                            have hb := hlen.2 6 3 19 rfl (by kernel_rfl)
                            have hc := (JRm.fr hJ hb).cell k1r (fun q => q)
                            exact light_val rfl (v := .slice (some ⟨br, orr, none⟩) R.length cr) (by simp [execOp, go_sem, e120, f120, hc]) hJ rfl
                          case o6 =>
                            intro A W hv hlen hJ hbase hdL hdH
                            have e9 : A.eval (.tmp 9) = .int .i64 (q : Int) := hbase 9 (by kernel_rfl)
                            have f9 : A.tmps[9]?.getD undef = .int .i64 (q : Int) := by simpa [Act.eval] using e9
                            exact light_val rfl (v := .int .i64 (q : Int)) (by simp [execOp, e9, f9]) hJ rfl
                          case o7 =>
                            intro A W hv hlen hJ hbase hdL hdH
                            have e121 : A.eval (.tmp 121) = .slice (some ⟨br, orr, none⟩) R.length cr := hdL 5 121 (by kernel_rfl) (by kernel_rfl) (by kernel_rfl)
                            have f121 : A.tmps[121]?.getD undef = .slice (some ⟨br, orr, none⟩) R.length cr := by simpa [Act.eval] using e121
                            have e122 : A.eval (.tmp 122) = .int .i64 (q : Int) := hdL 6 122 (by kernel_rfl) (by kernel_rfl) (by kernel_rfl)
                            have f122 : A.tmps[122]?.getD undef = .int .i64 (q : Int) := by simpa [Act.eval] using e122
                            have hr := hrA W
                            exact light_val rfl (v := VA) (by simp [execOp, e121, e122, hr, Result.andThen]) hJ rfl
                          case o8 =>
                            intro A W hv hlen hJ hbase hdL hdH
                            have e123 : A.eval (.tmp 123) = VA := hdL 7 123 (by kernel_rfl) (by kernel_rfl) (by kernel_rfl)
                            have f123 : A.tmps[123]?.getD undef = VA := by simpa [Act.eval] using e123
                            obtain ⟨v77, rfl⟩ := List.length_eq_one_iff.1 hlen
                            obtain ⟨rfl, rfl⟩ := hJ
                            have e117 : A.eval (.tmp 117) = .slice (some ⟨w0r.heap.size, 0, none⟩) 0 0 := by have := hdH 1 117 0 (by kernel_rfl) rfl (by kernel_rfl); simpa using this.symm
                            refine heavy_wp rfl ?_
                            have f1 : Fr noB w0r (w0r.alloc (.cells #[] 3)) := (Fr.refl _ _).alloc _
                            refine wp_appN (ec := en64) (sz := 1) (base := w0r.heap.size) (.tmp 117) (.tmp 123) 39 rfl _ 8 Try.underlying39 info_int rfl (by decide) _ e117 (OwnR.empty w0r _ (Nat.le_refl _)) _ (R.take q) e123 (slR_of_slI ((hSA.fr0 f0r).fr0 f1)) (by intro y hy u hu; simp at hu; subst hu; rfl) (by unfold maxLen; simp only [List.length_nil]; omega) (by simp only [List.length_nil]; omega) f1.size ?_
                            intro v' w' hO' hg'
                            exact ⟨v', rfl, by simpa using hO', f1.grown hg' (fun k hk hlt => by cases hk; exact absurd hlt (Nat.lt_irrefl _))⟩
                          case o9 =>
                            intro A W hv hlen hJ hbase hdL hdH
                            have e5 : A.eval (.tmp 5) = ptr gw := hbase 5 (by kernel_rfl)
                            have f5 : A.tmps[5]?.getD undef = ptr gw := by simpa [Act.eval] using e5
                            exact light_val rfl (v := ptr gw) (by simp [execOp, e5, f5]) hJ rfl
                          case o10 =>
                            intro A W hv hlen hJ hbase hdL hdH
                            have e125 : A.eval (.tmp 125) = ptr gw := hdL 9 125 (by kernel_rfl) (by kernel_rfl) (by kernel_rfl)
                            have f125 : A.tmps[125]?.getD undef = ptr gw := by simpa [Act.eval] using e125
                            exact light_val rfl (v := ptr gw) (by simp [execOp, go_sem, e125, f125]) hJ rfl
                          case o11 =>
                            intro A W hv hlen hJ hbase hdL hdH
                            have e126 : A.eval (.tmp 126) = ptr gw := hdL 10 126 (by kernel_rfl) (by kernel_rfl) (by kernel_rfl)
                            have f126 : A.tmps[126]?.getD undef = ptr gw := by simpa [Act.eval] using e126
                            exact light_val rfl (v := .pointer (some ⟨gw, 1, none⟩)) (by simp [execOp, go_sem, e126, f126]) hJ rfl
                          case o12 =>
                            intro A W hv hlen hJ hbase hdL hdH
                            have e127 : A.eval (.tmp 127) = .pointer (some ⟨gw, 1, none⟩) := hdL 11 127 (by kernel_rfl) (by kernel_rfl) (by kernel_rfl)
                            have f127 : A.tmps[127]?.getD undef = .pointer (some ⟨gw, 1, none⟩) := by simpa [Act.eval] using e127
                            have hb := hlen.2 6 3 19 rfl (by kernel_rfl)
                            have hc := (JRm.fr hJ hb).cell k1r (fun q => q)
                            exact light_val rfl (v := .slice (some ⟨br, orr, none⟩) R.length cr) (by simp [execOp, go_sem, e127, f127, hc]) hJ rfl
                          case o13 =>
                            intro A W hv hlen hJ hbase hdL hdH
                            have e9 : A.eval (.tmp 9) = .int .i64 (q : Int) := hbase 9 (by kernel_rfl)
                            have f9 : A.tmps[9]?.getD undef = .int .i64 (q : Int) := by simpa [Act.eval] using e9
                            exact light_val rfl (v := .int .i64 (q : Int)) (by simp [execOp, e9, f9]) hJ rfl
                          case o14 =>
                            intro A W hv hlen hJ hbase hdL hdH
                            have e129 : A.eval (.tmp 129) = .int .i64 (q : Int) := hdL 13 129 (by kernel_rfl) (by kernel_rfl) (by kernel_rfl)
                            have f129 : A.tmps[129]?.getD undef = .int .i64 (q : Int) := by simpa [Act.eval] using e129
                            exact light_val rfl (v := .int .i64 ((q : Int) + 1)) (by simp [execOp, go_sem, e129, f129, hq1]) hJ rfl
                          case o15 =>
                            intro A W hv hlen hJ hbase hdL hdH
                            have e128 : A.eval (.tmp 128) = .slice (some ⟨br, orr, none⟩) R.length cr := hdL 12 128 (by kernel_rfl) (by kernel_rfl) (by kernel_rfl)
                            have f128 : A.tmps[128]?.getD undef = .slice (some ⟨br, orr, none⟩) R.length cr := by simpa [Act.eval] using e128
                            have e130 : A.eval (.tmp 130) = .int .i64 ((q : Int) + 1) := hdL 14 130 (by kernel_rfl) (by kernel_rfl) (by kernel_rfl)
                            have f130 : A.tmps[130]?.getD undef = .int .i64 ((q : Int) + 1) := by simpa [Act.eval] using e130
                            have hr := hrB W
                            exact light_val rfl (v := VB) (by simp [execOp, e128, e130, hr, Result.andThen]) hJ rfl
                          case o16 =>
                            intro A W hv hlen hJ hbase hdL hdH
                            have e131 : A.eval (.tmp 131) = VB := hdL 15 131 (by kernel_rfl) (by kernel_rfl) (by kernel_rfl)
                            have f131 : A.tmps[131]?.getD undef = VB := by simpa [Act.eval] using e131
                            match hv, hlen with
                            | [x117, v124], _ =>
                              obtain ⟨hO, hf'⟩ := hJ
                              have e124 : A.eval (.tmp 124) = v124 := by have := hdH 8 124 1 (by kernel_rfl) rfl (by kernel_rfl); simpa using this.symm
                              refine heavy_wp rfl ?_
                              refine wp_appN (ec := en64) (sz := 1) (base := w0r.heap.size) (.tmp 124) (.tmp 131) 39 rfl _ 8 Try.underlying39 info_int rfl (by decide) _ e124 hO _ (R.drop (q + 1)) e131 (slR_of_slI ((hSB.fr0 f0r).fr0 hf')) (by intro y hy u hu; simp at hu; subst hu; rfl) (by unfold maxLen; omega) (by omega) hf'.size ?_
                              intro v' w' hO' hg'
                              exact ⟨v', rfl, hO', hf'.grown hg' (fun k hk hlt => absurd (hO.newB k hk).1 (by omega))⟩
                          case o17 =>
                            intro A W hv hlen hJ hbase hdL hdH
                            have e116 : A.eval (.tmp 116) = ptr gw := hdL 0 116 (by kernel_rfl) (by kernel_rfl) (by kernel_rfl)
                            have f116 : A.tmps[116]?.getD undef = ptr gw := by simpa [Act.eval] using e116
                            exact light_val rfl (v := ptr gw) (by simp [execOp, go_sem, e116, f116]) hJ rfl
                          case o18 =>
                            intro A W hv hlen hJ hbase hdL hdH
                            have e133 : A.eval (.tmp 133) = ptr gw := hdL 17 133 (by kernel_rfl) (by kernel_rfl) (by kernel_rfl)
                            have f133 : A.tmps[133]?.getD undef = ptr gw := by simpa [Act.eval] using e133
                            exact light_val rfl (v := .pointer (some ⟨gw, 1, none⟩)) (by simp [execOp, go_sem, e133, f133]) hJ rfl
                          case o19 =>
                            intro A W hv hlen hJ hbase hdL hdH
                            have e134 : A.eval (.tmp 134) = .pointer (some ⟨gw, 1, none⟩) := hdL 18 134 (by kernel_rfl) (by kernel_rfl) (by kernel_rfl)
                            have f134 : A.tmps[134]?.getD undef = .pointer (some ⟨gw, 1, none⟩) := by simpa [Act.eval] using e134
                            match hv, hlen with
                            | [x117, x124, v132], _ =>
                              obtain ⟨hO', hf'⟩ := hJ
                              have e132 : A.eval (.tmp 132) = v132 := by have := hdH 16 132 2 (by kernel_rfl) rfl (by kernel_rfl); simpa using this.symm
                              have hB2 := bxr.fr0 hf'
                              obtain ⟨a6, c6, hv6⟩ := hO'.opn
                              have hr := run_st1 (P := Try.prog) (off := 1) 39 size_sI v132 (by rw [hv6]; rfl) _ _ hB2 (by simp)
                              have hb2 := hB2.set 1 v132
                              have hgw : ∀ k, v132.ownBlock = some k → k ≠ gw := by
                                intro k hk
                                have := (hO'.newB k hk).1
                                omega
                              refine heavy_wp rfl ?_
                              unfold Oper.wp execOp
                              simp only [e132, e134, Sem.run_bind, hr, Result.andThen_ok]
                              refine ⟨undef, rfl, ?_, ?_, ?_⟩
                              · exact hO'.ne ((Fr.refl (onB1 gw) _).setCell _ _ (fun _ => rfl)) hgw
                              · exact (hf'.mono (fun k _ q => q.elim)).setCell _ _ (fun _ => rfl)
                              · simpa using hb2
                          case oe =>
                            intro vs W'r hv hlen hJ hL hH
                            match hv, hlen with
                            | [y117, y124, vR, yst], _ =>
                              obtain ⟨oR, fR, bR⟩ := hJ
                              simp only [layL, Nat.reduceAdd, Act.put, List.setIfInBounds_toArray, List.set_cons_zero, List.set_cons_succ]
                              clear hL hH
                              generalize vs 0 = y100 at *
                              generalize vs 1 = y101 at *
                              generalize vs 2 = y102 at *
                              generalize vs 3 = y103 at *
                              generalize vs 4 = y104 at *
                              generalize vs 5 = y105 at *
                              generalize vs 6 = y106 at *
                              generalize vs 7 = y107 at *
                              generalize vs 8 = y108 at *
                              generalize vs 9 = y109 at *
                              generalize vs 10 = y110 at *
                              generalize vs 11 = y111 at *
                              generalize vs 12 = y112 at *
                              generalize vs 13 = y113 at *
                              generalize vs 14 = y114 at *
                              generalize vs 15 = y115 at *
                              generalize vs 16 = y116 at *
                              generalize vs 17 = y117 at *
                              generalize vs 18 = y118 at *
                              generalize vs 19 = y119 at *
                              have F7 := (f0r.mono (T := onB1 gw) (fun _ _ q => q.elim)).trans fR
                              have W7 : Wd W'r F gs gp gw w.heap.size vR X L5 m (R.take q ++ R.drop (q + 1)) :=
                                Wd5.app (F7.mono (fun k _ q => Or.inr q)) bR (oR.rebase (by have := D.size; omega)) (fun k hk => Or.inr (by have := (oR.newB k hk).1; omega)) (fun z hz => by
                                  rcases List.mem_append.1 hz with hz | hz
                                  · exact hwf z (List.mem_of_mem_take hz)
                                  · exact hwf z (List.mem_of_mem_drop hz))
                              have hl7 : (R.take q ++ R.drop (q + 1)).length ≤ j + 1 := by rw [List.length_append, List.length_take, List.length_drop]; omega
                              obtain ⟨R7, H7⟩ : ∃ R7, Hid (R.take q ++ R.drop (q + 1) = R7) := ⟨_, rfl⟩
                              rw [H7.out] at W7 hI5 hl7
                              go_wp2_with (first
                                | (go_at_call 17; go_must (refine (exact_any _ W7 (by omega) hI5.out (by omega)).mono ?_; rintro e w9 ⟨rfl, f9⟩)))
                              go_roundw
                              case rel => exact ⟨j + 1, F, _, X, L5, m, R7, by omega, by go_num, W7.fr0 f9, hF, by omega, by omega, hI5, (((D.thenN F2).thenT Fd holdP).thenT F7 holdW).thenN f9⟩
                              case measure => simp [intOf]; omega
                    · rcases hI.out.hold (r := y) (by rw [← Hy.out]; simp) with ⟨L5, hho, hI5⟩ | hho
                      · replace hI5 := show Hid _ from hI5
                        rw [hk] at q0 ⊢
                        go_wp2
                        have W2 := hW.fr0 F2
                        obtain ⟨w0a, HWa⟩ : ∃ w0, Hid (w2.drew = w0) := ⟨_, rfl⟩
                        have f0a : Fr noB w2 w0a := by rw [← HWa.out]; exact (Fr.refl _ _).drew
                        have z0a := f0a.size
                        have q1a := f0a.cell q1 (fun q => q)
                        have k1a := f0a.cell k12 (fun q => q)
                        refine wp_region_chain_layT (by kernel_rfl) [] [none, none, none, none, none, none, none, none, none, none, none]
                          [fun v => v = .pointer (some ⟨ga, 1, none⟩), fun v => v = .int .i64 x.at', fun v => v = ptr gw, fun v => v = ptr gw, fun v => v = .pointer (some ⟨gw, 1, none⟩), fun v => v = .slice ar R.length cr, fun v => v = .int .i64 (R.length : Int), fun v => v = .int .i64 ((R.length : Int) - 1), fun v => v = .int .i64 (min x.at' ((R.length : Int) - 1)), fun v => v = .int .i64 (q : Int), fun v => v = .int .i64 (q : Int)]
                          (JQX w0a) (by rw [HWa.out]; exact rfl) (by kernel_rfl) (by kernel_rfl) (by decide) ⟨?o0, ?o1, ?o2, ?o3, ?o4, ?o5, ?o6, ?o7, ?o8, ?o9, ?o10, trivial⟩ ?oe
                        case o0 =>
                          intro A W hv hlen hJ hbase hdL hdH
                          have e7 : A.eval (.tmp 7) = ptr ga := hbase 7 (by kernel_rfl)
                          have f7 : A.tmps[7]?.getD undef = ptr ga := by simpa [Act.eval] using e7
                          exact light_val rfl (v := .pointer (some ⟨ga, 1, none⟩)) (by simp [execOp, go_sem, e7, f7]) hJ rfl
                        case o1 =>
                          intro A W hv hlen hJ hbase hdL hdH
                          have e61 : A.eval (.tmp 61) = .pointer (some ⟨ga, 1, none⟩) := hdL 0 61 (by kernel_rfl) (by kernel_rfl) (by kernel_rfl)
                          have f61 : A.tmps[61]?.getD undef = .pointer (some ⟨ga, 1, none⟩) := by simpa [Act.eval] using e61
                          have hc := ((show Fr noB w0a W by rw [show W = w0a from hJ]; exact Fr.refl _ _)).cell q1a (fun q => q)
                          exact light_val rfl (v := .int .i64 x.at') (by simp [execOp, go_sem, e61, f61, hc]) hJ rfl
                        case o2 =>
                          intro A W hv hlen hJ hbase hdL hdH
                          have e5 : A.eval (.tmp 5) = ptr gw := hbase 5 (by kernel_rfl)
                          have f5 : A.tmps[5]?.getD undef = ptr gw := by simpa [Act.eval] using e5
                          exact light_val rfl (v := ptr gw) (by simp [execOp, e5, f5]) hJ rfl
                        case o3 =>
                          intro A W hv hlen hJ hbase hdL hdH
                          have e63 : A.eval (.tmp 63) = ptr gw := hdL 2 63 (by kernel_rfl) (by kernel_rfl) (by kernel_rfl)
                          have f63 : A.tmps[63]?.getD undef = ptr gw := by simpa [Act.eval] using e63
                          exact light_val rfl (v := ptr gw) (by simp [execOp, go_sem, e63, f63]) hJ rfl
                        case o4 =>
                          intro A W hv hlen hJ hbase hdL hdH
                          have e64 : A.eval (.tmp 64) = ptr gw := hdL 3 64 (by kernel_rfl) (by kernel_rfl) (by kernel_rfl)
                          have f64 : A.tmps[64]?.getD undef = ptr gw := by simpa [Act.eval] using e64
                          exact light_val rfl (v := .pointer (some ⟨gw, 1, none⟩)) (by simp [execOp, go_sem, e64, f64]) hJ rfl
                        case o5 =>
                          intro A W hv hlen hJ hbase hdL hdH
                          have e65 : A.eval (.tmp 65) = .pointer (some ⟨gw, 1, none⟩) := hdL 4 65 (by kernel_rfl) (by kernel_rfl) (by kernel_rfl)
                          have f65 : A.tmps[65]?.getD undef = .pointer (some ⟨gw, 1, none⟩) := by simpa [Act.eval] using e65
                          have hc := ((show Fr noB w0a W by rw [show W = w0a from hJ]; exact Fr.refl _ _)).cell k1a (fun q => q)
                          exact light_val rfl (v := .slice ar R.length cr) (by simp [execOp, go_sem, e65, f65, hc]) hJ rfl
                        case o6 =>
                          intro A W hv hlen hJ hbase hdL hdH
                          have e66 : A.eval (.tmp 66) = .slice ar R.length cr := hdL 5 66 (by kernel_rfl) (by kernel_rfl) (by kernel_rfl)
                          have f66 : A.tmps[66]?.getD undef = .slice ar R.length cr := by simpa [Act.eval] using e66
                          exact light_val rfl (v := .int .i64 (R.length : Int)) (by simp [execOp, resolve, invoke, builtin, Builtin.len_, go_sem, e66, f66]) hJ rfl
                        case o7 =>
                          intro A W hv hlen hJ hbase hdL hdH
                          have e67 : A.eval (.tmp 67) = .int .i64 (R.length : Int) := hdL 6 67 (by kernel_rfl) (by kernel_rfl) (by kernel_rfl)
                          have f67 : A.tmps[67]?.getD undef = .int .i64 (R.length : Int) := by simpa [Act.eval] using e67
                          exact light_val rfl (v := .int .i64 ((R.length : Int) - 1)) (by simp [execOp, go_sem, e67, f67, hwrp.out]) hJ rfl
                        case o8 =>
                          intro A W hv hlen hJ hbase hdL hdH
                          have e62 : A.eval (.tmp 62) = .int .i64 x.at' := hdL 1 62 (by kernel_rfl) (by kernel_rfl) (by kernel_rfl)
                          have f62 : A.tmps[62]?.getD undef = .int .i64 x.at' := by simpa [Act.eval] using e62
                          have e68 : A.eval (.tmp 68) = .int .i64 ((R.length : Int) - 1) := hdL 7 68 (by kernel_rfl) (by kernel_rfl) (by kernel_rfl)
                          have f68 : A.tmps[68]?.getD undef = .int .i64 ((R.length : Int) - 1) := by simpa [Act.eval] using e68
                          exact light_val rfl (v := .int .i64 (min x.at' ((R.length : Int) - 1))) (by simp [execOp, resolve, invoke, builtin, go_sem, e62, f62, e68, f68]) hJ rfl
                        case o9 =>
                          intro A W hv hlen hJ hbase hdL hdH
                          have e69 : A.eval (.tmp 69) = .int .i64 (min x.at' ((R.length : Int) - 1)) := hdL 8 69 (by kernel_rfl) (by kernel_rfl) (by kernel_rfl)
                          have f69 : A.tmps[69]?.getD undef = .int .i64 (min x.at' ((R.length : Int) - 1)) := by simpa [Act.eval] using e69
                          exact light_val rfl (v := .int .i64 (q : Int)) (by rw [← hq.out]; simp [execOp, resolve, invoke, builtin, go_sem, e69, f69]) hJ rfl
                        case o10 =>
                          intro A W hv hlen hJ hbase hdL hdH
                          have e70 : A.eval (.tmp 70) = .int .i64 (q : Int) := hdL 9 70 (by kernel_rfl) (by kernel_rfl) (by kernel_rfl)
                          have f70 : A.tmps[70]?.getD undef = .int .i64 (q : Int) := by simpa [Act.eval] using e70
                          exact light_val rfl (v := .int .i64 (q : Int)) (by simp [execOp, e70, f70]) hJ rfl
                        case oe =>
                          intro vs W'a hv hlen hJ hL hH
                          have x0 : vs 0 = .pointer (some ⟨ga, 1, none⟩) := hL 0 (by kernel_rfl) (by kernel_rfl)
                          have x1 : vs 1 = .int .i64 x.at' := hL 1 (by kernel_rfl) (by kernel_rfl)
                          have x2 : vs 2 = ptr gw := hL 2 (by kernel_rfl) (by kernel_rfl)
                          have x3 : vs 3 = ptr gw := hL 3 (by kernel_rfl) (by kernel_rfl)
                          have x4 : vs 4 = .pointer (some ⟨gw, 1, none⟩) := hL 4 (by kernel_rfl) (by kernel_rfl)
                          have x5 : vs 5 = .slice ar R.length cr := hL 5 (by kernel_rfl) (by kernel_rfl)
                          have x6 : vs 6 = .int .i64 (R.length : Int) := hL 6 (by kernel_rfl) (by kernel_rfl)
                          have x7 : vs 7 = .int .i64 ((R.length : Int) - 1) := hL 7 (by kernel_rfl) (by kernel_rfl)
                          have x8 : vs 8 = .int .i64 (min x.at' ((R.length : Int) - 1)) := hL 8 (by kernel_rfl) (by kernel_rfl)
                          have x9 : vs 9 = .int .i64 (q : Int) := hL 9 (by kernel_rfl) (by kernel_rfl)
                          have x10 : vs 10 = .int .i64 (q : Int) := hL 10 (by kernel_rfl) (by kernel_rfl)
                          simp only [layL, Nat.reduceAdd, Act.put, List.setIfInBounds_toArray, List.set_cons_zero, List.set_cons_succ, x0, x1, x2, x3, x4, x5, x6, x7, x8, x9, x10]
                          clear x0 x1 x2 x3 x4 x5 x6 x7 x8 x9 x10 hL hH
                          obtain rfl := (show W'a = w0a from hJ)
                          clear hJ hlen
                          have hroW := W2.row
                          obtain ⟨br, orr, cr', hve, hcel⟩ := hroW.sl.addr (by decide) (by omega)
                          cases hve
                          have hkq : w2.cell? ⟨br, orr + q, none⟩ = some (.int .i64 y) := by have := hcel q hqR 0 (.int .i64 y) (by rw [Hy.out]; rfl); rwa [Nat.mul_one] at this
                          have hbrw := W2.ap br rfl
                          have q0a := f0a.cell q0 (fun q => q)
                          go_wp2_with fail
                          obtain ⟨w0d, HWd⟩ : ∃ w0, Hid (W'a.drew = w0) := ⟨_, rfl⟩
                          have f0d : Fr noB W'a w0d := by rw [← HWd.out]; exact (Fr.refl _ _).drew
                          have z0d := f0d.size
                          have fad := f0a.thenN f0d
                          have k0x := fad.cell k02 (fun q => q)
                          have k1x := fad.cell k12 (fun q => q)
                          have kqx := fad.cell hkq (fun q => q)
                          have nPw : ¬ onB1 gp gw := fun q => hnp q
                          have nPb : ¬ onB1 gp br := fun q => hbrw.2.1 q
                          refine wp_region_chain_layT (by kernel_rfl) [11] [none, none, none, none, none, none, none, none, none, none, none, some 0, none]
                            [fun v => v = ptr gw, fun v => v = ptr gw, fun v => v = .pointer (some ⟨gw, 0, none⟩), fun v => v = ptr gs, fun v => v = ptr gw, fun v => v = ptr gw, fun v => v = .pointer (some ⟨gw, 1, none⟩), fun v => v = .slice (some ⟨br, orr, none⟩) R.length cr, fun v => v = .int .i64 (q : Int), fun v => v = .pointer (some ⟨br, orr + q, none⟩), fun v => v = .int .i64 y, fun _ => True, fun v => v = .bool true]
                            (JSW w0d (onB1 gp) (.int .i64 0) (fun W => Sto W F gs gp X L5 m)) (HWd.out) (by kernel_rfl) (by kernel_rfl) (by decide) ⟨?o0, ?o1, ?o2, ?o3, ?o4, ?o5, ?o6, ?o7, ?o8, ?o9, ?o10, ?o11, ?o12, trivial⟩ ?oe
                          case o0 =>
                            intro A W hv hlen hJ hbase hdL hdH
                            have e5 : A.eval (.tmp 5) = ptr gw := hbase 5 (by kernel_rfl)
                            have f5 : A.tmps[5]?.getD undef = ptr gw := by simpa [Act.eval] using e5
                            exact light_val rfl (v := ptr gw) (by simp [execOp, e5, f5]) hJ rfl
                          case o1 =>
                            intro A W hv hlen hJ hbase hdL hdH
                            have e74 : A.eval (.tmp 74) = ptr gw := hdL 0 74 (by kernel_rfl) (by kernel_rfl) (by kernel_rfl)
                            have f74 : A.tmps[74]?.getD undef = ptr gw := by simpa [Act.eval] using e74
                            exact light_val rfl (v := ptr gw) (by simp [execOp, go_sem, e74, f74]) hJ rfl
                          case o2 =>
                            intro A W hv hlen hJ hbase hdL hdH
                            have e75 : A.eval (.tmp 75) = ptr gw := hdL 1 75 (by kernel_rfl) (by kernel_rfl) (by kernel_rfl)
                            have f75 : A.tmps[75]?.getD undef = ptr gw := by simpa [Act.eval] using e75
                            exact light_val rfl (v := .pointer (some ⟨gw, 0, none⟩)) (by simp [execOp, go_sem, e75, f75]) hJ rfl
                          case o3 =>
                            intro A W hv hlen hJ hbase hdL hdH
                            have e76 : A.eval (.tmp 76) = .pointer (some ⟨gw, 0, none⟩) := hdL 2 76 (by kernel_rfl) (by kernel_rfl) (by kernel_rfl)
                            have f76 : A.tmps[76]?.getD undef = .pointer (some ⟨gw, 0, none⟩) := by simpa [Act.eval] using e76
                            have hc := (JSW.fr hJ).cell k0x (nPw)
                            exact light_val rfl (v := ptr gs) (by simp [execOp, go_sem, e76, f76, hc]) hJ rfl
                          case o4 =>
                            intro A W hv hlen hJ hbase hdL hdH
                            have e5 : A.eval (.tmp 5) = ptr gw := hbase 5 (by kernel_rfl)
                            have f5 : A.tmps[5]?.getD undef = ptr gw := by simpa [Act.eval] using e5
                            exact light_val rfl (v := ptr gw) (by simp [execOp, e5, f5]) hJ rfl
                          case o5 =>
                            intro A W hv hlen hJ hbase hdL hdH
                            have e78 : A.eval (.tmp 78) = ptr gw := hdL 4 78 (by kernel_rfl) (by kernel_rfl) (by kernel_rfl)
                            have f78 : A.tmps[78]?.getD undef = ptr gw := by simpa [Act.eval] using e78
                            exact light_val rfl (v := ptr gw) (by simp [execOp, go_sem, e78, f78]) hJ rfl
                          case o6 =>
                            intro A W hv hlen hJ hbase hdL hdH
                            have e79 : A.eval (.tmp 79) = ptr gw := hdL 5 79 (by kernel_rfl) (by kernel_rfl) (by kernel_rfl)
                            have f79 : A.tmps[79]?.getD undef = ptr gw := by simpa [Act.eval] using e79
                            exact light_val rfl (v := .pointer (some ⟨gw, 1, none⟩)) (by simp [execOp, go_sem, e79, f79]) hJ rfl
                          case o7 =>
                            intro A W hv hlen hJ hbase hdL hdH
                            have e80 : A.eval (.tmp 80) = .pointer (some ⟨gw, 1, none⟩) := hdL 6 80 (by kernel_rfl) (by kernel_rfl) (by kernel_rfl)
                            have f80 : A.tmps[80]?.getD undef = .pointer (some ⟨gw, 1, none⟩) := by simpa [Act.eval] using e80
                            have hc := (JSW.fr hJ).cell k1x (nPw)
                            exact light_val rfl (v := .slice (some ⟨br, orr, none⟩) R.length cr) (by simp [execOp, go_sem, e80, f80, hc]) hJ rfl
                          case o8 =>
                            intro A W hv hlen hJ hbase hdL hdH
                            have e9 : A.eval (.tmp 9) = .int .i64 (q : Int) := hbase 9 (by kernel_rfl)
                            have f9 : A.tmps[9]?.getD undef = .int .i64 (q : Int) := by simpa [Act.eval] using e9
                            exact light_val rfl (v := .int .i64 (q : Int)) (by simp [execOp, e9, f9]) hJ rfl
                          case o9 =>
                            intro A W hv hlen hJ hbase hdL hdH
                            have e81 : A.eval (.tmp 81) = .slice (some ⟨br, orr, none⟩) R.length cr := hdL 7 81 (by kernel_rfl) (by kernel_rfl) (by kernel_rfl)
                            have f81 : A.tmps[81]?.getD undef = .slice (some ⟨br, orr, none⟩) R.length cr := by simpa [Act.eval] using e81
                            have e82 : A.eval (.tmp 82) = .int .i64 (q : Int) := hdL 8 82 (by kernel_rfl) (by kernel_rfl) (by kernel_rfl)
                            have f82 : A.tmps[82]?.getD undef = .int .i64 (q : Int) := by simpa [Act.eval] using e82
                            have hr := (by have := run_idxS (P := Try.prog) (w := W) 39 3 Try.underlying39 int_size1 br orr R.length cr .i64 q hqR; rwa [Nat.mul_one] at this)
                            exact light_val rfl (v := .pointer (some ⟨br, orr + q, none⟩)) (by simp [execOp, e81, e82, hr, Result.andThen]) hJ rfl
                          case o10 =>
                            intro A W hv hlen hJ hbase hdL hdH
                            have e83 : A.eval (.tmp 83) = .pointer (some ⟨br, orr + q, none⟩) := hdL 9 83 (by kernel_rfl) (by kernel_rfl) (by kernel_rfl)
                            have f83 : A.tmps[83]?.getD undef = .pointer (some ⟨br, orr + q, none⟩) := by simpa [Act.eval] using e83
                            have hc := (JSW.fr hJ).cell kqx (nPb)
                            exact light_val rfl (v := .int .i64 y) (by simp [execOp, go_sem, e83, f83, hc]) hJ rfl
                          case o11 =>
                            intro A W hv hlen hJ hbase hdL hdH
                            have e77 : A.eval (.tmp 77) = ptr gs := hdL 3 77 (by kernel_rfl) (by kernel_rfl) (by kernel_rfl)
                            have f77 : A.tmps[77]?.getD undef = ptr gs := by simpa [Act.eval] using e77
                            have e84 : A.eval (.tmp 84) = .int .i64 y := hdL 10 84 (by kernel_rfl) (by kernel_rfl) (by kernel_rfl)
                            have f84 : A.tmps[84]?.getD undef = .int .i64 y := by simpa [Act.eval] using e84
                            obtain rfl : hv = [] := List.eq_nil_of_length_eq_zero hlen
                            obtain rfl := (show W = _ from hJ)
                            refine heavy_call rfl (args := #[ptr gs, .int .i64 y]) (f := 10) (by simp [execOp, resolve, invoke, go_sem, e77, f77, e84, f84]) ?_
                            refine (hold_F y ((W2.st.fr0 f0a).fr0 f0d) hho).mono ?_
                            rintro e w' ⟨rfl, s, f⟩
                            exact ⟨_, rfl, rfl, s, f⟩
                          case o12 =>
                            intro A W hv hlen hJ hbase hdL hdH
                            have ev := JSW.val hJ (hdH 11 85 0 (by kernel_rfl) rfl (by kernel_rfl))
                            have fv : A.tmps[85]?.getD undef = .int .i64 0 := by simpa [Act.eval] using ev
                            exact light_val rfl (v := .bool true) (by simp [execOp, go_sem, ev, fv]) hJ rfl
                          case oe =>
                            intro vs W'd hv hlen hJ hL hH
                            have x0 : vs 0 = ptr gw := hL 0 (by kernel_rfl) (by kernel_rfl)
                            have x1 : vs 1 = ptr gw := hL 1 (by kernel_rfl) (by kernel_rfl)
                            have x2 : vs 2 = .pointer (some ⟨gw, 0, none⟩) := hL 2 (by kernel_rfl) (by kernel_rfl)
                            have x3 : vs 3 = ptr gs := hL 3 (by kernel_rfl) (by kernel_rfl)
                            have x4 : vs 4 = ptr gw := hL 4 (by kernel_rfl) (by kernel_rfl)
                            have x5 : vs 5 = ptr gw := hL 5 (by kernel_rfl) (by kernel_rfl)
                            have x6 : vs 6 = .pointer (some ⟨gw, 1, none⟩) := hL 6 (by kernel_rfl) (by kernel_rfl)
                            have x7 : vs 7 = .slice (some ⟨br, orr, none⟩) R.length cr := hL 7 (by kernel_rfl) (by kernel_rfl)
                            have x8 : vs 8 = .int .i64 (q : Int) := hL 8 (by kernel_rfl) (by kernel_rfl)
                            have x9 : vs 9 = .pointer (some ⟨br, orr + q, none⟩) := hL 9 (by kernel_rfl) (by kernel_rfl)
                            have x10 : vs 10 = .int .i64 y := hL 10 (by kernel_rfl) (by kernel_rfl)
                            have x11 : vs 11 = .int .i64 0 := JSW.val hJ (hH 0 11 rfl (by kernel_rfl))
                            have x12 : vs 12 = .bool true := hL 12 (by kernel_rfl) (by kernel_rfl)
                            simp only [layL, Nat.reduceAdd, Act.put, List.setIfInBounds_toArray, List.set_cons_zero, List.set_cons_succ, x0, x1, x2, x3, x4, x5, x6, x7, x8, x9, x10, x11, x12]
                            clear x0 x1 x2 x3 x4 x5 x6 x7 x8 x9 x10 x11 x12 hL hH
                            obtain ⟨hQd, fQd⟩ := JSW.end hJ hlen
                            clear hJ hlen
                            have Fd : Fr (onB1 gp) w2 W'd := ((f0a.thenN f0d).mono (fun _ _ q => q.elim)).trans fQd
                            have Wd5 := W2.pl Fd hQd
                            have zd := Fd.size
                            have k0d := Fd.cell k02 (fun q => hnp q)
                            have k1d := Fd.cell k12 (fun q => hnp q)
                            have hkqd := Fd.cell hkq (fun q => hbrw.2.1 q)
                            have lgwd := Wd5.bx.lt
                            have hbz := Fd.size
                            have hDz := D.size
                            go_wp2_with fail
                            obtain ⟨w0r, HWr⟩ : ∃ w0, Hid (W'd.drew = w0) := ⟨_, rfl⟩
                            have f0r : Fr noB W'd w0r := by rw [← HWr.out]; exact (Fr.refl _ _).drew
                            have z0r := f0r.size
                            have k1r := f0r.cell k1d (fun q => q)
                            have kqr := f0r.cell hkqd (fun q => q)
                            have rowr := Wd5.row.fr0 f0r
                            have bxr := Wd5.bx.fr0 f0r
                            refine wp_region_chain_layT (by kernel_rfl) [12, 13, 16] [none, none, none, none, none, none, none, none, none, none, none, none, some 0, some 1, none, none, some 2]
                              [fun v => v = ptr gw, fun v => v = ptr gw, fun v => v = ptr gw, fun v => v = .pointer (some ⟨gw, 1, none⟩), fun v => v = .slice (some ⟨br, orr, none⟩) R.length cr, fun v => v = ptr gw, fun v => v = ptr gw, fun v => v = .pointer (some ⟨gw, 1, none⟩), fun v => v = .slice (some ⟨br, orr, none⟩) R.length cr, fun v => v = .int .i64 (q : Int), fun v => v = .pointer (some ⟨br, orr + q, none⟩), fun v => v = .int .i64 y, fun _ => True, fun _ => True, fun v => v = ptr gw, fun v => v = .pointer (some ⟨gw, 1, none⟩), fun _ => True]
                              (JApp en64 1 3 41 w0r gw 1 [ptr gs, .slice (some ⟨br, orr, none⟩) R.length cr] w.heap.size (.slice (some ⟨br, orr, none⟩) R.length cr) R y) (HWr.out) (by kernel_rfl) (by kernel_rfl) (by decide) ⟨?o0, ?o1, ?o2, ?o3, ?o4, ?o5, ?o6, ?o7, ?o8, ?o9, ?o10, ?o11, ?o12, ?o13, ?o14, ?o15, ?o16, trivial⟩ ?oe
                            case o0 =>
                              intro A W hv hlen hJ hbase hdL hdH
                              have e5 : A.eval (.tmp 5) = ptr gw := hbase 5 (by kernel_rfl)
                              have f5 : A.tmps[5]?.getD undef = ptr gw := by simpa [Act.eval] using e5
                              exact light_val rfl (v := ptr gw) (by simp [execOp, e5, f5]) hJ rfl
                            case o1 =>
                              intro A W hv hlen hJ hbase hdL hdH
                              have e5 : A.eval (.tmp 5) = ptr gw := hbase 5 (by kernel_rfl)
                              have f5 : A.tmps[5]?.getD undef = ptr gw := by simpa [Act.eval] using e5
                              exact light_val rfl (v := ptr gw) (by simp [execOp, e5, f5]) hJ rfl
                            case o2 =>
                              intro A W hv hlen hJ hbase hdL hdH
                              have e88 : A.eval (.tmp 88) = ptr gw := hdL 1 88 (by kernel_rfl) (by kernel_rfl) (by kernel_rfl)
                              have f88 : A.tmps[88]?.getD undef = ptr gw := by simpa [Act.eval] using e88
                              exact light_val rfl (v := ptr gw) (by simp [execOp, go_sem, e88, f88]) hJ rfl
                            case o3 =>
                              intro A W hv hlen hJ hbase hdL hdH
                              have e89 : A.eval (.tmp 89) = ptr gw := hdL 2 89 (by kernel_rfl) (by kernel_rfl) (by kernel_rfl)
                              have f89 : A.tmps[89]?.getD undef = ptr gw := by simpa [Act.eval] using e89
                              exact light_val rfl (v := .pointer (some ⟨gw, 1, none⟩)) (by simp [execOp, go_sem, e89, f89]) hJ rfl
                            case o4 =>
                              intro A W hv hlen hJ hbase hdL hdH
                              have e90 : A.eval (.tmp 90) = .pointer (some ⟨gw, 1, none⟩) := hdL 3 90 (by kernel_rfl) (by kernel_rfl) (by kernel_rfl)
                              have f90 : A.tmps[90]?.getD undef = .pointer (some ⟨gw, 1, none⟩) := by simpa [Act.eval] using e90
                              have hb := hlen.2 0 1 13 rfl (by kernel_rfl)
                              have hc := (JApp.fr1 hJ hb).cell k1r (fun q => q)
                              exact light_val rfl (v := .slice (some ⟨br, orr, none⟩) R.length cr) (by simp [execOp, go_sem, e90, f90, hc]) hJ rfl
                            case o5 =>
                              intro A W hv hlen hJ hbase hdL hdH
                              have e5 : A.eval (.tmp 5) = ptr gw := hbase 5 (by kernel_rfl)
                              have f5 : A.tmps[5]?.getD undef = ptr gw := by simpa [Act.eval] using e5
                              exact light_val rfl (v := ptr gw) (by simp [execOp, e5, f5]) hJ rfl
                            case o6 =>
                              intro A W hv hlen hJ hbase hdL hdH
                              have e92 : A.eval (.tmp 92) = ptr gw := hdL 5 92 (by kernel_rfl) (by kernel_rfl) (by kernel_rfl)
                              have f92 : A.tmps[92]?.getD undef = ptr gw := by simpa [Act.eval] using e92
                              exact light_val rfl (v := ptr gw) (by simp [execOp, go_sem, e92, f92]) hJ rfl
                            case o7 =>
                              intro A W hv hlen hJ hbase hdL hdH
                              have e93 : A.eval (.tmp 93) = ptr gw := hdL 6 93 (by kernel_rfl) (by kernel_rfl) (by kernel_rfl)
                              have f93 : A.tmps[93]?.getD undef = ptr gw := by simpa [Act.eval] using e93
                              exact light_val rfl (v := .pointer (some ⟨gw, 1, none⟩)) (by simp [execOp, go_sem, e93, f93]) hJ rfl
                            case o8 =>
                              intro A W hv hlen hJ hbase hdL hdH
                              have e94 : A.eval (.tmp 94) = .pointer (some ⟨gw, 1, none⟩) := hdL 7 94 (by kernel_rfl) (by kernel_rfl) (by kernel_rfl)
                              have f94 : A.tmps[94]?.getD undef = .pointer (some ⟨gw, 1, none⟩) := by simpa [Act.eval] using e94
                              have hb := hlen.2 6 0 12 rfl (by kernel_rfl)
                              have hc := (JApp.fr1 hJ (by omega)).cell k1r (fun q => q)
                              exact light_val rfl (v := .slice (some ⟨br, orr, none⟩) R.length cr) (by simp [execOp, go_sem, e94, f94, hc]) hJ rfl
                            case o9 =>
                              intro A W hv hlen hJ hbase hdL hdH
                              have e9 : A.eval (.tmp 9) = .int .i64 (q : Int) := hbase 9 (by kernel_rfl)
                              have f9 : A.tmps[9]?.getD undef = .int .i64 (q : Int) := by simpa [Act.eval] using e9
                              exact light_val rfl (v := .int .i64 (q : Int)) (by simp [execOp, e9, f9]) hJ rfl
                            case o10 =>
                              intro A W hv hlen hJ hbase hdL hdH
                              have e95 : A.eval (.tmp 95) = .slice (some ⟨br, orr, none⟩) R.length cr := hdL 8 95 (by kernel_rfl) (by kernel_rfl) (by kernel_rfl)
                              have f95 : A.tmps[95]?.getD undef = .slice (some ⟨br, orr, none⟩) R.length cr := by simpa [Act.eval] using e95
                              have e96 : A.eval (.tmp 96) = .int .i64 (q : Int) := hdL 9 96 (by kernel_rfl) (by kernel_rfl) (by kernel_rfl)
                              have f96 : A.tmps[96]?.getD undef = .int .i64 (q : Int) := by simpa [Act.eval] using e96
                              have hr := (by have := run_idxS (P := Try.prog) (w := W) 39 3 Try.underlying39 int_size1 br orr R.length cr .i64 q hqR; rwa [Nat.mul_one] at this)
                              exact light_val rfl (v := .pointer (some ⟨br, orr + q, none⟩)) (by simp [execOp, e95, e96, hr, Result.andThen]) hJ rfl
                            case o11 =>
                              intro A W hv hlen hJ hbase hdL hdH
                              have e97 : A.eval (.tmp 97) = .pointer (some ⟨br, orr + q, none⟩) := hdL 10 97 (by kernel_rfl) (by kernel_rfl) (by kernel_rfl)
                              have f97 : A.tmps[97]?.getD undef = .pointer (some ⟨br, orr + q, none⟩) := by simpa [Act.eval] using e97
                              have hb := hlen.2 0 0 12 rfl (by kernel_rfl)
                              have hc := (JApp.fr1 hJ (by omega)).cell kqr (fun q => q)
                              exact light_val rfl (v := .int .i64 y) (by simp [execOp, go_sem, e97, f97, hc]) hJ rfl
                            case o12 =>
                              intro A W hv hlen hJ hbase hdL hdH
                              have e98 : A.eval (.tmp 98) = .int .i64 y := hdL 11 98 (by kernel_rfl) (by kernel_rfl) (by kernel_rfl)
                              have f98 : A.tmps[98]?.getD undef = .int .i64 y := by simpa [Act.eval] using e98
                              obtain rfl : hv = [] := List.eq_nil_of_length_eq_zero hlen
                              obtain rfl := (show W = _ from hJ)
                              have hr := run_mk1 (P := Try.prog) (ec := en64) (sz := 1) 39 Try.underlying39 _ info_int2 (by decide) (by decide) y (.int .i64 y) rfl rfl W
                              exact heavy_val rfl (v := .slice (some ⟨W.heap.size, 0, none⟩) 1 1) (w' := W.alloc (.cells (en64 y).toArray 3)) (by simp only [execOp]; simp [e98, hr, Result.andThen]) ⟨rfl, rfl⟩
                            case o13 =>
                              intro A W hv hlen hJ hbase hdL hdH
                              have e91 : A.eval (.tmp 91) = .slice (some ⟨br, orr, none⟩) R.length cr := hdL 4 91 (by kernel_rfl) (by kernel_rfl) (by kernel_rfl)
                              have f91 : A.tmps[91]?.getD undef = .slice (some ⟨br, orr, none⟩) R.length cr := by simpa [Act.eval] using e91
                              obtain ⟨v99, rfl⟩ := List.length_eq_one_iff.1 hlen
                              obtain ⟨rfl, rfl⟩ := hJ
                              have e99 : A.eval (.tmp 99) = .slice (some ⟨w0r.heap.size, 0, none⟩) 1 1 := by have := hdH 12 99 0 (by kernel_rfl) rfl (by kernel_rfl); simpa using this.symm
                              refine heavy_wp rfl ?_
                              refine wp_appR1 (ec := en64) (sz := 1) (base := w.heap.size) (.tmp 91) (.tmp 99) 39 rfl _ 8 Try.underlying39 info_int rfl (by decide) _ e91 (rowr.fr0 ((Fr.refl _ _).alloc _)) w0r.heap.size e99 y rfl (cells_new w0r (en64 y) 3) (by intro u hu; simp at hu; subst hu; rfl) (by unfold maxLen; omega) (by omega) (by have := ((Fr.refl noB w0r).alloc (.cells (en64 y).toArray 3)).size; omega) ?_
                              intro v' w' hO' hg' hloc
                              exact ⟨v', rfl, hO', ((Fr.refl _ _).alloc _).grown hg' (fun k hk _ => hk), by simpa using hloc⟩
                            case o14 =>
                              intro A W hv hlen hJ hbase hdL hdH
                              have e87 : A.eval (.tmp 87) = ptr gw := hdL 0 87 (by kernel_rfl) (by kernel_rfl) (by kernel_rfl)
                              have f87 : A.tmps[87]?.getD undef = ptr gw := by simpa [Act.eval] using e87
                              exact light_val rfl (v := ptr gw) (by simp [execOp, go_sem, e87, f87]) hJ rfl
                            case o15 =>
                              intro A W hv hlen hJ hbase hdL hdH
                              have e101 : A.eval (.tmp 101) = ptr gw := hdL 14 101 (by kernel_rfl) (by kernel_rfl) (by kernel_rfl)
                              have f101 : A.tmps[101]?.getD undef = ptr gw := by simpa [Act.eval] using e101
                              exact light_val rfl (v := .pointer (some ⟨gw, 1, none⟩)) (by simp [execOp, go_sem, e101, f101]) hJ rfl
                            case o16 =>
                              intro A W hv hlen hJ hbase hdL hdH
                              have e102 : A.eval (.tmp 102) = .pointer (some ⟨gw, 1, none⟩) := hdL 15 102 (by kernel_rfl) (by kernel_rfl) (by kernel_rfl)
                              have f102 : A.tmps[102]?.getD undef = .pointer (some ⟨gw, 1, none⟩) := by simpa [Act.eval] using e102
                              match hv, hlen with
                              | [x99, v100], _ =>
                                obtain ⟨hO', hf', hloc⟩ := hJ
                                have e100 : A.eval (.tmp 100) = v100 := by have := hdH 13 100 1 (by kernel_rfl) rfl (by kernel_rfl); simpa using this.symm
                                have hB2 := bxr.fr hf' (fun q => hbrw.2.2.2 (by cases q; rfl))
                                obtain ⟨a6, c6, hv6⟩ := hO'.opn
                                have hr := run_st1 (P := Try.prog) (off := 1) 39 size_sI v100 (by rw [hv6]; rfl) _ _ hB2 (by simp)
                                have hb2 := hB2.set 1 v100
                                have hgw : ∀ k, v100.ownBlock = some k → k ≠ gw := by
                                  intro k hk
                                  rcases hloc with q | q
                                  · rw [q] at hk; cases hk; exact hbrw.2.2.2
                                  · rw [q] at hk; cases hk; omega
                                refine heavy_wp rfl ?_
                                unfold Oper.wp execOp
                                simp only [e100, e102, Sem.run_bind, hr, Result.andThen_ok]
                                refine ⟨undef, rfl, ?_, ?_, ?_, hloc⟩
                                · exact hO'.ne ((Fr.refl (onB1 gw) _).setCell _ _ (fun _ => rfl)) hgw
                                · exact (hf'.mono (fun k _ q => Or.inl q)).setCell _ _ (fun _ => Or.inr rfl)
                                · simpa using hb2
                            case oe =>
                              intro vs W'r hv hlen hJ hL hH
                              match hv, hlen with
                              | [y99, vR, yst], _ =>
                                obtain ⟨oR, fR, bR, hloc⟩ := hJ
                                simp only [layL, Nat.reduceAdd, Act.put, List.setIfInBounds_toArray, List.set_cons_zero, List.set_cons_succ]
                                clear hL hH
                                generalize vs 0 = y100 at *
                                generalize vs 1 = y101 at *
                                generalize vs 2 = y102 at *
                                generalize vs 3 = y103 at *
                                generalize vs 4 = y104 at *
                                generalize vs 5 = y105 at *
                                generalize vs 6 = y106 at *
                                generalize vs 7 = y107 at *
                                generalize vs 8 = y108 at *
                                generalize vs 9 = y109 at *
                                generalize vs 10 = y110 at *
                                generalize vs 11 = y111 at *
                                generalize vs 12 = y112 at *
                                generalize vs 13 = y113 at *
                                generalize vs 14 = y114 at *
                                generalize vs 15 = y115 at *
                                generalize vs 16 = y116 at *
                                have F7 := (f0r.mono (T := fun k => (Value.slice (some ⟨br, orr, none⟩) R.length cr).ownBlock = some k ∨ k = gw) (fun _ _ q => q.elim)).trans fR
                                have W7 : Wd W'r F gs gp gw w.heap.size vR X L5 m (R ++ [y]) :=
                                  Wd5.app F7 bR oR (fun k hk => by
                                    rcases hloc with e | e
                                    · rw [e] at hk; exact Or.inl hk
                                    · rw [e] at hk; cases hk; exact Or.inr (by omega)) (fun z hz => by
                                    rcases List.mem_append.1 hz with hz | hz
                                    · exact hwf z hz
                                    · rw [List.mem_singleton.1 hz, ← Hy.out]; exact hwf _ (by simp))
                                have hl7 : (R ++ [y]).length ≤ j + 1 := by simp; omega
                                obtain ⟨R7, H7⟩ : ∃ R7, Hid (R ++ [y] = R7) := ⟨_, rfl⟩
                                rw [H7.out] at W7 hI5 hl7
                                go_wp2
                                go_roundw
                                case rel => exact ⟨j + 1, F, _, X, L5, m, R7, by omega, by go_num, W7, hF, by omega, by omega, hI5, ((D.thenN F2).thenT Fd holdP).thenT F7 (fun i hi q => by rcases q with q | q; (have := (hroW.newB i q).1; omega); omega)⟩
                                case measure => simp [intOf]; omega
                      · rw [hk] at q0 ⊢
                        go_wp2
                        have W2 := hW.fr0 F2
                        obtain ⟨w0a, HWa⟩ : ∃ w0, Hid (w2.drew = w0) := ⟨_, rfl⟩
                        have f0a : Fr noB w2 w0a := by rw [← HWa.out]; exact (Fr.refl _ _).drew
                        have z0a := f0a.size
                        have q1a := f0a.cell q1 (fun q => q)
                        have k1a := f0a.cell k12 (fun q => q)
                        refine wp_region_chain_layT (by kernel_rfl) [] [none, none, none, none, none, none, none, none, none, none, none]
                          [fun v => v = .pointer (some ⟨ga, 1, none⟩), fun v => v = .int .i64 x.at', fun v => v = ptr gw, fun v => v = ptr gw, fun v => v = .pointer (some ⟨gw, 1, none⟩), fun v => v = .slice ar R.length cr, fun v => v = .int .i64 (R.length : Int), fun v => v = .int .i64 ((R.length : Int) - 1), fun v => v = .int .i64 (min x.at' ((R.length : Int) - 1)), fun v => v = .int .i64 (q : Int), fun v => v = .int .i64 (q : Int)]
                          (JQX w0a) (by rw [HWa.out]; exact rfl) (by kernel_rfl) (by kernel_rfl) (by decide) ⟨?o0, ?o1, ?o2, ?o3, ?o4, ?o5, ?o6, ?o7, ?o8, ?o9, ?o10, trivial⟩ ?oe
                        case o0 =>
                          intro A W hv hlen hJ hbase hdL hdH
                          have e7 : A.eval (.tmp 7) = ptr ga := hbase 7 (by kernel_rfl)
                          have f7 : A.tmps[7]?.getD undef = ptr ga := by simpa [Act.eval] using e7
                          exact light_val rfl (v := .pointer (some ⟨ga, 1, none⟩)) (by simp [execOp, go_sem, e7, f7]) hJ rfl
                        case o1 =>
                          intro A W hv hlen hJ hbase hdL hdH
                          have e61 : A.eval (.tmp 61) = .pointer (some ⟨ga, 1, none⟩) := hdL 0 61 (by kernel_rfl) (by kernel_rfl) (by kernel_rfl)
                          have f61 : A.tmps[61]?.getD undef = .pointer (some ⟨ga, 1, none⟩) := by simpa [Act.eval] using e61
                          have hc := ((show Fr noB w0a W by rw [show W = w0a from hJ]; exact Fr.refl _ _)).cell q1a (fun q => q)
                          exact light_val rfl (v := .int .i64 x.at') (by simp [execOp, go_sem, e61, f61, hc]) hJ rfl
                        case o2 =>
                          intro A W hv hlen hJ hbase hdL hdH
                          have e5 : A.eval (.tmp 5) = ptr gw := hbase 5 (by kernel_rfl)
                          have f5 : A.tmps[5]?.getD undef = ptr gw := by simpa [Act.eval] using e5
                          exact light_val rfl (v := ptr gw) (by simp [execOp, e5, f5]) hJ rfl
                        case o3 =>
                          intro A W hv hlen hJ hbase hdL hdH
                          have e63 : A.eval (.tmp 63) = ptr gw := hdL 2 63 (by kernel_rfl) (by kernel_rfl) (by kernel_rfl)
                          have f63 : A.tmps[63]?.getD undef = ptr gw := by simpa [Act.eval] using e63
                          exact light_val rfl (v := ptr gw) (by simp [execOp, go_sem, e63, f63]) hJ rfl
                        case o4 =>
                          intro A W hv hlen hJ hbase hdL hdH
                          have e64 : A.eval (.tmp 64) = ptr gw := hdL 3 64 (by kernel_rfl) (by kernel_rfl) (by kernel_rfl)
                          have f64 : A.tmps[64]?.getD undef = ptr gw := by simpa [Act.eval] using e64
                          exact light_val rfl (v := .pointer (some ⟨gw, 1, none⟩)) (by simp [execOp, go_sem, e64, f64]) hJ rfl
                        case o5 =>
                          intro A W hv hlen hJ hbase hdL hdH
                          have e65 : A.eval (.tmp 65) = .pointer (some ⟨gw, 1, none⟩) := hdL 4 65 (by kernel_rfl) (by kernel_rfl) (by kernel_rfl)
                          have f65 : A.tmps[65]?.getD undef = .pointer (some ⟨gw, 1, none⟩) := by simpa [Act.eval] using e65
                          have hc := ((show Fr noB w0a W by rw [show W = w0a from hJ]; exact Fr.refl _ _)).cell k1a (fun q => q)
                          exact light_val rfl (v := .slice ar R.length cr) (by simp [execOp, go_sem, e65, f65, hc]) hJ rfl
                        case o6 =>
                          intro A W hv hlen hJ hbase hdL hdH
                          have e66 : A.eval (.tmp 66) = .slice ar R.length cr := hdL 5 66 (by kernel_rfl) (by kernel_rfl) (by kernel_rfl)
                          have f66 : A.tmps[66]?.getD undef = .slice ar R.length cr := by simpa [Act.eval] using e66
                          exact light_val rfl (v := .int .i64 (R.length : Int)) (by simp [execOp, resolve, invoke, builtin, Builtin.len_, go_sem, e66, f66]) hJ rfl
                        case o7 =>
                          intro A W hv hlen hJ hbase hdL hdH
                          have e67 : A.eval (.tmp 67) = .int .i64 (R.length : Int) := hdL 6 67 (by kernel_rfl) (by kernel_rfl) (by kernel_rfl)
                          have f67 : A.tmps[67]?.getD undef = .int .i64 (R.length : Int) := by simpa [Act.eval] using e67
                          exact light_val rfl (v := .int .i64 ((R.length : Int) - 1)) (by simp [execOp, go_sem, e67, f67, hwrp.out]) hJ rfl
                        case o8 =>
                          intro A W hv hlen hJ hbase hdL hdH
                          have e62 : A.eval (.tmp 62) = .int .i64 x.at' := hdL 1 62 (by kernel_rfl) (by kernel_rfl) (by kernel_rfl)
                          have f62 : A.tmps[62]?.getD undef = .int .i64 x.at' := by simpa [Act.eval] using e62
                          have e68 : A.eval (.tmp 68) = .int .i64 ((R.length : Int) - 1) := hdL 7 68 (by kernel_rfl) (by kernel_rfl) (by kernel_rfl)
                          have f68 : A.tmps[68]?.getD undef = .int .i64 ((R.length : Int) - 1) := by simpa [Act.eval] using e68
                          exact light_val rfl (v := .int .i64 (min x.at' ((R.length : Int) - 1))) (by simp [execOp, resolve, invoke, builtin, go_sem, e62, f62, e68, f68]) hJ rfl
                        case o9 =>
                          intro A W hv hlen hJ hbase hdL hdH
                          have e69 : A.eval (.tmp 69) = .int .i64 (min x.at' ((R.length : Int) - 1)) := hdL 8 69 (by kernel_rfl) (by kernel_rfl) (by kernel_rfl)
                          have f69 : A.tmps[69]?.getD undef = .int .i64 (min x.at' ((R.length : Int) - 1)) := by simpa [Act.eval] using e69
                          exact light_val rfl (v := .int .i64 (q : Int)) (by rw [← hq.out]; simp [execOp, resolve, invoke, builtin, go_sem, e69, f69]) hJ rfl
                        case o10 =>
                          intro A W hv hlen hJ hbase hdL hdH
                          have e70 : A.eval (.tmp 70) = .int .i64 (q : Int) := hdL 9 70 (by kernel_rfl) (by kernel_rfl) (by kernel_rfl)
                          have f70 : A.tmps[70]?.getD undef = .int .i64 (q : Int) := by simpa [Act.eval] using e70
                          exact light_val rfl (v := .int .i64 (q : Int)) (by simp [execOp, e70, f70]) hJ rfl
                        case oe =>
                          intro vs W'a hv hlen hJ hL hH
                          have x0 : vs 0 = .pointer (some ⟨ga, 1, none⟩) := hL 0 (by kernel_rfl) (by kernel_rfl)
                          have x1 : vs 1 = .int .i64 x.at' := hL 1 (by kernel_rfl) (by kernel_rfl)
                          have x2 : vs 2 = ptr gw := hL 2 (by kernel_rfl) (by kernel_rfl)
                          have x3 : vs 3 = ptr gw := hL 3 (by kernel_rfl) (by kernel_rfl)
                          have x4 : vs 4 = .pointer (some ⟨gw, 1, none⟩) := hL 4 (by kernel_rfl) (by kernel_rfl)
                          have x5 : vs 5 = .slice ar R.length cr := hL 5 (by kernel_rfl) (by kernel_rfl)
                          have x6 : vs 6 = .int .i64 (R.length : Int) := hL 6 (by kernel_rfl) (by kernel_rfl)
                          have x7 : vs 7 = .int .i64 ((R.length : Int) - 1) := hL 7 (by kernel_rfl) (by kernel_rfl)
                          have x8 : vs 8 = .int .i64 (min x.at' ((R.length : Int) - 1)) := hL 8 (by kernel_rfl) (by kernel_rfl)
                          have x9 : vs 9 = .int .i64 (q : Int) := hL 9 (by kernel_rfl) (by kernel_rfl)
                          have x10 : vs 10 = .int .i64 (q : Int) := hL 10 (by kernel_rfl) (by kernel_rfl)
                          simp only [layL, Nat.reduceAdd, Act.put, List.setIfInBounds_toArray, List.set_cons_zero, List.set_cons_succ, x0, x1, x2, x3, x4, x5, x6, x7, x8, x9, x10]
                          clear x0 x1 x2 x3 x4 x5 x6 x7 x8 x9 x10 hL hH
                          obtain rfl := (show W'a = w0a from hJ)
                          clear hJ hlen
                          have hroW := W2.row
                          obtain ⟨br, orr, cr', hve, hcel⟩ := hroW.sl.addr (by decide) (by omega)
                          cases hve
                          have hkq : w2.cell? ⟨br, orr + q, none⟩ = some (.int .i64 y) := by have := hcel q hqR 0 (.int .i64 y) (by rw [Hy.out]; rfl); rwa [Nat.mul_one] at this
                          have hbrw := W2.ap br rfl
                          have q0a := f0a.cell q0 (fun q => q)
                          go_wp2_with fail
                          obtain ⟨w0d, HWd⟩ : ∃ w0, Hid (W'a.drew = w0) := ⟨_, rfl⟩
                          have f0d : Fr noB W'a w0d := by rw [← HWd.out]; exact (Fr.refl _ _).drew
                          have z0d := f0d.size
                          have fad := f0a.thenN f0d
                          have k0x := fad.cell k02 (fun q => q)
                          have k1x := fad.cell k12 (fun q => q)
                          have kqx := fad.cell hkq (fun q => q)
                          have nPw : ¬ onB1 gp gw := fun q => hnp q
                          have nPb : ¬ onB1 gp br := fun q => hbrw.2.1 q
                          refine wp_region_chain_layT (by kernel_rfl) [11] [none, none, none, none, none, none, none, none, none, none, none, some 0, none]
                            [fun v => v = ptr gw, fun v => v = ptr gw, fun v => v = .pointer (some ⟨gw, 0, none⟩), fun v => v = ptr gs, fun v => v = ptr gw, fun v => v = ptr gw, fun v => v = .pointer (some ⟨gw, 1, none⟩), fun v => v = .slice (some ⟨br, orr, none⟩) R.length cr, fun v => v = .int .i64 (q : Int), fun v => v = .pointer (some ⟨br, orr + q, none⟩), fun v => v = .int .i64 y, fun _ => True, fun v => v = .bool false]
                            (JSW w0d (onB1 gp) (.int .i64 72) (fun W => Sto W F gs gp X L m)) (HWd.out) (by kernel_rfl) (by kernel_rfl) (by decide) ⟨?o0, ?o1, ?o2, ?o3, ?o4, ?o5, ?o6, ?o7, ?o8, ?o9, ?o10, ?o11, ?o12, trivial⟩ ?oe
                          case o0 =>
                            intro A W hv hlen hJ hbase hdL hdH
                            have e5 : A.eval (.tmp 5) = ptr gw := hbase 5 (by kernel_rfl)
                            have f5 : A.tmps[5]?.getD undef = ptr gw := by simpa [Act.eval] using e5
                            exact light_val rfl (v := ptr gw) (by simp [execOp, e5, f5]) hJ rfl
                          case o1 =>
                            intro A W hv hlen hJ hbase hdL hdH
                            have e74 : A.eval (.tmp 74) = ptr gw := hdL 0 74 (by kernel_rfl) (by kernel_rfl) (by kernel_rfl)
                            have f74 : A.tmps[74]?.getD undef = ptr gw := by simpa [Act.eval] using e74
                            exact light_val rfl (v := ptr gw) (by simp [execOp, go_sem, e74, f74]) hJ rfl
                          case o2 =>
                            intro A W hv hlen hJ hbase hdL hdH
                            have e75 : A.eval (.tmp 75) = ptr gw := hdL 1 75 (by kernel_rfl) (by kernel_rfl) (by kernel_rfl)
                            have f75 : A.tmps[75]?.getD undef = ptr gw := by simpa [Act.eval] using e75
                            exact light_val rfl (v := .pointer (some ⟨gw, 0, none⟩)) (by simp [execOp, go_sem, e75, f75]) hJ rfl
                          case o3 =>
                            intro A W hv hlen hJ hbase hdL hdH
                            have e76 : A.eval (.tmp 76) = .pointer (some ⟨gw, 0, none⟩) := hdL 2 76 (by kernel_rfl) (by kernel_rfl) (by kernel_rfl)
                            have f76 : A.tmps[76]?.getD undef = .pointer (some ⟨gw, 0, none⟩) := by simpa [Act.eval] using e76
                            have hc := (JSW.fr hJ).cell k0x (nPw)
                            exact light_val rfl (v := ptr gs) (by simp [execOp, go_sem, e76, f76, hc]) hJ rfl
                          case o4 =>
                            intro A W hv hlen hJ hbase hdL hdH
                            have e5 : A.eval (.tmp 5) = ptr gw := hbase 5 (by kernel_rfl)
                            have f5 : A.tmps[5]?.getD undef = ptr gw := by simpa [Act.eval] using e5
                            exact light_val rfl (v := ptr gw) (by simp [execOp, e5, f5]) hJ rfl
                          case o5 =>
                            intro A W hv hlen hJ hbase hdL hdH
                            have e78 : A.eval (.tmp 78) = ptr gw := hdL 4 78 (by kernel_rfl) (by kernel_rfl) (by kernel_rfl)
                            have f78 : A.tmps[78]?.getD undef = ptr gw := by simpa [Act.eval] using e78
                            exact light_val rfl (v := ptr gw) (by simp [execOp, go_sem, e78, f78]) hJ rfl
                          case o6 =>
                            intro A W hv hlen hJ hbase hdL hdH
                            have e79 : A.eval (.tmp 79) = ptr gw := hdL 5 79 (by kernel_rfl) (by kernel_rfl) (by kernel_rfl)
                            have f79 : A.tmps[79]?.getD undef = ptr gw := by simpa [Act.eval] using e79
                            exact light_val rfl (v := .pointer (some ⟨gw, 1, none⟩)) (by simp [execOp, go_sem, e79, f79]) hJ rfl
                          case o7 =>
                            intro A W hv hlen hJ hbase hdL hdH
                            have e80 : A.eval (.tmp 80) = .pointer (some ⟨gw, 1, none⟩) := hdL 6 80 (by kernel_rfl) (by kernel_rfl) (by kernel_rfl)
                            have f80 : A.tmps[80]?.getD undef = .pointer (some ⟨gw, 1, none⟩) := by simpa [Act.eval] using e80
                            have hc := (JSW.fr hJ).cell k1x (nPw)
                            exact light_val rfl (v := .slice (some ⟨br, orr, none⟩) R.length cr) (by simp [execOp, go_sem, e80, f80, hc]) hJ rfl
                          case o8 =>
                            intro A W hv hlen hJ hbase hdL hdH
                            have e9 : A.eval (.tmp 9) = .int .i64 (q : Int) := hbase 9 (by kernel_rfl)
                            have f9 : A.tmps[9]?.getD undef = .int .i64 (q : Int) := by simpa [Act.eval] using e9
                            exact light_val rfl (v := .int .i64 (q : Int)) (by simp [execOp, e9, f9]) hJ rfl
                          case o9 =>
                            intro A W hv hlen hJ hbase hdL hdH
                            have e81 : A.eval (.tmp 81) = .slice (some ⟨br, orr, none⟩) R.length cr := hdL 7 81 (by kernel_rfl) (by kernel_rfl) (by kernel_rfl)
                            have f81 : A.tmps[81]?.getD undef = .slice (some ⟨br, orr, none⟩) R.length cr := by simpa [Act.eval] using e81
                            have e82 : A.eval (.tmp 82) = .int .i64 (q : Int) := hdL 8 82 (by kernel_rfl) (by kernel_rfl) (by kernel_rfl)
                            have f82 : A.tmps[82]?.getD undef = .int .i64 (q : Int) := by simpa [Act.eval] using e82
                            have hr := (by have := run_idxS (P := Try.prog) (w := W) 39 3 Try.underlying39 int_size1 br orr R.length cr .i64 q hqR; rwa [Nat.mul_one] at this)
                            exact light_val rfl (v := .pointer (some ⟨br, orr + q, none⟩)) (by simp [execOp, e81, e82, hr, Result.andThen]) hJ rfl
                          case o10 =>
                            intro A W hv hlen hJ hbase hdL hdH
                            have e83 : A.eval (.tmp 83) = .pointer (some ⟨br, orr + q, none⟩) := hdL 9 83 (by kernel_rfl) (by kernel_rfl) (by kernel_rfl)
                            have f83 : A.tmps[83]?.getD undef = .pointer (some ⟨br, orr + q, none⟩) := by simpa [Act.eval] using e83
                            have hc := (JSW.fr hJ).cell kqx (nPb)
                            exact light_val rfl (v := .int .i64 y) (by simp [execOp, go_sem, e83, f83, hc]) hJ rfl
                          case o11 =>
                            intro A W hv hlen hJ hbase hdL hdH
                            have e77 : A.eval (.tmp 77) = ptr gs := hdL 3 77 (by kernel_rfl) (by kernel_rfl) (by kernel_rfl)
                            have f77 : A.tmps[77]?.getD undef = ptr gs := by simpa [Act.eval] using e77
                            have e84 : A.eval (.tmp 84) = .int .i64 y := hdL 10 84 (by kernel_rfl) (by kernel_rfl) (by kernel_rfl)
                            have f84 : A.tmps[84]?.getD undef = .int .i64 y := by simpa [Act.eval] using e84
                            obtain rfl : hv = [] := List.eq_nil_of_length_eq_zero hlen
                            obtain rfl := (show W = _ from hJ)
                            refine heavy_call rfl (args := #[ptr gs, .int .i64 y]) (f := 10) (by simp [execOp, resolve, invoke, go_sem, e77, f77, e84, f84]) ?_
                            refine (hold_F y ((W2.st.fr0 f0a).fr0 f0d) hho).mono ?_
                            rintro e w' ⟨rfl, s, f⟩
                            exact ⟨_, rfl, rfl, s, f⟩
                          case o12 =>
                            intro A W hv hlen hJ hbase hdL hdH
                            have ev := JSW.val hJ (hdH 11 85 0 (by kernel_rfl) rfl (by kernel_rfl))
                            have fv : A.tmps[85]?.getD undef = .int .i64 72 := by simpa [Act.eval] using ev
                            exact light_val rfl (v := .bool false) (by simp [execOp, go_sem, ev, fv]) hJ rfl
                          case oe =>
                            intro vs W'd hv hlen hJ hL hH
                            have x0 : vs 0 = ptr gw := hL 0 (by kernel_rfl) (by kernel_rfl)
                            have x1 : vs 1 = ptr gw := hL 1 (by kernel_rfl) (by kernel_rfl)
                            have x2 : vs 2 = .pointer (some ⟨gw, 0, none⟩) := hL 2 (by kernel_rfl) (by kernel_rfl)
                            have x3 : vs 3 = ptr gs := hL 3 (by kernel_rfl) (by kernel_rfl)
                            have x4 : vs 4 = ptr gw := hL 4 (by kernel_rfl) (by kernel_rfl)
                            have x5 : vs 5 = ptr gw := hL 5 (by kernel_rfl) (by kernel_rfl)
                            have x6 : vs 6 = .pointer (some ⟨gw, 1, none⟩) := hL 6 (by kernel_rfl) (by kernel_rfl)
                            have x7 : vs 7 = .slice (some ⟨br, orr, none⟩) R.length cr := hL 7 (by kernel_rfl) (by kernel_rfl)
                            have x8 : vs 8 = .int .i64 (q : Int) := hL 8 (by kernel_rfl) (by kernel_rfl)
                            have x9 : vs 9 = .pointer (some ⟨br, orr + q, none⟩) := hL 9 (by kernel_rfl) (by kernel_rfl)
                            have x10 : vs 10 = .int .i64 y := hL 10 (by kernel_rfl) (by kernel_rfl)
                            have x11 : vs 11 = .int .i64 72 := JSW.val hJ (hH 0 11 rfl (by kernel_rfl))
                            have x12 : vs 12 = .bool false := hL 12 (by kernel_rfl) (by kernel_rfl)
                            simp only [layL, Nat.reduceAdd, Act.put, List.setIfInBounds_toArray, List.set_cons_zero, List.set_cons_succ, x0, x1, x2, x3, x4, x5, x6, x7, x8, x9, x10, x11, x12]
                            clear x0 x1 x2 x3 x4 x5 x6 x7 x8 x9 x10 x11 x12 hL hH
                            obtain ⟨hQd, fQd⟩ := JSW.end hJ hlen
                            clear hJ hlen
                            have Fd : Fr (onB1 gp) w2 W'd := ((f0a.thenN f0d).mono (fun _ _ q => q.elim)).trans fQd
                            have Wd5 := W2.pl Fd hQd
                            go_wp2
                            go_roundw
                            case rel => exact ⟨j + 1, F, _, X, L, m, R, by omega, by go_num, Wd5, hF, by omega, by omega, hI, (D.thenN F2).thenT Fd holdP⟩
                            case measure => simp [intOf]; omega
                · have hk1' : (x.kind == 1) = false := by simp; exact fun e => hk13 (Or.inl e)
                  have hk3' : (x.kind == 3) = false := by simp; exact fun e => hk13 (Or.inr e)
                  go_wp2_with (first
                    | (go_at_call 17; go_must (refine (exact_any _ (hW.fr0 F2) (by omega) hI.out (by omega)).mono ?_; rintro e w9 ⟨rfl, f9⟩)))
                  go_roundw
                  case rel => exact ⟨j + 1, F, _, X, L, m, R, by omega, by go_num, (hW.fr0 F2).fr0 f9, hF, by omega, by omega, hI, (D.thenN F2).thenN f9⟩
                  case measure => simp [intOf]; omega
          · obtain rfl : j = acts.length := by omega
            have hlt' : ¬ (acts.length : Int) < (acts.length : Int) := by omega
            have hm80 : m ≤ 80 := by omega
            have hR40 : R.length ≤ 40 := by omega
            go_wp2_with fail
            go_loopw [152] (fun i wr => ∃ (k : Nat) (L : List Pg), k ≤ R.length ∧ i = .int .i64 (k : Int) ∧ Wd wr F gs gp gw w.heap.size (.slice ar R.length cr) X L m R ∧ Hid (Inv X L (R.drop k)) ∧ Fr noB w wr) (fun i _ => R.length - (intOf i).toNat)
            case atStart => exact ⟨0, L, by omega, rfl, hW, by rw [List.drop_zero]; exact hI, D⟩
            case round =>
              clear hW hI D k0 k1 hold hrow
              obtain ⟨k, L, hk, rfl, hW, hI, D⟩ := hrel
              obtain ⟨k0, k1⟩ := wd_cells hW
              by_cases hkt : k < R.length
              · have hkt' : (k : Int) < (R.length : Int) := by omega
                obtain ⟨y, Hy⟩ : ∃ y, Hid (R[k] = y) := ⟨R[k], (rfl : R[k] = R[k])⟩
                have hdk : R.drop k = y :: R.drop (k + 1) := by rw [← Hy.out]; exact List.drop_eq_getElem_cons hkt
                have hI2 := hI.out
                rw [hdk] at hI2
                have hdp := hI2.drop 0 (by simp)
                simp only [List.getElem_cons_zero, List.take_zero, List.nil_append, List.drop_succ_cons, List.drop_zero, Nat.zero_add] at hdp
                obtain ⟨L5, e5, hdr⟩ : ∃ L5 e5, dropF X (muL L + 1) L y = (L5, e5) := ⟨_, _, rfl⟩
                rw [hdr] at hdp
                obtain ⟨he5, hI5⟩ := hdp
                simp only at he5 hI5
                subst he5
                replace hI5 := show Hid _ from hI5
                have hv1 := ((ownI_of_R hW.row).sl hwf).1
                go_wp2_with (first
                  | (with_reducible refine at_wpP ?_; refine at_idx 39 _ _ rfl ?_; go_must (refine wpList_idx1 rfl 39 _ _ rfl 3 Try.underlying39 int_size1 (.slice ar R.length cr) _ _ rfl hv1 .i64 (k : Int) k rfl rfl hkt ?_; intro pp u hu hcu; obtain rfl := getX hu hkt Hy.out))
                  | (go_at_call 11; go_must (refine (drop_F y hW.st (by omega) hdr).mono ?_; rintro e w5 ⟨rfl, s5, f5⟩)))
                go_roundw
                case rel => exact ⟨k + 1, L5, by omega, by go_num, hW.pl f5 s5, hI5, D.thenT f5 holdP⟩
                case measure => simp [intOf]; omega
              · obtain rfl : k = R.length := by omega
                have hkt' : ¬ (R.length : Int) < (R.length : Int) := by omega
                have hI2 := hI.out
                rw [List.drop_length] at hI2
                have hfree := hI2.allFree
                have hokc := comm_ok hI2.di.ok
                have hlc := comm_len L
                obtain ⟨M, HM⟩ : ∃ M, Hid (plCommit L = M) := ⟨_, rfl⟩
                rw [HM.out] at hfree hokc hlc
                replace hfree := show Hid _ from hfree
                go_wp2_with (first
                  | (go_at_call 15; go_must (refine (npool_any _ hW.st).mono ?_; rintro e w4 ⟨rfl, rfl⟩))
                  | (go_at_call 16; go_must (refine (commit_F hW.st HM.out).mono ?_; rintro e w5 ⟨rfl, s5, f5⟩; have k05 := f5.cell k0 (fun q => hnp q))))
                obtain ⟨w0f, HWf⟩ : ∃ w0, Hid (w5.drew = w0) := ⟨_, rfl⟩
                have f0f : Fr noB w5 w0f := by rw [← HWf.out]; exact (Fr.refl _ _).drew
                have z0f := f0f.size
                have k0f := f0f.cell k05 (fun q => q)
                have s5f := s5.fr0 f0f
                refine wp_region_chain_layT (by kernel_rfl) [] [none, none, none, none, none, none, none, none, none, none, none, none, none, none]
                  [fun v => v = ptr gw, fun v => v = ptr gw, fun v => v = .pointer (some ⟨gw, 0, none⟩), fun v => v = ptr gs, fun v => v = ptr gp, fun v => v = .int .i64 (M.length : Int), fun v => v = ptr gw, fun v => v = ptr gw, fun v => v = .pointer (some ⟨gw, 0, none⟩), fun v => v = ptr gs, fun v => v = ptr gp, fun v => v = .int .i64 (M.length : Int), fun v => v = .bool true, fun v => v = .bool true]
                  (JQX w0f) (by rw [HWf.out]; exact rfl) (by kernel_rfl) (by kernel_rfl) (by decide) ⟨?o0, ?o1, ?o2, ?o3, ?o4, ?o5, ?o6, ?o7, ?o8, ?o9, ?o10, ?o11, ?o12, ?o13, trivial⟩ ?oe
                case o0 =>
                  intro A W hv hlen hJ hbase hdL hdH
                  have e5 : A.eval (.tmp 5) = ptr gw := hbase 5 (by kernel_rfl)
                  have f5 : A.tmps[5]?.getD undef = ptr gw := by simpa [Act.eval] using e5
                  exact light_val rfl (v := ptr gw) (by simp [execOp, e5, f5]) hJ rfl
                case o1 =>
                  intro A W hv hlen hJ hbase hdL hdH
                  have e170 : A.eval (.tmp 170) = ptr gw := hdL 0 170 (by kernel_rfl) (by kernel_rfl) (by kernel_rfl)
                  have f170 : A.tmps[170]?.getD undef = ptr gw := by simpa [Act.eval] using e170
                  exact light_val rfl (v := ptr gw) (by simp [execOp, go_sem, e170, f170]) hJ rfl
                case o2 =>
                  intro A W hv hlen hJ hbase hdL hdH
                  have e171 : A.eval (.tmp 171) = ptr gw := hdL 1 171 (by kernel_rfl) (by kernel_rfl) (by kernel_rfl)
                  have f171 : A.tmps[171]?.getD undef = ptr gw := by simpa [Act.eval] using e171
                  exact light_val rfl (v := .pointer (some ⟨gw, 0, none⟩)) (by simp [execOp, go_sem, e171, f171]) hJ rfl
                case o3 =>
                  intro A W hv hlen hJ hbase hdL hdH
                  have e172 : A.eval (.tmp 172) = .pointer (some ⟨gw, 0, none⟩) := hdL 2 172 (by kernel_rfl) (by kernel_rfl) (by kernel_rfl)
                  have f172 : A.tmps[172]?.getD undef = .pointer (some ⟨gw, 0, none⟩) := by simpa [Act.eval] using e172
                  have hc := ((show Fr noB w0f W by rw [show W = w0f from hJ]; exact Fr.refl _ _)).cell k0f (fun q => q)
                  exact light_val rfl (v := ptr gs) (by simp [execOp, go_sem, e172, f172, hc]) hJ rfl
                case o4 =>
                  intro A W hv hlen hJ hbase hdL hdH
                  have e173 : A.eval (.tmp 173) = ptr gs := hdL 3 173 (by kernel_rfl) (by kernel_rfl) (by kernel_rfl)
                  have f173 : A.tmps[173]?.getD undef = ptr gs := by simpa [Act.eval] using e173
                  refine light_callX rfl (args := #[ptr gs]) (f := 15) (by simp [execOp, resolve, invoke, go_sem, e173, f173]) ?_
                  refine (npool_any _ (s5f.fr0 (show Fr noB w0f W by rw [show W = w0f from hJ]; exact Fr.refl _ _))).mono ?_
                  rintro e w' ⟨rfl, rfl⟩
                  exact ⟨_, rfl, hJ, rfl⟩
                case o5 =>
                  intro A W hv hlen hJ hbase hdL hdH
                  have e174 : A.eval (.tmp 174) = ptr gp := hdL 4 174 (by kernel_rfl) (by kernel_rfl) (by kernel_rfl)
                  have f174 : A.tmps[174]?.getD undef = ptr gp := by simpa [Act.eval] using e174
                  refine light_callX rfl (args := #[ptr gp]) (f := 18) (by simp [execOp, resolve, invoke, go_sem, e174, f174]) ?_
                  refine (free_F (s5f.fr0 (show Fr noB w0f W by rw [show W = w0f from hJ]; exact Fr.refl _ _)) (k := (M.length : Int)) (by rw [hfree.out])).mono ?_
                  rintro e w' ⟨rfl, rfl⟩
                  exact ⟨_, rfl, hJ, rfl⟩
                case o6 =>
                  intro A W hv hlen hJ hbase hdL hdH
                  have e5 : A.eval (.tmp 5) = ptr gw := hbase 5 (by kernel_rfl)
                  have f5 : A.tmps[5]?.getD undef = ptr gw := by simpa [Act.eval] using e5
                  exact light_val rfl (v := ptr gw) (by simp [execOp, e5, f5]) hJ rfl
                case o7 =>
                  intro A W hv hlen hJ hbase hdL hdH
                  have e176 : A.eval (.tmp 176) = ptr gw := hdL 6 176 (by kernel_rfl) (by kernel_rfl) (by kernel_rfl)
                  have f176 : A.tmps[176]?.getD undef = ptr gw := by simpa [Act.eval] using e176
                  exact light_val rfl (v := ptr gw) (by simp [execOp, go_sem, e176, f176]) hJ rfl
                case o8 =>
                  intro A W hv hlen hJ hbase hdL hdH
                  have e177 : A.eval (.tmp 177) = ptr gw := hdL 7 177 (by kernel_rfl) (by kernel_rfl) (by kernel_rfl)
                  have f177 : A.tmps[177]?.getD undef = ptr gw := by simpa [Act.eval] using e177
                  exact light_val rfl (v := .pointer (some ⟨gw, 0, none⟩)) (by simp [execOp, go_sem, e177, f177]) hJ rfl
                case o9 =>
                  intro A W hv hlen hJ hbase hdL hdH
                  have e178 : A.eval (.tmp 178) = .pointer (some ⟨gw, 0, none⟩) := hdL 8 178 (by kernel_rfl) (by kernel_rfl) (by kernel_rfl)
                  have f178 : A.tmps[178]?.getD undef = .pointer (some ⟨gw, 0, none⟩) := by simpa [Act.eval] using e178
                  have hc := ((show Fr noB w0f W by rw [show W = w0f from hJ]; exact Fr.refl _ _)).cell k0f (fun q => q)
                  exact light_val rfl (v := ptr gs) (by simp [execOp, go_sem, e178, f178, hc]) hJ rfl
                case o10 =>
                  intro A W hv hlen hJ hbase hdL hdH
                  have e179 : A.eval (.tmp 179) = ptr gs := hdL 9 179 (by kernel_rfl) (by kernel_rfl) (by kernel_rfl)
                  have f179 : A.tmps[179]?.getD undef = ptr gs := by simpa [Act.eval] using e179
                  refine light_callX rfl (args := #[ptr gs]) (f := 15) (by simp [execOp, resolve, invoke, go_sem, e179, f179]) ?_
                  refine (npool_any _ (s5f.fr0 (show Fr noB w0f W by rw [show W = w0f from hJ]; exact Fr.refl _ _))).mono ?_
                  rintro e w' ⟨rfl, rfl⟩
                  exact ⟨_, rfl, hJ, rfl⟩
                case o11 =>
                  intro A W hv hlen hJ hbase hdL hdH
                  have e180 : A.eval (.tmp 180) = ptr gp := hdL 10 180 (by kernel_rfl) (by kernel_rfl) (by kernel_rfl)
                  have f180 : A.tmps[180]?.getD undef = ptr gp := by simpa [Act.eval] using e180
                  refine light_callX rfl (args := #[ptr gp]) (f := 19) (by simp [execOp, resolve, invoke, go_sem, e180, f180]) ?_
                  refine (psize_any gp _ (s5f.fr0 (show Fr noB w0f W by rw [show W = w0f from hJ]; exact Fr.refl _ _)).pl).mono ?_
                  rintro e w' ⟨rfl, rfl⟩
                  exact ⟨_, rfl, hJ, rfl⟩
                case o12 =>
                  intro A W hv hlen hJ hbase hdL hdH
                  have e175 : A.eval (.tmp 175) = .int .i64 (M.length : Int) := hdL 5 175 (by kernel_rfl) (by kernel_rfl) (by kernel_rfl)
                  have f175 : A.tmps[175]?.getD undef = .int .i64 (M.length : Int) := by simpa [Act.eval] using e175
                  have e181 : A.eval (.tmp 181) = .int .i64 (M.length : Int) := hdL 11 181 (by kernel_rfl) (by kernel_rfl) (by kernel_rfl)
                  have f181 : A.tmps[181]?.getD undef = .int .i64 (M.length : Int) := by simpa [Act.eval] using e181
                  exact light_val rfl (v := .bool true) (by simp [execOp, go_sem, e175, f175, e181, f181]) hJ rfl
                case o13 =>
                  intro A W hv hlen hJ hbase hdL hdH
                  have e182 : A.eval (.tmp 182) = .bool true := hdL 12 182 (by kernel_rfl) (by kernel_rfl) (by kernel_rfl)
                  have f182 : A.tmps[182]?.getD undef = .bool true := by simpa [Act.eval] using e182
                  exact light_val rfl (v := .bool true) (by simp [execOp, e182, f182]) hJ rfl
                case oe =>
                  intro vs W'f hv hlen hJ hL hH
                  have x0 : vs 0 = ptr gw := hL 0 (by kernel_rfl) (by kernel_rfl)
                  have x1 : vs 1 = ptr gw := hL 1 (by kernel_rfl) (by kernel_rfl)
                  have x2 : vs 2 = .pointer (some ⟨gw, 0, none⟩) := hL 2 (by kernel_rfl) (by kernel_rfl)
                  have x3 : vs 3 = ptr gs := hL 3 (by kernel_rfl) (by kernel_rfl)
                  have x4 : vs 4 = ptr gp := hL 4 (by kernel_rfl) (by kernel_rfl)
                  have x5 : vs 5 = .int .i64 (M.length : Int) := hL 5 (by kernel_rfl) (by kernel_rfl)
                  have x6 : vs 6 = ptr gw := hL 6 (by kernel_rfl) (by kernel_rfl)
                  have x7 : vs 7 = ptr gw := hL 7 (by kernel_rfl) (by kernel_rfl)
                  have x8 : vs 8 = .pointer (some ⟨gw, 0, none⟩) := hL 8 (by kernel_rfl) (by kernel_rfl)
                  have x9 : vs 9 = ptr gs := hL 9 (by kernel_rfl) (by kernel_rfl)
                  have x10 : vs 10 = ptr gp := hL 10 (by kernel_rfl) (by kernel_rfl)
                  have x11 : vs 11 = .int .i64 (M.length : Int) := hL 11 (by kernel_rfl) (by kernel_rfl)
                  have x12 : vs 12 = .bool true := hL 12 (by kernel_rfl) (by kernel_rfl)
                  have x13 : vs 13 = .bool true := hL 13 (by kernel_rfl) (by kernel_rfl)
                  simp only [layL, Nat.reduceAdd, Act.put, List.setIfInBounds_toArray, List.set_cons_zero, List.set_cons_succ, x0, x1, x2, x3, x4, x5, x6, x7, x8, x9, x10, x11, x12, x13]
                  clear x0 x1 x2 x3 x4 x5 x6 x7 x8 x9 x10 x11 x12 x13 hL hH
                  obtain rfl := (show W'f = w0f from hJ)
                  clear hJ hlen
                  go_wp2
                  go_ret
                  exact ⟨rfl, ((D.thenT f5 holdP).thenN f0f).below⟩
end Go.Proofs.Ytamfnjliikiifaa
