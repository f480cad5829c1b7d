/- Texts Y13 of the proof of PoolClones, one behind the other. -/
import Derived.Test.YtghkpeejogldkaaBundlePoolClones1
import Derived.Test.YtghkpeejogldkaaBundlePoolClones2
import Derived.Test.YtghkpeejogldkaaBundlePoolClones3
import Derived.Test.YtghkpeejogldkaaBundlePoolClones4
import Derived.Test.YtghkpeejogldkaaBundlePoolClones5
import Derived.Test.YtghkpeejogldkaaBundlePoolClones6
import Derived.Test.YtghkpeejogldkaaBundlePoolClones7
import Derived.Test.YtghkpeejogldkaaBundlePoolClones8
import Derived.Test.YtghkpeejogldkaaBundlePoolClones9
import Derived.Test.YtghkpeejogldkaaBundlePoolClones10
import Derived.Test.YtghkpeejogldkaaBundlePoolClones11
import Derived.Test.YtghkpeejogldkaaBundlePoolClones12
/- PoolClones. (Written by y13_gen.py.) -/
namespace Go.Proofs.Ytghkpeejogldkaa
open Go.RowKit Go.Proofs.U
set_option linter.unusedSimpArgs false
set_option linter.unusedVariables false
theorem plCounts_load {n : Int} {c : List Int} (hc : c.length = 240) {L : List Pg} (h : plLoad n c = some L) : plCounts L = c := by
  refine List.ext_getElem (by rw [plCounts_len, hc]) fun i h1 h2 => ?_
  have e : (plCounts L)[i] = (plAt L i).c := by simp [plCounts]
  rw [e, plLoad_at hc h]
  simp [List.getD, h2]
set_option maxRecDepth 100000 in
set_option maxHeartbeats 4000000 in
theorem pclones_walk (n : Int) (vc : Value) (c : List Int) (va : Value) (acts : List (Int × Int)) (w : World) (hn : (Lit.int .i64 n).wf = true) (hc : IsArr vc 240 c) (ha : SlP .i64 .i64 w va acts) :
    Calls Try.prog 7 #[.int .i64 n, vc, va] w fun r w' => r = .returned (.bool true) ∧ Below w.heap.size w w' := by
  obtain ⟨rfl, hcl, hcb⟩ := hc
  have Hc := show Hid _ from hcl
  obtain ⟨hA, _⟩ := ha
  obtain ⟨a2, c2', rfl, hc2⟩ := hA.opn
  have hok := fun L h => plLoad_ok (n := n) hcl (fun i => hcb.at i) (L := L) h
  have hst := fun L h => load_still (n := n) hcl (L := L) h
  clear hcl
  by_cases hbig : 150 < acts.length
  · have hb1 : (150 : Int) < (acts.length : Int) := by omega
    go_enter Try.func7, Try.ntmps7
    go_wp2_with (first
      | (with_reducible refine at_wpP ?_; refine wpList_boxV rfl 30 _ rfl (pgv c) rfl ?_; intro g4 w1 hg4 b1 f1 s1)
      | (go_at_call 13; go_must (refine (palive_any _).mono ?_; rintro e w2 ⟨rfl, f2⟩)))
    go_ret
    exact ⟨rfl, (f1.thenN f2).below⟩
  have hb1 : ¬ (150 : Int) < (acts.length : Int) := by omega
  cases hR : plLoad n c with
  | none =>
    have hld := show Hid _ from fun W => pload_any n c Hc.out hcb none hR W
    go_enter Try.func7, Try.ntmps7
    go_wp2_with (first
      | (with_reducible refine at_wpP ?_; refine wpList_boxV rfl 30 _ rfl (pgv c) rfl ?_; intro g4 w1 hg4 b1 f1 s1)
      | (go_at_call 13; go_must (refine (palive_any _).mono ?_; rintro e w2 ⟨rfl, f2⟩; have b2 := b1.fr0 f2))
      | (with_reducible refine at_wpP ?_; refine at_ld 30 _ rfl ?_; go_must (refine wpList_loadA arr_240 rfl _ rfl g4 rfl c b2 Hc.out ?_))
      | (go_at_call 12; go_must (refine (hld.out _).mono ?_; rintro e w3 ⟨f3, rfl⟩)))
    go_ret
    exact ⟨rfl, ((f1.thenN f2).thenN f3).below⟩
  | some L0 =>
    have hld := show Hid _ from fun W => pload_any n c Hc.out hcb (some L0) hR W
    have ok0 := hok L0 hR
    have st0 := show Hid _ from hst L0 hR
    have hcnt0 := show Hid _ from plCounts_load Hc.out hR
    have hat0 := show Hid _ from plLoad_at Hc.out hR
    clear hok hst
    obtain ⟨N, HN⟩ : ∃ N, Hid (L0.length = N) := ⟨_, rfl⟩
    have hN0 := HN
    obtain ⟨E, HE⟩ : ∃ E, Hid (plFree L0 = E) := ⟨_, rfl⟩
    go_enter Try.func7, Try.ntmps7
    go_wp2_with (first
      | (with_reducible refine at_wpP ?_; refine wpList_boxV rfl 30 _ rfl (pgv c) rfl ?_; intro g4 w1 hg4 b1 f1 s1; have l4 := b1.lt)
      | (go_at_call 13; go_must (refine (palive_any _).mono ?_; rintro e w2 ⟨rfl, f2⟩; have b2 := b1.fr0 f2; have z2 := f2.size))
      | (with_reducible refine at_wpP ?_; refine at_ld 30 _ rfl ?_; go_must (refine wpList_loadA arr_240 rfl _ rfl g4 rfl c b2 Hc.out ?_))
      | (go_at_call 12; go_must (refine (hld.out _).mono ?_; rintro e w3 ⟨f3, g7, rfl, s7, p3⟩; have F3 := (f1.thenN f2).thenN f3; have l7 := p3.lt; have b3 := b2.fr0 f3))
      | (go_at_call 22; go_must (refine (pclone_any g7 _ p3).mono ?_; rintro e w4 ⟨g9, rfl, s9, k4, f4⟩; have F4 := F3.thenN f4; have p4 := p3.fr0 f4; have b4 := b3.fr0 f4))
      | (go_at_call 29; go_must (refine (pfree_at ok0 HE.out g7 _ p4).mono ?_; rintro e w' ⟨rfl, rfl⟩)))
    have zz1 := f1.size
    have zz3 := F3.size
    have s9 : w.heap.size ≤ g9 := by omega
    have g79 : g7 ≠ g9 := by omega
    have g49 : g4 ≠ g9 := by omega
    have g47 : g4 ≠ g7 := by omega
    clear s7 l7 l4 z2
    go_loopw [35] (fun i wr => ∃ (k : Nat) (L : List Pg), k ≤ acts.length ∧ i = .int .i64 (k : Int) ∧ PoolB wr g7 L0 ∧ PoolB wr g9 L ∧ BxV wr g4 30 (pgv c) ∧ plOk L ∧ Hid (L.length = N) ∧ Fr noB w wr) (fun i _ => acts.length - (intOf i).toNat)
    case atStart => exact ⟨0, L0, by omega, rfl, p4, k4, b4, ok0, HN, F4⟩
    case round =>
      obtain ⟨k, L, hk, rfl, Bp, Bk, Bc, hL, hLn, hf⟩ := hrel
      have l7' := Bp.lt
      have l9' := Bk.lt
      have l4' := Bc.lt
      have zf := hf.size
      clear p4 k4 b4 f4 F4 F3 p3 b3 f3 b2 f2 b1 f1 hld
      by_cases hlt : k < acts.length
      · obtain ⟨x, Hx⟩ : ∃ x, Hid (acts[k] = x) := ⟨acts[k], (rfl : acts[k] = acts[k])⟩
        by_cases hk0 : x.1 = 0
        · have hk := hk0
          have ok1 := take_ok hL
          have ln1 : Hid (((plTake L).1).length = N) := by show _ = _; rw [take_len]; exact hLn.out
          go_wp2_with (first
            | (refine at_idx 33 _ _ rfl ?_; go_must (refine wpList_idxR rfl 33 _ _ rfl 38 Try.underlying33 2 act_size7 _ _ _ rfl (hA.fr0 hf) (by decide) _ _ k rfl rfl hlt ?_; rw [Hx.out]; intro ba oa hba hca))
            | (with_reducible refine at_wpP ?_; refine at_ld 38 _ rfl ?_; refine wpList_ldAct rfl _ rfl ba oa rfl x hca ?_)
            | (with_reducible refine at_wpP ?_; refine wpList_alAct rfl rfl ?_; intro ga w1 hga b1 f1 sa; have l1 := b1.lt; have F1 := hf.thenN f1; have z1 := f1.size)
            | (with_reducible refine at_wpP ?_; refine at_st 38 _ _ rfl ?_; go_must (refine wpList_stAct rfl _ _ rfl ga rfl _ x b1 rfl ?_; intro w2 b2 f2; have F2 := Fr.own F1 (by omega) f2; obtain ⟨q0, q1⟩ := b2.all; rw [show x.1 = 0 from hk] at q0; have z2 := f2.size; have p2 := Bp.fr0 f1; have p2 := p2.ne f2 (by omega); have k2 := Bk.fr0 f1; have k2 := k2.ne f2 (by omega); have c2 := Bc.fr0 f1; have c2 := c2.ne f2 (by omega)))
            | (go_at_call 10; go_must (refine (ptake_any hL g9 _ k2).mono ?_; rintro e w3 ⟨rfl, k3, f3⟩; have c3 := c2.ne f3 (by omega); have p3 := p2.ne f3 (by omega); have F3 := Fr.own F2 s9 f3)))
          go_roundw
          case rel => exact ⟨k + 1, _, by omega, by go_num, p3, k3, c3, ok1, ln1, F3⟩
          case measure => simp [intOf]; omega
        · by_cases hk1 : x.1 = 1
          · have hk := hk1
            have ok1 := hold_ok hL x.2
            have ln1 : Hid (((plHold L x.2).1).length = N) := by show _ = _; rw [hold_len]; exact hLn.out
            go_wp2_with (first
              | (refine at_idx 33 _ _ rfl ?_; go_must (refine wpList_idxR rfl 33 _ _ rfl 38 Try.underlying33 2 act_size7 _ _ _ rfl (hA.fr0 hf) (by decide) _ _ k rfl rfl hlt ?_; rw [Hx.out]; intro ba oa hba hca))
              | (with_reducible refine at_wpP ?_; refine at_ld 38 _ rfl ?_; refine wpList_ldAct rfl _ rfl ba oa rfl x hca ?_)
              | (with_reducible refine at_wpP ?_; refine wpList_alAct rfl rfl ?_; intro ga w1 hga b1 f1 sa; have l1 := b1.lt; have F1 := hf.thenN f1; have z1 := f1.size)
              | (with_reducible refine at_wpP ?_; refine at_st 38 _ _ rfl ?_; go_must (refine wpList_stAct rfl _ _ rfl ga rfl _ x b1 rfl ?_; intro w2 b2 f2; have F2 := Fr.own F1 (by omega) f2; obtain ⟨q0, q1⟩ := b2.all; rw [show x.1 = 1 from hk] at q0; have z2 := f2.size; have p2 := Bp.fr0 f1; have p2 := p2.ne f2 (by omega); have k2 := Bk.fr0 f1; have k2 := k2.ne f2 (by omega); have c2 := Bc.fr0 f1; have c2 := c2.ne f2 (by omega)))
              | (go_at_call 11; go_must (refine (phold_any hL g9 x.2 _ k2).mono ?_; rintro e w3 ⟨rfl, k3, f3⟩; have c3 := c2.ne f3 (by omega); have p3 := p2.ne f3 (by omega); have F3 := Fr.own F2 s9 f3)))
            go_roundw
            case rel => exact ⟨k + 1, _, by omega, by go_num, p3, k3, c3, ok1, ln1, F3⟩
            case measure => simp [intOf]; omega
          · by_cases hk2 : x.1 = 2
            · have hk := hk2
              have ok1 := drop_ok hL x.2
              have ln1 : Hid (((plDrop L x.2).1).length = N) := by show _ = _; rw [drop_len]; exact hLn.out
              go_wp2_with (first
                | (refine at_idx 33 _ _ rfl ?_; go_must (refine wpList_idxR rfl 33 _ _ rfl 38 Try.underlying33 2 act_size7 _ _ _ rfl (hA.fr0 hf) (by decide) _ _ k rfl rfl hlt ?_; rw [Hx.out]; intro ba oa hba hca))
                | (with_reducible refine at_wpP ?_; refine at_ld 38 _ rfl ?_; refine wpList_ldAct rfl _ rfl ba oa rfl x hca ?_)
                | (with_reducible refine at_wpP ?_; refine wpList_alAct rfl rfl ?_; intro ga w1 hga b1 f1 sa; have l1 := b1.lt; have F1 := hf.thenN f1; have z1 := f1.size)
                | (with_reducible refine at_wpP ?_; refine at_st 38 _ _ rfl ?_; go_must (refine wpList_stAct rfl _ _ rfl ga rfl _ x b1 rfl ?_; intro w2 b2 f2; have F2 := Fr.own F1 (by omega) f2; obtain ⟨q0, q1⟩ := b2.all; rw [show x.1 = 2 from hk] at q0; have z2 := f2.size; have p2 := Bp.fr0 f1; have p2 := p2.ne f2 (by omega); have k2 := Bk.fr0 f1; have k2 := k2.ne f2 (by omega); have c2 := Bc.fr0 f1; have c2 := c2.ne f2 (by omega)))
                | (go_at_call 18; go_must (refine (pdrop_any hL g9 x.2 _ k2).mono ?_; rintro e w3 ⟨rfl, k3, f3⟩; have c3 := c2.ne f3 (by omega); have p3 := p2.ne f3 (by omega); have F3 := Fr.own F2 s9 f3)))
              go_roundw
              case rel => exact ⟨k + 1, _, by omega, by go_num, p3, k3, c3, ok1, ln1, F3⟩
              case measure => simp [intOf]; omega
            · by_cases hk3 : x.1 = 3
              · have hk := hk3
                have ok1 := comm_ok hL
                have ln1 : Hid ((plCommit L).length = N) := by show _ = _; rw [comm_len]; exact hLn.out
                go_wp2_with (first
                  | (refine at_idx 33 _ _ rfl ?_; go_must (refine wpList_idxR rfl 33 _ _ rfl 38 Try.underlying33 2 act_size7 _ _ _ rfl (hA.fr0 hf) (by decide) _ _ k rfl rfl hlt ?_; rw [Hx.out]; intro ba oa hba hca))
                  | (with_reducible refine at_wpP ?_; refine at_ld 38 _ rfl ?_; refine wpList_ldAct rfl _ rfl ba oa rfl x hca ?_)
                  | (with_reducible refine at_wpP ?_; refine wpList_alAct rfl rfl ?_; intro ga w1 hga b1 f1 sa; have l1 := b1.lt; have F1 := hf.thenN f1; have z1 := f1.size)
                  | (with_reducible refine at_wpP ?_; refine at_st 38 _ _ rfl ?_; go_must (refine wpList_stAct rfl _ _ rfl ga rfl _ x b1 rfl ?_; intro w2 b2 f2; have F2 := Fr.own F1 (by omega) f2; obtain ⟨q0, q1⟩ := b2.all; rw [show x.1 = 3 from hk] at q0; have z2 := f2.size; have p2 := Bp.fr0 f1; have p2 := p2.ne f2 (by omega); have k2 := Bk.fr0 f1; have k2 := k2.ne f2 (by omega); have c2 := Bc.fr0 f1; have c2 := c2.ne f2 (by omega)))
                  | (go_at_call 20; go_must (refine (pcommit_any g9 _ k2).mono ?_; rintro e w3 ⟨rfl, k3, f3⟩; have c3 := c2.ne f3 (by omega); have p3 := p2.ne f3 (by omega); have F3 := Fr.own F2 s9 f3)))
                go_roundw
                case rel => exact ⟨k + 1, _, by omega, by go_num, p3, k3, c3, ok1, ln1, F3⟩
                case measure => simp [intOf]; omega
              · have hk0' : (x.1 == 0) = false := by simpa using hk0
                have hk1' : (x.1 == 1) = false := by simpa using hk1
                have hk2' : (x.1 == 2) = false := by simpa using hk2
                have hk3' : (x.1 == 3) = false := by simpa using hk3
                clear hk0 hk1 hk2 hk3
                go_wp2_with (first
                  | (refine at_idx 33 _ _ rfl ?_; go_must (refine wpList_idxR rfl 33 _ _ rfl 38 Try.underlying33 2 act_size7 _ _ _ rfl (hA.fr0 hf) (by decide) _ _ k rfl rfl hlt ?_; rw [Hx.out]; intro ba oa hba hca))
                  | (with_reducible refine at_wpP ?_; refine at_ld 38 _ rfl ?_; refine wpList_ldAct rfl _ rfl ba oa rfl x hca ?_)
                  | (with_reducible refine at_wpP ?_; refine wpList_alAct rfl rfl ?_; intro ga w1 hga b1 f1 sa; have l1 := b1.lt; have F1 := hf.thenN f1; have z1 := f1.size)
                  | (with_reducible refine at_wpP ?_; refine at_st 38 _ _ rfl ?_; go_must (refine wpList_stAct rfl _ _ rfl ga rfl _ x b1 rfl ?_; intro w2 b2 f2; have F2 := Fr.own F1 (by omega) f2; obtain ⟨q0, q1⟩ := b2.all; have z2 := f2.size; have p2 := Bp.fr0 f1; have p2 := p2.ne f2 (by omega); have k2 := Bk.fr0 f1; have k2 := k2.ne f2 (by omega); have c2 := Bc.fr0 f1; have c2 := c2.ne f2 (by omega))))
                go_roundw
                case rel => exact ⟨k + 1, L, by omega, by go_num, p2, k2, c2, hL, hLn, F2⟩
                case measure => simp [intOf]; omega
      · obtain rfl : k = acts.length := by omega
        have hfree : Hid (∀ W, PoolB W g7 L0 → Calls Try.prog 29 #[ptr g7] W fun r w' => r = .returned (.int .i64 (E : Int)) ∧ W = w') := (show ∀ W, _ from fun W h => pfree_at ok0 HE.out g7 W h)
        have hcounts : Hid (∀ W, PoolB W g7 L0 → Calls Try.prog 28 #[ptr g7] W fun r w' => r = .returned (pgV c) ∧ Fr noB W w') := (show ∀ W, _ from fun W h => by have := pcounts_any g7 W h; rwa [hcnt0.out] at this)
        have hfresh : Hid (∀ (i : Nat) W, PoolB W g7 L0 → Calls Try.prog 31 #[ptr g7, .int .i64 (i : Int)] W fun r w' => r = .returned (.bool false) ∧ W = w') := (show ∀ i W, _ from fun i W h => by
          have := pfresh_any ok0 g7 (i : Int) W h
          rw [plFresh_nat] at this
          have e : (plAt L0 i).frsh = false := by unfold Pg.frsh; rw [st0.out i]; rfl
          rwa [e] at this)
        clear st0 hcnt0
        go_wp2
        go_loopw [13] (fun i wr => ∃ (k : Nat), k ≤ 240 ∧ i = .int .i64 (k : Int) ∧ PoolB wr g7 L0 ∧ PoolB wr g9 L ∧ BxV wr g4 30 (pgv c) ∧ Fr noB w wr) (fun i _ => 240 - (intOf i).toNat)
        case atStart => exact ⟨0, by omega, rfl, Bp, Bk, Bc, hf⟩
        case round =>
          obtain ⟨i, hk2, rfl, Bp, Bk, Bc, hf⟩ := hrel
          by_cases hi : i < 240
          · obtain ⟨y, Hy⟩ : ∃ y, Hid (c.getD i 0 = y) := ⟨_, rfl⟩
            have hyb : 0 ≤ y ∧ y < 256 := by rw [← Hy.out]; exact hcb.at i
            have hcv : IntKind.i64.wrap y = y := by rw [IntKind.wrap_i64]; omega
            have qy := (Bc.cell i (.int .u8 y) (by rw [pgv_get _ _ (by rw [Hc.out]; exact hi), ← Hy.out]; simp [List.getD, Hc.out, hi])).1
            have hcount : Hid (∀ W, PoolB W g7 L0 → Calls Try.prog 30 #[ptr g7, .int .i64 (i : Int)] W fun r w' => r = .returned (.int .i64 y) ∧ W = w') := (show ∀ W, _ from fun W h => pcount_at ok0 (by rw [plCount_nat, hat0.out i]; exact Hy.out) g7 W h)
            have dr := fun (W : World) => (Fr.refl noB W).drew
            go_wp2_with fail
            refine wp_region_lay (by kernel_rfl) [MFact.is (ptr g7), MFact.is (.int .i64 (i : Int)), MFact.is (.bool false), MFact.is (.bool false), MFact.is (ptr g7), MFact.is (.int .i64 (i : Int)), MFact.is (.int .i64 y), MFact.is (.int .i64 (i : Int)), MFact.is (.pointer (some ⟨g4, i, none⟩)), MFact.is (.int .u8 y), MFact.is (.int .i64 y), MFact.is (.bool false), MFact.is (.bool false)] (by kernel_rfl) ⟨?o0, ?o1, ?o2, ?o3, ?o4, ?o5, ?o6, ?o7, ?o8, ?o9, ?o10, ?o11, ?o12, trivial⟩ ?oe
            case o0 =>
              intro A W hfr hbase hdep
              have e7 : A.eval (.tmp 7) = ptr g7 := hbase 7 (by kernel_rfl)
              have f7 : A.tmps[7]?.getD undef = ptr g7 := by simpa [Act.eval] using e7
              exact hands_val rfl (v := ptr g7) (w' := W) (by simp [execOp, e7, f7]) (Fr.refl _ _) rfl
            case o1 =>
              intro A W hfr hbase hdep
              have e13 : A.eval (.tmp 13) = .int .i64 (i : Int) := hbase 13 (by kernel_rfl)
              have f13 : A.tmps[13]?.getD undef = .int .i64 (i : Int) := by simpa [Act.eval] using e13
              exact hands_val rfl (v := .int .i64 (i : Int)) (w' := W) (by simp [execOp, e13, f13]) (Fr.refl _ _) rfl
            case o2 =>
              intro A W hfr hbase hdep
              have e66 : A.eval (.tmp 66) = ptr g7 := hdep 0 66 (by kernel_rfl) (by kernel_rfl)
              have f66 : A.tmps[66]?.getD undef = ptr g7 := by simpa [Act.eval] using e66
              have e67 : A.eval (.tmp 67) = .int .i64 (i : Int) := hdep 1 67 (by kernel_rfl) (by kernel_rfl)
              have f67 : A.tmps[67]?.getD undef = .int .i64 (i : Int) := by simpa [Act.eval] using e67
              refine hands_call rfl (args := #[ptr g7, .int .i64 (i : Int)]) (f := 31) (by simp [execOp, resolve, invoke, go_sem, e66, f66, e67, f67]) ?_
              refine (hfresh.out i _ ((Bp.fr0 (dr _)).fr0 hfr)).mono ?_
              rintro e w6 ⟨rfl, rfl⟩
              exact ⟨_, rfl, Fr.refl _ _, rfl⟩
            case o3 =>
              intro A W hfr hbase hdep
              have e68 : A.eval (.tmp 68) = .bool false := hdep 2 68 (by kernel_rfl) (by kernel_rfl)
              have f68 : A.tmps[68]?.getD undef = .bool false := by simpa [Act.eval] using e68
              exact hands_val rfl (v := .bool false) (w' := W) (by simp [execOp, e68, f68]) (Fr.refl _ _) rfl
            case o4 =>
              intro A W hfr hbase hdep
              have e7 : A.eval (.tmp 7) = ptr g7 := hbase 7 (by kernel_rfl)
              have f7 : A.tmps[7]?.getD undef = ptr g7 := by simpa [Act.eval] using e7
              have eg : A.eval (.tmp 69) = .bool false := hdep 3 69 (by kernel_rfl) (by kernel_rfl)
              exact hands_val (wanted_of rfl (by kernel_rfl) eg) (v := ptr g7) (w' := W) (by simp [execOp, e7, f7]) (Fr.refl _ _) rfl
            case o5 =>
              intro A W hfr hbase hdep
              have e13 : A.eval (.tmp 13) = .int .i64 (i : Int) := hbase 13 (by kernel_rfl)
              have f13 : A.tmps[13]?.getD undef = .int .i64 (i : Int) := by simpa [Act.eval] using e13
              have eg : A.eval (.tmp 69) = .bool false := hdep 3 69 (by kernel_rfl) (by kernel_rfl)
              exact hands_val (wanted_of rfl (by kernel_rfl) eg) (v := .int .i64 (i : Int)) (w' := W) (by simp [execOp, e13, f13]) (Fr.refl _ _) rfl
            case o6 =>
              intro A W hfr hbase hdep
              have e70 : A.eval (.tmp 70) = ptr g7 := hdep 4 70 (by kernel_rfl) (by kernel_rfl)
              have f70 : A.tmps[70]?.getD undef = ptr g7 := by simpa [Act.eval] using e70
              have e71 : A.eval (.tmp 71) = .int .i64 (i : Int) := hdep 5 71 (by kernel_rfl) (by kernel_rfl)
              have f71 : A.tmps[71]?.getD undef = .int .i64 (i : Int) := by simpa [Act.eval] using e71
              have eg : A.eval (.tmp 69) = .bool false := hdep 3 69 (by kernel_rfl) (by kernel_rfl)
              refine hands_call (wanted_of rfl (by kernel_rfl) eg) (args := #[ptr g7, .int .i64 (i : Int)]) (f := 30) (by simp [execOp, resolve, invoke, go_sem, e70, f70, e71, f71]) ?_
              refine (hcount.out _ ((Bp.fr0 (dr _)).fr0 hfr)).mono ?_
              rintro e w6 ⟨rfl, rfl⟩
              exact ⟨_, rfl, Fr.refl _ _, rfl⟩
            case o7 =>
              intro A W hfr hbase hdep
              have e13 : A.eval (.tmp 13) = .int .i64 (i : Int) := hbase 13 (by kernel_rfl)
              have f13 : A.tmps[13]?.getD undef = .int .i64 (i : Int) := by simpa [Act.eval] using e13
              have eg : A.eval (.tmp 69) = .bool false := hdep 3 69 (by kernel_rfl) (by kernel_rfl)
              exact hands_val (wanted_of rfl (by kernel_rfl) eg) (v := .int .i64 (i : Int)) (w' := W) (by simp [execOp, e13, f13]) (Fr.refl _ _) rfl
            case o8 =>
              intro A W hfr hbase hdep
              have e4 : A.eval (.tmp 4) = ptr g4 := hbase 4 (by kernel_rfl)
              have f4 : A.tmps[4]?.getD undef = ptr g4 := by simpa [Act.eval] using e4
              have e73 : A.eval (.tmp 73) = .int .i64 (i : Int) := hdep 7 73 (by kernel_rfl) (by kernel_rfl)
              have f73 : A.tmps[73]?.getD undef = .int .i64 (i : Int) := by simpa [Act.eval] using e73
              have eg : A.eval (.tmp 69) = .bool false := hdep 3 69 (by kernel_rfl) (by kernel_rfl)
              have hr := run_idxAt arr_240 W g4 i hi .i64
              exact hands_val (wanted_of rfl (by kernel_rfl) eg) (v := .pointer (some ⟨g4, i, none⟩)) (w' := W) (by simp [execOp, e4, e73, hr, Result.andThen]) (Fr.refl _ _) rfl
            case o9 =>
              intro A W hfr hbase hdep
              have e74 : A.eval (.tmp 74) = .pointer (some ⟨g4, i, none⟩) := hdep 8 74 (by kernel_rfl) (by kernel_rfl)
              have f74 : A.tmps[74]?.getD undef = .pointer (some ⟨g4, i, none⟩) := by simpa [Act.eval] using e74
              have eg : A.eval (.tmp 69) = .bool false := hdep 3 69 (by kernel_rfl) (by kernel_rfl)
              have hc0 := hfr.cell ((dr _).cell qy (fun q => q)) (fun q => q)
              exact hands_val (wanted_of rfl (by kernel_rfl) eg) (v := .int .u8 y) (w' := W) (by simp [execOp, go_sem, e74, f74, hc0]) (Fr.refl _ _) rfl
            case o10 =>
              intro A W hfr hbase hdep
              have e75 : A.eval (.tmp 75) = .int .u8 y := hdep 9 75 (by kernel_rfl) (by kernel_rfl)
              have f75 : A.tmps[75]?.getD undef = .int .u8 y := by simpa [Act.eval] using e75
              have eg : A.eval (.tmp 69) = .bool false := hdep 3 69 (by kernel_rfl) (by kernel_rfl)
              exact hands_val (wanted_of rfl (by kernel_rfl) eg) (v := .int .i64 y) (w' := W) (by simp [execOp, go_sem, f75, hcv]) (Fr.refl _ _) rfl
            case o11 =>
              intro A W hfr hbase hdep
              have e72 : A.eval (.tmp 72) = .int .i64 y := hdep 6 72 (by kernel_rfl) (by kernel_rfl)
              have f72 : A.tmps[72]?.getD undef = .int .i64 y := by simpa [Act.eval] using e72
              have e76 : A.eval (.tmp 76) = .int .i64 y := hdep 10 76 (by kernel_rfl) (by kernel_rfl)
              have f76 : A.tmps[76]?.getD undef = .int .i64 y := by simpa [Act.eval] using e76
              have eg : A.eval (.tmp 69) = .bool false := hdep 3 69 (by kernel_rfl) (by kernel_rfl)
              exact hands_val (wanted_of rfl (by kernel_rfl) eg) (v := .bool false) (w' := W) (by simp [execOp, go_sem, e72, f72, e76, f76]) (Fr.refl _ _) rfl
            case o12 =>
              intro A W hfr hbase hdep
              have e69 : A.eval (.tmp 69) = .bool false := hdep 3 69 (by kernel_rfl) (by kernel_rfl)
              have f69 : A.tmps[69]?.getD undef = .bool false := by simpa [Act.eval] using e69
              have e77 : A.eval (.tmp 77) = .bool false := hdep 11 77 (by kernel_rfl) (by kernel_rfl)
              have f77 : A.tmps[77]?.getD undef = .bool false := by simpa [Act.eval] using e77
              exact hands_val rfl (v := .bool false) (w' := W) (by simp [execOp, go_sem, e69, f69, e77, f77]) (Fr.refl _ _) rfl
            case oe =>
              intro vs W' hfW hall
              have x0 : vs 0 = ptr g7 := hall 0 (by rfl)
              have x1 : vs 1 = .int .i64 (i : Int) := hall 1 (by rfl)
              have x2 : vs 2 = .bool false := hall 2 (by rfl)
              have x3 : vs 3 = .bool false := hall 3 (by rfl)
              have x4 : vs 4 = ptr g7 := hall 4 (by rfl)
              have x5 : vs 5 = .int .i64 (i : Int) := hall 5 (by rfl)
              have x6 : vs 6 = .int .i64 y := hall 6 (by rfl)
              have x7 : vs 7 = .int .i64 (i : Int) := hall 7 (by rfl)
              have x8 : vs 8 = .pointer (some ⟨g4, i, none⟩) := hall 8 (by rfl)
              have x9 : vs 9 = .int .u8 y := hall 9 (by rfl)
              have x10 : vs 10 = .int .i64 y := hall 10 (by rfl)
              have x11 : vs 11 = .bool false := hall 11 (by rfl)
              have x12 : vs 12 = .bool false := hall 12 (by rfl)
              simp only [layL, Nat.reduceAdd, x0, x1, x2, x3, x4, x5, x6, x7, x8, x9, x10, x11, x12, Act.put, List.setIfInBounds_toArray, List.set_cons_zero, List.set_cons_succ]
              clear x0 x1 x2 x3 x4 x5 x6 x7 x8 x9 x10 x11 x12 hall
              go_wp2
              go_roundw
              case rel => exact ⟨i + 1, by omega, by go_num, (Bp.fr0 (dr _)).fr0 hfW, (Bk.fr0 (dr _)).fr0 hfW, (Bc.fr0 (dr _)).fr0 hfW, (hf.thenN (dr _)).thenN hfW⟩
              case measure => simp [intOf]; omega
          · obtain rfl : i = 240 := by omega
            have dr := fun (W : World) => (Fr.refl noB W).drew
            go_wp2_with fail
            refine wp_region_lay (by kernel_rfl) [MFact.is (ptr g7), MFact.is (.int .i64 (E : Int)), MFact.is (.int .i64 (E : Int)), MFact.is (.bool true), MFact.is (.bool true), MFact.is (ptr g7), MFact.is (.int .i64 (N : Int)), MFact.is (ptr g9), MFact.is (.int .i64 (N : Int)), MFact.is (.bool true), MFact.is (.bool true), MFact.is (.bool true), MFact.is (ptr g7), MFact.is (pgV c), MFact.is (pgV c), MFact.is (.bool true), MFact.is (.bool true), MFact.is (.bool true)] (by kernel_rfl) ⟨?o0, ?o1, ?o2, ?o3, ?o4, ?o5, ?o6, ?o7, ?o8, ?o9, ?o10, ?o11, ?o12, ?o13, ?o14, ?o15, ?o16, ?o17, trivial⟩ ?oe
            case o0 =>
              intro A W hfr hbase hdep
              have e7 : A.eval (.tmp 7) = ptr g7 := hbase 7 (by kernel_rfl)
              have f7 : A.tmps[7]?.getD undef = ptr g7 := by simpa [Act.eval] using e7
              exact hands_val rfl (v := ptr g7) (w' := W) (by simp [execOp, e7, f7]) (Fr.refl _ _) rfl
            case o1 =>
              intro A W hfr hbase hdep
              have e79 : A.eval (.tmp 79) = ptr g7 := hdep 0 79 (by kernel_rfl) (by kernel_rfl)
              have f79 : A.tmps[79]?.getD undef = ptr g7 := by simpa [Act.eval] using e79
              refine hands_call rfl (args := #[ptr g7]) (f := 29) (by simp [execOp, resolve, invoke, go_sem, e79, f79]) ?_
              refine (hfree.out _ ((Bp.fr0 (dr _)).fr0 hfr)).mono ?_
              rintro e w6 ⟨rfl, rfl⟩
              exact ⟨_, rfl, Fr.refl _ _, rfl⟩
            case o2 =>
              intro A W hfr hbase hdep
              have e10 : A.eval (.tmp 10) = .int .i64 (E : Int) := hbase 10 (by kernel_rfl)
              have f10 : A.tmps[10]?.getD undef = .int .i64 (E : Int) := by simpa [Act.eval] using e10
              exact hands_val rfl (v := .int .i64 (E : Int)) (w' := W) (by simp [execOp, e10, f10]) (Fr.refl _ _) rfl
            case o3 =>
              intro A W hfr hbase hdep
              have e80 : A.eval (.tmp 80) = .int .i64 (E : Int) := hdep 1 80 (by kernel_rfl) (by kernel_rfl)
              have f80 : A.tmps[80]?.getD undef = .int .i64 (E : Int) := by simpa [Act.eval] using e80
              have e81 : A.eval (.tmp 81) = .int .i64 (E : Int) := hdep 2 81 (by kernel_rfl) (by kernel_rfl)
              have f81 : A.tmps[81]?.getD undef = .int .i64 (E : Int) := by simpa [Act.eval] using e81
              exact hands_val rfl (v := .bool true) (w' := W) (by simp [execOp, go_sem, e80, f80, e81, f81]) (Fr.refl _ _) rfl
            case o4 =>
              intro A W hfr hbase hdep
              have e82 : A.eval (.tmp 82) = .bool true := hdep 3 82 (by kernel_rfl) (by kernel_rfl)
              have f82 : A.tmps[82]?.getD undef = .bool true := by simpa [Act.eval] using e82
              exact hands_val rfl (v := .bool true) (w' := W) (by simp [execOp, e82, f82]) (Fr.refl _ _) rfl
            case o5 =>
              intro A W hfr hbase hdep
              have e7 : A.eval (.tmp 7) = ptr g7 := hbase 7 (by kernel_rfl)
              have f7 : A.tmps[7]?.getD undef = ptr g7 := by simpa [Act.eval] using e7
              have eg : A.eval (.tmp 83) = .bool true := hdep 4 83 (by kernel_rfl) (by kernel_rfl)
              exact hands_val (wanted_of rfl (by kernel_rfl) eg) (v := ptr g7) (w' := W) (by simp [execOp, e7, f7]) (Fr.refl _ _) rfl
            case o6 =>
              intro A W hfr hbase hdep
              have e84 : A.eval (.tmp 84) = ptr g7 := hdep 5 84 (by kernel_rfl) (by kernel_rfl)
              have f84 : A.tmps[84]?.getD undef = ptr g7 := by simpa [Act.eval] using e84
              have eg : A.eval (.tmp 83) = .bool true := hdep 4 83 (by kernel_rfl) (by kernel_rfl)
              refine hands_call (wanted_of rfl (by kernel_rfl) eg) (args := #[ptr g7]) (f := 14) (by simp [execOp, resolve, invoke, go_sem, e84, f84]) ?_
              refine (psize_any g7 _ ((Bp.fr0 (dr _)).fr0 hfr)).mono ?_
              rw [hN0.out]
              rintro e w6 ⟨rfl, rfl⟩
              exact ⟨_, rfl, Fr.refl _ _, rfl⟩
            case o7 =>
              intro A W hfr hbase hdep
              have e9 : A.eval (.tmp 9) = ptr g9 := hbase 9 (by kernel_rfl)
              have f9 : A.tmps[9]?.getD undef = ptr g9 := by simpa [Act.eval] using e9
              have eg : A.eval (.tmp 83) = .bool true := hdep 4 83 (by kernel_rfl) (by kernel_rfl)
              exact hands_val (wanted_of rfl (by kernel_rfl) eg) (v := ptr g9) (w' := W) (by simp [execOp, e9, f9]) (Fr.refl _ _) rfl
            case o8 =>
              intro A W hfr hbase hdep
              have e86 : A.eval (.tmp 86) = ptr g9 := hdep 7 86 (by kernel_rfl) (by kernel_rfl)
              have f86 : A.tmps[86]?.getD undef = ptr g9 := by simpa [Act.eval] using e86
              have eg : A.eval (.tmp 83) = .bool true := hdep 4 83 (by kernel_rfl) (by kernel_rfl)
              refine hands_call (wanted_of rfl (by kernel_rfl) eg) (args := #[ptr g9]) (f := 14) (by simp [execOp, resolve, invoke, go_sem, e86, f86]) ?_
              refine (psize_any g9 _ ((Bk.fr0 (dr _)).fr0 hfr)).mono ?_
              rw [hLn.out]
              rintro e w6 ⟨rfl, rfl⟩
              exact ⟨_, rfl, Fr.refl _ _, rfl⟩
            case o9 =>
              intro A W hfr hbase hdep
              have e85 : A.eval (.tmp 85) = .int .i64 (N : Int) := hdep 6 85 (by kernel_rfl) (by kernel_rfl)
              have f85 : A.tmps[85]?.getD undef = .int .i64 (N : Int) := by simpa [Act.eval] using e85
              have e87 : A.eval (.tmp 87) = .int .i64 (N : Int) := hdep 8 87 (by kernel_rfl) (by kernel_rfl)
              have f87 : A.tmps[87]?.getD undef = .int .i64 (N : Int) := by simpa [Act.eval] using e87
              have eg : A.eval (.tmp 83) = .bool true := hdep 4 83 (by kernel_rfl) (by kernel_rfl)
              exact hands_val (wanted_of rfl (by kernel_rfl) eg) (v := .bool true) (w' := W) (by simp [execOp, go_sem, e85, f85, e87, f87]) (Fr.refl _ _) rfl
            case o10 =>
              intro A W hfr hbase hdep
              have e83 : A.eval (.tmp 83) = .bool true := hdep 4 83 (by kernel_rfl) (by kernel_rfl)
              have f83 : A.tmps[83]?.getD undef = .bool true := by simpa [Act.eval] using e83
              have e88 : A.eval (.tmp 88) = .bool true := hdep 9 88 (by kernel_rfl) (by kernel_rfl)
              have f88 : A.tmps[88]?.getD undef = .bool true := by simpa [Act.eval] using e88
              exact hands_val rfl (v := .bool true) (w' := W) (by simp [execOp, go_sem, e83, f83, e88, f88]) (Fr.refl _ _) rfl
            case o11 =>
              intro A W hfr hbase hdep
              have e89 : A.eval (.tmp 89) = .bool true := hdep 10 89 (by kernel_rfl) (by kernel_rfl)
              have f89 : A.tmps[89]?.getD undef = .bool true := by simpa [Act.eval] using e89
              exact hands_val rfl (v := .bool true) (w' := W) (by simp [execOp, e89, f89]) (Fr.refl _ _) rfl
            case o12 =>
              intro A W hfr hbase hdep
              have e7 : A.eval (.tmp 7) = ptr g7 := hbase 7 (by kernel_rfl)
              have f7 : A.tmps[7]?.getD undef = ptr g7 := by simpa [Act.eval] using e7
              have eg : A.eval (.tmp 90) = .bool true := hdep 11 90 (by kernel_rfl) (by kernel_rfl)
              exact hands_val (wanted_of rfl (by kernel_rfl) eg) (v := ptr g7) (w' := W) (by simp [execOp, e7, f7]) (Fr.refl _ _) rfl
            case o13 =>
              intro A W hfr hbase hdep
              have e91 : A.eval (.tmp 91) = ptr g7 := hdep 12 91 (by kernel_rfl) (by kernel_rfl)
              have f91 : A.tmps[91]?.getD undef = ptr g7 := by simpa [Act.eval] using e91
              have eg : A.eval (.tmp 90) = .bool true := hdep 11 90 (by kernel_rfl) (by kernel_rfl)
              refine hands_call (wanted_of rfl (by kernel_rfl) eg) (args := #[ptr g7]) (f := 28) (by simp [execOp, resolve, invoke, go_sem, e91, f91]) ?_
              refine (hcounts.out _ ((Bp.fr0 (dr _)).fr0 hfr)).mono ?_
              rintro e w6 ⟨rfl, f6⟩
              exact ⟨_, rfl, f6, rfl⟩
            case o14 =>
              intro A W hfr hbase hdep
              have e4 : A.eval (.tmp 4) = ptr g4 := hbase 4 (by kernel_rfl)
              have f4 : A.tmps[4]?.getD undef = ptr g4 := by simpa [Act.eval] using e4
              have eg : A.eval (.tmp 90) = .bool true := hdep 11 90 (by kernel_rfl) (by kernel_rfl)
              have hr := run_loadA arr_240 W g4 0 c (bxAll ((Bc.fr0 (dr _)).fr0 hfr)) Hc.out
              exact hands_val (wanted_of rfl (by kernel_rfl) eg) (v := pgV c) (w' := W) (by simp [execOp, e4, hr, Result.andThen]) (Fr.refl _ _) rfl
            case o15 =>
              intro A W hfr hbase hdep
              have e92 : A.eval (.tmp 92) = pgV c := hdep 13 92 (by kernel_rfl) (by kernel_rfl)
              have f92 : A.tmps[92]?.getD undef = pgV c := by simpa [Act.eval] using e92
              have e93 : A.eval (.tmp 93) = pgV c := hdep 14 93 (by kernel_rfl) (by kernel_rfl)
              have f93 : A.tmps[93]?.getD undef = pgV c := by simpa [Act.eval] using e93
              have eg : A.eval (.tmp 90) = .bool true := hdep 11 90 (by kernel_rfl) (by kernel_rfl)
              have hr := run_eqlA arr_240 W c c Hc.out Hc.out
              rw [beq_self_eq_true c] at hr
              exact hands_val (wanted_of rfl (by kernel_rfl) eg) (v := .bool true) (w' := W) (by simp [execOp, e92, e93, hr, eqgA arr_240, Result.andThen]) (Fr.refl _ _) rfl
            case o16 =>
              intro A W hfr hbase hdep
              have e90 : A.eval (.tmp 90) = .bool true := hdep 11 90 (by kernel_rfl) (by kernel_rfl)
              have f90 : A.tmps[90]?.getD undef = .bool true := by simpa [Act.eval] using e90
              have e94 : A.eval (.tmp 94) = .bool true := hdep 15 94 (by kernel_rfl) (by kernel_rfl)
              have f94 : A.tmps[94]?.getD undef = .bool true := by simpa [Act.eval] using e94
              exact hands_val rfl (v := .bool true) (w' := W) (by simp [execOp, go_sem, e90, f90, e94, f94]) (Fr.refl _ _) rfl
            case o17 =>
              intro A W hfr hbase hdep
              have e95 : A.eval (.tmp 95) = .bool true := hdep 16 95 (by kernel_rfl) (by kernel_rfl)
              have f95 : A.tmps[95]?.getD undef = .bool true := by simpa [Act.eval] using e95
              exact hands_val rfl (v := .bool true) (w' := W) (by simp [execOp, e95, f95]) (Fr.refl _ _) rfl
            case oe =>
              intro vs W' hfW hall
              have x0 : vs 0 = ptr g7 := hall 0 (by rfl)
              have x1 : vs 1 = .int .i64 (E : Int) := hall 1 (by rfl)
              have x2 : vs 2 = .int .i64 (E : Int) := hall 2 (by rfl)
              have x3 : vs 3 = .bool true := hall 3 (by rfl)
              have x4 : vs 4 = .bool true := hall 4 (by rfl)
              have x5 : vs 5 = ptr g7 := hall 5 (by rfl)
              have x6 : vs 6 = .int .i64 (N : Int) := hall 6 (by rfl)
              have x7 : vs 7 = ptr g9 := hall 7 (by rfl)
              have x8 : vs 8 = .int .i64 (N : Int) := hall 8 (by rfl)
              have x9 : vs 9 = .bool true := hall 9 (by rfl)
              have x10 : vs 10 = .bool true := hall 10 (by rfl)
              have x11 : vs 11 = .bool true := hall 11 (by rfl)
              have x12 : vs 12 = ptr g7 := hall 12 (by rfl)
              have x13 : vs 13 = pgV c := hall 13 (by rfl)
              have x14 : vs 14 = pgV c := hall 14 (by rfl)
              have x15 : vs 15 = .bool true := hall 15 (by rfl)
              have x16 : vs 16 = .bool true := hall 16 (by rfl)
              have x17 : vs 17 = .bool true := hall 17 (by rfl)
              simp only [layL, Nat.reduceAdd, x0, x1, x2, x3, x4, x5, x6, x7, x8, x9, x10, x11, x12, x13, x14, x15, x16, x17, Act.put, List.setIfInBounds_toArray, List.set_cons_zero, List.set_cons_succ]
              clear x0 x1 x2 x3 x4 x5 x6 x7 x8 x9 x10 x11 x12 x13 x14 x15 x16 x17 hall
              go_wp2
              go_ret
              exact ⟨rfl, ((hf.thenN (dr _)).thenN hfW).below⟩
end Go.Proofs.Ytghkpeejogldkaa
