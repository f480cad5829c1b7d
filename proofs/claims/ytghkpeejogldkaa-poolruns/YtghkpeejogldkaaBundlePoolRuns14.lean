/- Texts Y14 of the proof of PoolRuns, one behind the other. -/
import Derived.Test.YtghkpeejogldkaaBundlePoolRuns1
import Derived.Test.YtghkpeejogldkaaBundlePoolRuns2
import Derived.Test.YtghkpeejogldkaaBundlePoolRuns3
import Derived.Test.YtghkpeejogldkaaBundlePoolRuns4
import Derived.Test.YtghkpeejogldkaaBundlePoolRuns5
import Derived.Test.YtghkpeejogldkaaBundlePoolRuns6
import Derived.Test.YtghkpeejogldkaaBundlePoolRuns7
import Derived.Test.YtghkpeejogldkaaBundlePoolRuns8
import Derived.Test.YtghkpeejogldkaaBundlePoolRuns9
import Derived.Test.YtghkpeejogldkaaBundlePoolRuns10
import Derived.Test.YtghkpeejogldkaaBundlePoolRuns11
import Derived.Test.YtghkpeejogldkaaBundlePoolRuns12
import Derived.Test.YtghkpeejogldkaaBundlePoolRuns13
/- PoolMarks. (Written by y14_gen.py.) -/
namespace Go.Proofs.Ytghkpeejogldkaa
open Go.RowKit Go.Proofs.U
set_option linter.unusedSimpArgs false
set_option linter.unusedVariables false
/-- What was held at the mark isn't free. -/
def KeptL (base : List Int) (L : List Pg) : Prop := ∀ i, keptP (base.getD i 0) (plAt L i)
theorem KeptL.start {L : List Pg} (h : plOk L) : KeptL (plCounts (plMark L)) (plMark L) := by
  intro i
  by_cases hi : i < 240
  · rw [plCounts_at _ _ hi]; exact kept_start h i
  · intro hb
    have hl := plCounts_len (plMark L)
    have : (plCounts (plMark L)).getD i 0 = 0 := by simp [List.getD, List.getElem?_eq_none (show (plCounts (plMark L)).length ≤ i by omega)]
    rw [this] at hb
    exact absurd hb (by decide)
theorem pmark_at {L M : List Pg} (hL : plOk L) (hM : plMark L = M) (g : Nat) (w : World) (h : PoolB w g L) :
    Calls Try.prog 23 #[ptr g] w fun r w' => ∃ g', r = .returned (ptr g') ∧ w.heap.size ≤ g' ∧ PoolB w' g' M ∧ PoolB w' g M ∧ Fr (onB1 g) w w' := by
  have := pmark_any hL g w h
  rwa [hM] at this
set_option maxRecDepth 100000 in
set_option maxHeartbeats 4000000 in
theorem pmarks_walk (n : Int) (vf : Value) (front : List (Int × Int)) (va : Value) (acts : List (Int × Int)) (w : World) (hn : (Lit.int .i64 n).wf = true) (hf1 : SlP .i64 .i64 w vf front) (ha : SlP .i64 .i64 w va acts) :
    Calls Try.prog 8 #[.int .i64 n, vf, va] w fun r w' => r = .returned (.bool true) ∧ Below w.heap.size w w' := by
  obtain ⟨hA, _⟩ := ha
  obtain ⟨hA1, _⟩ := hf1
  obtain ⟨a2, c2', rfl, hc2⟩ := hA.opn
  obtain ⟨a1, c1', rfl, hc1⟩ := hA1.opn
  by_cases hb0 : (100 : Int) < (front.length : Int)
  · go_enter Try.func8, Try.ntmps8
    go_wp2_with (first
      | (go_at_call 13; go_must (refine (palive_any _).mono ?_; rintro e w2 ⟨rfl, f2⟩)))
    go_ret
    exact ⟨rfl, f2.below⟩
  by_cases hb1 : (100 : Int) < (acts.length : Int)
  · go_enter Try.func8, Try.ntmps8
    go_wp2_with (first
      | (go_at_call 13; go_must (refine (palive_any _).mono ?_; rintro e w2 ⟨rfl, f2⟩)))
    go_ret
    exact ⟨rfl, f2.below⟩
  have ok0 := plNew_ok n
  obtain ⟨L0, HL0⟩ : ∃ L, Hid (plNew n = L) := ⟨_, rfl⟩
  rw [HL0.out] at ok0
  obtain ⟨N, HN⟩ : ∃ N, Hid (L0.length = N) := ⟨_, rfl⟩
  go_enter Try.func8, Try.ntmps8
  go_wp2_with (first
    | (go_at_call 13; go_must (refine (palive_any _).mono ?_; rintro e w2 ⟨rfl, f2⟩; have z2 := f2.size))
    | (go_at_call 9; go_must (refine (pnew_any n _).mono ?_; rw [HL0.out]; rintro e w3 ⟨g7, rfl, s7, p3, f3⟩; have F3 := f2.thenN f3)))
  have s7' : w.heap.size ≤ g7 := by omega
  go_loopw [32] (fun i wr => ∃ (k : Nat) (L : List Pg), k ≤ front.length ∧ i = .int .i64 (k : Int) ∧ PoolB wr g7 L ∧ plOk L ∧ Hid (L.length = N) ∧ Fr noB w wr) (fun i _ => front.length - (intOf i).toNat)
  case atStart => exact ⟨0, L0, by omega, rfl, p3, ok0, HN, F3⟩
  case round =>
    obtain ⟨k, L, hk, rfl, Bp, hL, hLn, hf⟩ := hrel
    have l7' := Bp.lt
    have zf := hf.size
    clear p3 ok0 f3 F3 f2 s7
    by_cases hlt : k < front.length
    · obtain ⟨x, Hx⟩ : ∃ x, Hid (front[k] = x) := ⟨front[k], (rfl : front[k] = front[k])⟩
      by_cases hk0 : x.1 = 0
      · have hk := hk0
        rcases plTake_cases L with ⟨m, hm, hfr, _, hT⟩ | ⟨_, hT⟩
        · have okt := take_ok hL
          rw [hT] at okt
          have ok1 := hold_ok okt (m : Int)
          have ln1 : Hid ((plHold (L.set m ⟨0, 1⟩) (m : Int)).1.length = N) := by show _ = _; rw [hold_len, List.length_set]; exact hLn.out
          go_wp2_with (first
            | (refine at_idx 33 _ _ rfl ?_; go_must (refine wpList_idxR rfl 33 _ _ rfl 38 Try.underlying33 2 act_size7 _ _ _ rfl (hA1.fr0 hf) (by decide) _ _ k rfl rfl hlt ?_; rw [Hx.out]; intro ba oa hba hca))
            | (with_reducible refine at_wpP ?_; refine at_ld 38 _ rfl ?_; refine wpList_ldAct rfl _ rfl ba oa rfl x hca ?_)
            | (with_reducible refine at_wpP ?_; refine wpList_alAct rfl rfl ?_; intro ga w1 hga b1 f1 sa; have l1 := b1.lt; have F1 := hf.thenN f1; have z1 := f1.size)
            | (with_reducible refine at_wpP ?_; refine at_st 38 _ _ rfl ?_; go_must (refine wpList_stAct rfl _ _ rfl ga rfl _ x b1 rfl ?_; intro w2 b2 f2; have F2 := Fr.own F1 (by omega) f2; obtain ⟨q0, q1⟩ := b2.all; rw [show x.1 = 0 from hk] at q0; have z2 := f2.size; have p2 := Bp.fr0 f1; have p2 := p2.ne f2 (by omega)))
            | (go_at_call 10; go_must (refine (ptake_at hL hT g7 _ p2).mono ?_; rintro e w3 ⟨rfl, p3, f3⟩; have F3 := Fr.own F2 s7' f3))
            | (go_at_call 11; go_must (refine (phold_any okt g7 (m : Int) _ p3).mono ?_; rintro e w4 ⟨rfl, p4, f4⟩; have F4 := Fr.own F3 s7' f4)))
          go_roundw
          case rel => exact ⟨k + 1, _, by omega, by go_num, p4, ok1, ln1, F4⟩
          case measure => simp [intOf]; omega
        · have ok1 := hL
          have ln1 := hLn
          go_wp2_with (first
            | (refine at_idx 33 _ _ rfl ?_; go_must (refine wpList_idxR rfl 33 _ _ rfl 38 Try.underlying33 2 act_size7 _ _ _ rfl (hA1.fr0 hf) (by decide) _ _ k rfl rfl hlt ?_; rw [Hx.out]; intro ba oa hba hca))
            | (with_reducible refine at_wpP ?_; refine at_ld 38 _ rfl ?_; refine wpList_ldAct rfl _ rfl ba oa rfl x hca ?_)
            | (with_reducible refine at_wpP ?_; refine wpList_alAct rfl rfl ?_; intro ga w1 hga b1 f1 sa; have l1 := b1.lt; have F1 := hf.thenN f1; have z1 := f1.size)
            | (with_reducible refine at_wpP ?_; refine at_st 38 _ _ rfl ?_; go_must (refine wpList_stAct rfl _ _ rfl ga rfl _ x b1 rfl ?_; intro w2 b2 f2; have F2 := Fr.own F1 (by omega) f2; obtain ⟨q0, q1⟩ := b2.all; rw [show x.1 = 0 from hk] at q0; have z2 := f2.size; have p2 := Bp.fr0 f1; have p2 := p2.ne f2 (by omega)))
            | (go_at_call 10; go_must (refine (ptake_at hL hT g7 _ p2).mono ?_; rintro e w3 ⟨rfl, p3, f3⟩; have F3 := Fr.own F2 s7' f3)))
          go_roundw
          case rel => exact ⟨k + 1, _, by omega, by go_num, p3, ok1, ln1, F3⟩
          case measure => simp [intOf]; omega
      · by_cases hk2 : x.1 = 2
        · have hk := hk2
          have ok1 := drop_ok hL x.2
          have ln1 : Hid (((plDrop L x.2).1).length = N) := by show _ = _; rw [drop_len]; exact hLn.out
          go_wp2_with (first
            | (refine at_idx 33 _ _ rfl ?_; go_must (refine wpList_idxR rfl 33 _ _ rfl 38 Try.underlying33 2 act_size7 _ _ _ rfl (hA1.fr0 hf) (by decide) _ _ k rfl rfl hlt ?_; rw [Hx.out]; intro ba oa hba hca))
            | (with_reducible refine at_wpP ?_; refine at_ld 38 _ rfl ?_; refine wpList_ldAct rfl _ rfl ba oa rfl x hca ?_)
            | (with_reducible refine at_wpP ?_; refine wpList_alAct rfl rfl ?_; intro ga w1 hga b1 f1 sa; have l1 := b1.lt; have F1 := hf.thenN f1; have z1 := f1.size)
            | (with_reducible refine at_wpP ?_; refine at_st 38 _ _ rfl ?_; go_must (refine wpList_stAct rfl _ _ rfl ga rfl _ x b1 rfl ?_; intro w2 b2 f2; have F2 := Fr.own F1 (by omega) f2; obtain ⟨q0, q1⟩ := b2.all; rw [show x.1 = 2 from hk] at q0; have z2 := f2.size; have p2 := Bp.fr0 f1; have p2 := p2.ne f2 (by omega)))
            | (go_at_call 18; go_must (refine (pdrop_any hL g7 x.2 _ p2).mono ?_; rintro e w3 ⟨rfl, p3, f3⟩; have F3 := Fr.own F2 s7' f3)))
          go_roundw
          case rel => exact ⟨k + 1, _, by omega, by go_num, p3, ok1, ln1, F3⟩
          case measure => simp [intOf]; omega
        · by_cases hk3 : x.1 = 3
          · have hk := hk3
            have ok1 := comm_ok hL
            have ln1 : Hid ((plCommit L).length = N) := by show _ = _; rw [comm_len]; exact hLn.out
            go_wp2_with (first
              | (refine at_idx 33 _ _ rfl ?_; go_must (refine wpList_idxR rfl 33 _ _ rfl 38 Try.underlying33 2 act_size7 _ _ _ rfl (hA1.fr0 hf) (by decide) _ _ k rfl rfl hlt ?_; rw [Hx.out]; intro ba oa hba hca))
              | (with_reducible refine at_wpP ?_; refine at_ld 38 _ rfl ?_; refine wpList_ldAct rfl _ rfl ba oa rfl x hca ?_)
              | (with_reducible refine at_wpP ?_; refine wpList_alAct rfl rfl ?_; intro ga w1 hga b1 f1 sa; have l1 := b1.lt; have F1 := hf.thenN f1; have z1 := f1.size)
              | (with_reducible refine at_wpP ?_; refine at_st 38 _ _ rfl ?_; go_must (refine wpList_stAct rfl _ _ rfl ga rfl _ x b1 rfl ?_; intro w2 b2 f2; have F2 := Fr.own F1 (by omega) f2; obtain ⟨q0, q1⟩ := b2.all; rw [show x.1 = 3 from hk] at q0; have z2 := f2.size; have p2 := Bp.fr0 f1; have p2 := p2.ne f2 (by omega)))
              | (go_at_call 20; go_must (refine (pcommit_any g7 _ p2).mono ?_; rintro e w3 ⟨rfl, p3, f3⟩; have F3 := Fr.own F2 s7' f3)))
            go_roundw
            case rel => exact ⟨k + 1, _, by omega, by go_num, p3, ok1, ln1, F3⟩
            case measure => simp [intOf]; omega
          · have hk0' : (x.1 == 0) = false := by simpa using hk0
            have hk2' : (x.1 == 2) = false := by simpa using hk2
            have hk3' : (x.1 == 3) = false := by simpa using hk3
            clear hk0 hk2 hk3
            go_wp2_with (first
              | (refine at_idx 33 _ _ rfl ?_; go_must (refine wpList_idxR rfl 33 _ _ rfl 38 Try.underlying33 2 act_size7 _ _ _ rfl (hA1.fr0 hf) (by decide) _ _ k rfl rfl hlt ?_; rw [Hx.out]; intro ba oa hba hca))
              | (with_reducible refine at_wpP ?_; refine at_ld 38 _ rfl ?_; refine wpList_ldAct rfl _ rfl ba oa rfl x hca ?_)
              | (with_reducible refine at_wpP ?_; refine wpList_alAct rfl rfl ?_; intro ga w1 hga b1 f1 sa; have l1 := b1.lt; have F1 := hf.thenN f1; have z1 := f1.size)
              | (with_reducible refine at_wpP ?_; refine at_st 38 _ _ rfl ?_; go_must (refine wpList_stAct rfl _ _ rfl ga rfl _ x b1 rfl ?_; intro w2 b2 f2; have F2 := Fr.own F1 (by omega) f2; obtain ⟨q0, q1⟩ := b2.all; have z2 := f2.size; have p2 := Bp.fr0 f1; have p2 := p2.ne f2 (by omega))))
            go_roundw
            case rel => exact ⟨k + 1, L, by omega, by go_num, p2, hL, hLn, F2⟩
            case measure => simp [intOf]; omega
    · obtain rfl : k = front.length := by omega
      have okm := mark_ok hL
      have kp0 : Hid (KeptL (plCounts (plMark L)) (plMark L)) := KeptL.start hL
      have hMn : Hid ((plMark L).length = N) := by show _ = _; rw [mark_len]; exact hLn.out
      have hCl : Hid ((plCounts (plMark L)).length = 240) := plCounts_len _
      obtain ⟨M, HM⟩ : ∃ M, Hid (plMark L = M) := ⟨_, rfl⟩
      rw [HM.out] at okm kp0 hMn hCl
      obtain ⟨C, HC⟩ : ∃ C, Hid (plCounts M = C) := ⟨_, rfl⟩
      rw [HC.out] at kp0 hCl
      go_wp2_with (first
        | (go_at_call 23; go_must (refine (pmark_at hL HM.out g7 _ Bp).mono ?_; rintro e w4 ⟨gm, rfl, sm, m4, p4, f4⟩; have F4 := Fr.own hf s7' f4; have lm := m4.lt; have l74 := p4.lt))
        | (go_at_call 28; go_must (refine (pcounts_any gm _ m4).mono ?_; rw [HC.out]; rintro e w5 ⟨rfl, f5⟩; have F5 := F4.thenN f5; have m5 := m4.fr0 f5; have p5 := p4.fr0 f5; have z5 := f5.size))
        | (with_reducible refine at_wpP ?_; refine wpList_allocA arr_counts rfl rfl ?_; intro g13 w6 hg13 b6 f6 s13; have m6 := m5.fr0 f6; have p6 := p5.fr0 f6; have F6 := F5.thenN f6; have z6 := f6.size)
        | (with_reducible refine at_wpP ?_; refine at_st 50 _ _ rfl ?_; go_must (refine wpList_storeA arr_counts rfl _ _ rfl g13 rfl C rfl _ b6 hCl.out (zerB_len 240) ?_; intro w7 b7 f7; have m7 := m6.ne f7 (by omega); have p7 := p6.ne f7 (by omega))))
      have zF4 := F4.size
      have F7 := Fr.own F6 (by omega) f7
      have g7m : g7 ≠ gm := by omega
      have g713 : g7 ≠ g13 := by omega
      have gm13 : gm ≠ g13 := by omega
      go_loopw [67] (fun i wr => ∃ (k : Nat) (L : List Pg), k ≤ acts.length ∧ i = .int .i64 (k : Int) ∧ PoolB wr g7 L ∧ PoolB wr gm M ∧ BxV wr g13 50 (pgv C) ∧ plOk L ∧ Hid (L.length = N) ∧ Hid (KeptL C L) ∧ Fr noB w wr) (fun i _ => acts.length - (intOf i).toNat)
      case atStart => exact ⟨0, M, by omega, rfl, p7, m7, b7, okm, hMn, kp0, F7⟩
      case round =>
        clear hL hLn hf Bp
        obtain ⟨k, L, hk, rfl, Bp, Bm, Bc, hL, hLn, hkp, hf⟩ := hrel
        have l7' := Bp.lt
        have lm' := Bm.lt
        have l13' := Bc.lt
        have zf := hf.size
        clear m4 p4 f4 F4 f5 F5 m5 p5 b6 f6 m6 p6 F6 b7 f7 m7 p7 F7 sm s13
        by_cases hlt : k < acts.length
        · obtain ⟨x, Hx⟩ : ∃ x, Hid (acts[k] = x) := ⟨acts[k], (rfl : acts[k] = acts[k])⟩
          by_cases hk0 : x.1 = 0
          · have hk := hk0
            rcases plTake_cases L with ⟨m, hm, hfr, _, hT⟩ | ⟨_, hT⟩
            · have hm2 : m < 240 := by have := hL.1; omega
              have hnb : ¬ 0 < C.getD m 0 := kept_free (hkp.out m) hfr
              have ok1 := take_ok hL
              have kp1 : Hid (KeptL C (plTake L).1) := kept_take hkp.out
              have ln1 : Hid ((plTake L).1.length = N) := by show _ = _; rw [take_len]; exact hLn.out
              rw [hT] at ok1 kp1 ln1
              have hm0 : ¬ (m : Int) < 0 := by omega
              have hm3 : ¬ (240 : Int) ≤ (m : Int) := by omega
              obtain ⟨y, Hy⟩ : ∃ y, Hid (C.getD m 0 = y) := ⟨_, rfl⟩
              rw [Hy.out] at hnb
              go_wp2_with (first
                | (refine at_idx 33 _ _ rfl ?_; go_must (refine wpList_idxR rfl 33 _ _ rfl 38 Try.underlying33 2 act_size7 _ _ _ rfl (hA.fr0 hf) (by decide) _ _ k rfl rfl hlt ?_; rw [Hx.out]; intro ba oa hba hca))
                | (with_reducible refine at_wpP ?_; refine at_ld 38 _ rfl ?_; refine wpList_ldAct rfl _ rfl ba oa rfl x hca ?_)
                | (with_reducible refine at_wpP ?_; refine wpList_alAct rfl rfl ?_; intro ga w1 hga b1 f1 sa; have l1 := b1.lt; have F1 := hf.thenN f1; have z1 := f1.size)
                | (with_reducible refine at_wpP ?_; refine at_st 38 _ _ rfl ?_; go_must (refine wpList_stAct rfl _ _ rfl ga rfl _ x b1 rfl ?_; intro w2 b2 f2; have F2 := Fr.own F1 (by omega) f2; obtain ⟨q0, q1⟩ := b2.all; rw [show x.1 = 0 from hk] at q0; have z2 := f2.size; have p2 := Bp.fr0 f1; have p2 := p2.ne f2 (by omega); have m2 := Bm.fr0 f1; have m2 := m2.ne f2 (by omega); have c2 := Bc.fr0 f1; have c2 := c2.ne f2 (by omega)))
                | (go_at_call 10; go_must (refine (ptake_at hL hT g7 _ p2).mono ?_; rintro e w3 ⟨rfl, p3, f3⟩; have F3 := Fr.own F2 s7' f3; have m3 := m2.ne f3 (by omega); have c3 := c2.ne f3 (by omega); have qb := (c3.cell m (.int .u8 y) (by rw [pgv_get _ _ (by rw [hCl.out]; exact hm2), ← Hy.out]; simp [List.getD, hCl.out, hm2])).1))
                | (refine at_idx 50 _ _ rfl ?_; refine wpList_idxAt arr_counts rfl _ _ rfl g13 rfl .i64 _ m rfl rfl hm2 ?_))
              go_roundw
              case rel => exact ⟨k + 1, _, by omega, by go_num, p3, m3, c3, ok1, ln1, kp1, F3⟩
              case measure => simp [intOf]; omega
            · have ok1 := hL
              have ln1 := hLn
              have kp1 := hkp
              go_wp2_with (first
                | (refine at_idx 33 _ _ rfl ?_; go_must (refine wpList_idxR rfl 33 _ _ rfl 38 Try.underlying33 2 act_size7 _ _ _ rfl (hA.fr0 hf) (by decide) _ _ k rfl rfl hlt ?_; rw [Hx.out]; intro ba oa hba hca))
                | (with_reducible refine at_wpP ?_; refine at_ld 38 _ rfl ?_; refine wpList_ldAct rfl _ rfl ba oa rfl x hca ?_)
                | (with_reducible refine at_wpP ?_; refine wpList_alAct rfl rfl ?_; intro ga w1 hga b1 f1 sa; have l1 := b1.lt; have F1 := hf.thenN f1; have z1 := f1.size)
                | (with_reducible refine at_wpP ?_; refine at_st 38 _ _ rfl ?_; go_must (refine wpList_stAct rfl _ _ rfl ga rfl _ x b1 rfl ?_; intro w2 b2 f2; have F2 := Fr.own F1 (by omega) f2; obtain ⟨q0, q1⟩ := b2.all; rw [show x.1 = 0 from hk] at q0; have z2 := f2.size; have p2 := Bp.fr0 f1; have p2 := p2.ne f2 (by omega); have m2 := Bm.fr0 f1; have m2 := m2.ne f2 (by omega); have c2 := Bc.fr0 f1; have c2 := c2.ne f2 (by omega)))
                | (go_at_call 10; go_must (refine (ptake_at hL hT g7 _ p2).mono ?_; rintro e w3 ⟨rfl, p3, f3⟩; have F3 := Fr.own F2 s7' f3; have m3 := m2.ne f3 (by omega); have c3 := c2.ne f3 (by omega))))
              go_roundw
              case rel => exact ⟨k + 1, _, by omega, by go_num, p3, m3, c3, ok1, ln1, kp1, F3⟩
              case measure => simp [intOf]; omega
          · by_cases hk1 : x.1 = 1
            · have hk := hk1
              have ok1 := hold_ok hL x.2
              have kp1 : Hid (KeptL C _) := kept_hold hkp.out x.2
              have ln1 : Hid (((plHold L x.2).1).length = N) := by show _ = _; rw [hold_len]; exact hLn.out
              go_wp2_with (first
                | (refine at_idx 33 _ _ rfl ?_; go_must (refine wpList_idxR rfl 33 _ _ rfl 38 Try.underlying33 2 act_size7 _ _ _ rfl (hA.fr0 hf) (by decide) _ _ k rfl rfl hlt ?_; rw [Hx.out]; intro ba oa hba hca))
                | (with_reducible refine at_wpP ?_; refine at_ld 38 _ rfl ?_; refine wpList_ldAct rfl _ rfl ba oa rfl x hca ?_)
                | (with_reducible refine at_wpP ?_; refine wpList_alAct rfl rfl ?_; intro ga w1 hga b1 f1 sa; have l1 := b1.lt; have F1 := hf.thenN f1; have z1 := f1.size)
                | (with_reducible refine at_wpP ?_; refine at_st 38 _ _ rfl ?_; go_must (refine wpList_stAct rfl _ _ rfl ga rfl _ x b1 rfl ?_; intro w2 b2 f2; have F2 := Fr.own F1 (by omega) f2; obtain ⟨q0, q1⟩ := b2.all; rw [show x.1 = 1 from hk] at q0; have z2 := f2.size; have p2 := Bp.fr0 f1; have p2 := p2.ne f2 (by omega); have m2 := Bm.fr0 f1; have m2 := m2.ne f2 (by omega); have c2 := Bc.fr0 f1; have c2 := c2.ne f2 (by omega)))
                | (go_at_call 11; go_must (refine (phold_any hL g7 x.2 _ p2).mono ?_; rintro e w3 ⟨rfl, p3, f3⟩; have F3 := Fr.own F2 s7' f3; have m3 := m2.ne f3 (by omega); have c3 := c2.ne f3 (by omega))))
              go_roundw
              case rel => exact ⟨k + 1, _, by omega, by go_num, p3, m3, c3, ok1, ln1, kp1, F3⟩
              case measure => simp [intOf]; omega
            · by_cases hk2 : x.1 = 2
              · have hk := hk2
                have ok1 := drop_ok hL x.2
                have kp1 : Hid (KeptL C _) := kept_drop hkp.out x.2
                have ln1 : Hid (((plDrop L x.2).1).length = N) := by show _ = _; rw [drop_len]; exact hLn.out
                go_wp2_with (first
                  | (refine at_idx 33 _ _ rfl ?_; go_must (refine wpList_idxR rfl 33 _ _ rfl 38 Try.underlying33 2 act_size7 _ _ _ rfl (hA.fr0 hf) (by decide) _ _ k rfl rfl hlt ?_; rw [Hx.out]; intro ba oa hba hca))
                  | (with_reducible refine at_wpP ?_; refine at_ld 38 _ rfl ?_; refine wpList_ldAct rfl _ rfl ba oa rfl x hca ?_)
                  | (with_reducible refine at_wpP ?_; refine wpList_alAct rfl rfl ?_; intro ga w1 hga b1 f1 sa; have l1 := b1.lt; have F1 := hf.thenN f1; have z1 := f1.size)
                  | (with_reducible refine at_wpP ?_; refine at_st 38 _ _ rfl ?_; go_must (refine wpList_stAct rfl _ _ rfl ga rfl _ x b1 rfl ?_; intro w2 b2 f2; have F2 := Fr.own F1 (by omega) f2; obtain ⟨q0, q1⟩ := b2.all; rw [show x.1 = 2 from hk] at q0; have z2 := f2.size; have p2 := Bp.fr0 f1; have p2 := p2.ne f2 (by omega); have m2 := Bm.fr0 f1; have m2 := m2.ne f2 (by omega); have c2 := Bc.fr0 f1; have c2 := c2.ne f2 (by omega)))
                  | (go_at_call 18; go_must (refine (pdrop_any hL g7 x.2 _ p2).mono ?_; rintro e w3 ⟨rfl, p3, f3⟩; have F3 := Fr.own F2 s7' f3; have m3 := m2.ne f3 (by omega); have c3 := c2.ne f3 (by omega))))
                go_roundw
                case rel => exact ⟨k + 1, _, by omega, by go_num, p3, m3, c3, ok1, ln1, kp1, F3⟩
                case measure => simp [intOf]; omega
              · have hk0' : (x.1 == 0) = false := by simpa using hk0
                have hk1' : (x.1 == 1) = false := by simpa using hk1
                have hk2' : (x.1 == 2) = false := by simpa using hk2
                clear hk0 hk1 hk2
                go_wp2_with (first
                  | (refine at_idx 33 _ _ rfl ?_; go_must (refine wpList_idxR rfl 33 _ _ rfl 38 Try.underlying33 2 act_size7 _ _ _ rfl (hA.fr0 hf) (by decide) _ _ k rfl rfl hlt ?_; rw [Hx.out]; intro ba oa hba hca))
                  | (with_reducible refine at_wpP ?_; refine at_ld 38 _ rfl ?_; refine wpList_ldAct rfl _ rfl ba oa rfl x hca ?_)
                  | (with_reducible refine at_wpP ?_; refine wpList_alAct rfl rfl ?_; intro ga w1 hga b1 f1 sa; have l1 := b1.lt; have F1 := hf.thenN f1; have z1 := f1.size)
                  | (with_reducible refine at_wpP ?_; refine at_st 38 _ _ rfl ?_; go_must (refine wpList_stAct rfl _ _ rfl ga rfl _ x b1 rfl ?_; intro w2 b2 f2; have F2 := Fr.own F1 (by omega) f2; obtain ⟨q0, q1⟩ := b2.all; have z2 := f2.size; have p2 := Bp.fr0 f1; have p2 := p2.ne f2 (by omega); have m2 := Bm.fr0 f1; have m2 := m2.ne f2 (by omega); have c2 := Bc.fr0 f1; have c2 := c2.ne f2 (by omega))))
                go_roundw
                case rel => exact ⟨k + 1, L, by omega, by go_num, p2, m2, c2, hL, hLn, hkp, F2⟩
                case measure => simp [intOf]; omega
        · obtain rfl : k = acts.length := by omega
          have dr := fun (W : World) => (Fr.refl noB W).drew
          go_wp2_with fail
          refine wp_region_lay (by kernel_rfl) [MFact.is (ptr gm), MFact.is (pgV C), MFact.is (pgV C), MFact.is (.bool true), MFact.is (.bool true), MFact.is (ptr gm), MFact.is (.int .i64 (N : Int)), MFact.is (ptr g7), MFact.is (.int .i64 (N : Int)), MFact.is (.bool true), MFact.is (.bool true), MFact.is (.bool true)] (by kernel_rfl) ⟨?o0, ?o1, ?o2, ?o3, ?o4, ?o5, ?o6, ?o7, ?o8, ?o9, ?o10, ?o11, trivial⟩ ?oe
          case o0 =>
            intro A W hfr hbase hdep
            have e12 : A.eval (.tmp 12) = ptr gm := hbase 12 (by kernel_rfl)
            have f12 : A.tmps[12]?.getD undef = ptr gm := by simpa [Act.eval] using e12
            exact hands_val rfl (v := ptr gm) (w' := W) (by simp [execOp, e12, f12]) (Fr.refl _ _) rfl
          case o1 =>
            intro A W hfr hbase hdep
            have e109 : A.eval (.tmp 109) = ptr gm := hdep 0 109 (by kernel_rfl) (by kernel_rfl)
            have f109 : A.tmps[109]?.getD undef = ptr gm := by simpa [Act.eval] using e109
            refine hands_call rfl (args := #[ptr gm]) (f := 28) (by simp [execOp, resolve, invoke, go_sem, e109, f109]) ?_
            refine (pcounts_any gm _ ((Bm.fr0 (dr _)).fr0 hfr)).mono ?_
            rw [HC.out]
            rintro e w6 ⟨rfl, f6⟩
            exact ⟨_, rfl, f6, rfl⟩
          case o2 =>
            intro A W hfr hbase hdep
            have e13 : A.eval (.tmp 13) = ptr g13 := hbase 13 (by kernel_rfl)
            have f13 : A.tmps[13]?.getD undef = ptr g13 := by simpa [Act.eval] using e13
            have hr := run_loadA arr_counts W g13 0 C (bxAll ((Bc.fr0 (dr _)).fr0 hfr)) hCl.out
            exact hands_val rfl (v := pgV C) (w' := W) (by simp [execOp, e13, hr, Result.andThen]) (Fr.refl _ _) rfl
          case o3 =>
            intro A W hfr hbase hdep
            have e110 : A.eval (.tmp 110) = pgV C := hdep 1 110 (by kernel_rfl) (by kernel_rfl)
            have f110 : A.tmps[110]?.getD undef = pgV C := by simpa [Act.eval] using e110
            have e111 : A.eval (.tmp 111) = pgV C := hdep 2 111 (by kernel_rfl) (by kernel_rfl)
            have f111 : A.tmps[111]?.getD undef = pgV C := by simpa [Act.eval] using e111
            have hr := run_eqlA arr_counts W C C hCl.out hCl.out
            rw [beq_self_eq_true C] at hr
            exact hands_val rfl (v := .bool true) (w' := W) (by simp [execOp, e110, e111, hr, eqgA arr_counts, Result.andThen]) (Fr.refl _ _) rfl
          case o4 =>
            intro A W hfr hbase hdep
            have e112 : A.eval (.tmp 112) = .bool true := hdep 3 112 (by kernel_rfl) (by kernel_rfl)
            have f112 : A.tmps[112]?.getD undef = .bool true := by simpa [Act.eval] using e112
            exact hands_val rfl (v := .bool true) (w' := W) (by simp [execOp, e112, f112]) (Fr.refl _ _) rfl
          case o5 =>
            intro A W hfr hbase hdep
            have e12 : A.eval (.tmp 12) = ptr gm := hbase 12 (by kernel_rfl)
            have f12 : A.tmps[12]?.getD undef = ptr gm := by simpa [Act.eval] using e12
            have eg : A.eval (.tmp 113) = .bool true := hdep 4 113 (by kernel_rfl) (by kernel_rfl)
            exact hands_val (wanted_of rfl (by kernel_rfl) eg) (v := ptr gm) (w' := W) (by simp [execOp, e12, f12]) (Fr.refl _ _) rfl
          case o6 =>
            intro A W hfr hbase hdep
            have e114 : A.eval (.tmp 114) = ptr gm := hdep 5 114 (by kernel_rfl) (by kernel_rfl)
            have f114 : A.tmps[114]?.getD undef = ptr gm := by simpa [Act.eval] using e114
            have eg : A.eval (.tmp 113) = .bool true := hdep 4 113 (by kernel_rfl) (by kernel_rfl)
            refine hands_call (wanted_of rfl (by kernel_rfl) eg) (args := #[ptr gm]) (f := 14) (by simp [execOp, resolve, invoke, go_sem, e114, f114]) ?_
            refine (psize_any gm _ ((Bm.fr0 (dr _)).fr0 hfr)).mono ?_
            rw [hMn.out]
            rintro e w6 ⟨rfl, rfl⟩
            exact ⟨_, rfl, Fr.refl _ _, rfl⟩
          case o7 =>
            intro A W hfr hbase hdep
            have e7 : A.eval (.tmp 7) = ptr g7 := hbase 7 (by kernel_rfl)
            have f7 : A.tmps[7]?.getD undef = ptr g7 := by simpa [Act.eval] using e7
            have eg : A.eval (.tmp 113) = .bool true := hdep 4 113 (by kernel_rfl) (by kernel_rfl)
            exact hands_val (wanted_of rfl (by kernel_rfl) eg) (v := ptr g7) (w' := W) (by simp [execOp, e7, f7]) (Fr.refl _ _) rfl
          case o8 =>
            intro A W hfr hbase hdep
            have e116 : A.eval (.tmp 116) = ptr g7 := hdep 7 116 (by kernel_rfl) (by kernel_rfl)
            have f116 : A.tmps[116]?.getD undef = ptr g7 := by simpa [Act.eval] using e116
            have eg : A.eval (.tmp 113) = .bool true := hdep 4 113 (by kernel_rfl) (by kernel_rfl)
            refine hands_call (wanted_of rfl (by kernel_rfl) eg) (args := #[ptr g7]) (f := 14) (by simp [execOp, resolve, invoke, go_sem, e116, f116]) ?_
            refine (psize_any g7 _ ((Bp.fr0 (dr _)).fr0 hfr)).mono ?_
            rw [hLn.out]
            rintro e w6 ⟨rfl, rfl⟩
            exact ⟨_, rfl, Fr.refl _ _, rfl⟩
          case o9 =>
            intro A W hfr hbase hdep
            have e115 : A.eval (.tmp 115) = .int .i64 (N : Int) := hdep 6 115 (by kernel_rfl) (by kernel_rfl)
            have f115 : A.tmps[115]?.getD undef = .int .i64 (N : Int) := by simpa [Act.eval] using e115
            have e117 : A.eval (.tmp 117) = .int .i64 (N : Int) := hdep 8 117 (by kernel_rfl) (by kernel_rfl)
            have f117 : A.tmps[117]?.getD undef = .int .i64 (N : Int) := by simpa [Act.eval] using e117
            have eg : A.eval (.tmp 113) = .bool true := hdep 4 113 (by kernel_rfl) (by kernel_rfl)
            exact hands_val (wanted_of rfl (by kernel_rfl) eg) (v := .bool true) (w' := W) (by simp [execOp, go_sem, e115, f115, e117, f117]) (Fr.refl _ _) rfl
          case o10 =>
            intro A W hfr hbase hdep
            have e113 : A.eval (.tmp 113) = .bool true := hdep 4 113 (by kernel_rfl) (by kernel_rfl)
            have f113 : A.tmps[113]?.getD undef = .bool true := by simpa [Act.eval] using e113
            have e118 : A.eval (.tmp 118) = .bool true := hdep 9 118 (by kernel_rfl) (by kernel_rfl)
            have f118 : A.tmps[118]?.getD undef = .bool true := by simpa [Act.eval] using e118
            exact hands_val rfl (v := .bool true) (w' := W) (by simp [execOp, go_sem, e113, f113, e118, f118]) (Fr.refl _ _) rfl
          case o11 =>
            intro A W hfr hbase hdep
            have e119 : A.eval (.tmp 119) = .bool true := hdep 10 119 (by kernel_rfl) (by kernel_rfl)
            have f119 : A.tmps[119]?.getD undef = .bool true := by simpa [Act.eval] using e119
            exact hands_val rfl (v := .bool true) (w' := W) (by simp [execOp, e119, f119]) (Fr.refl _ _) rfl
          case oe =>
            intro vs W' hfW hall
            have x0 : vs 0 = ptr gm := hall 0 (by rfl)
            have x1 : vs 1 = pgV C := hall 1 (by rfl)
            have x2 : vs 2 = pgV C := hall 2 (by rfl)
            have x3 : vs 3 = .bool true := hall 3 (by rfl)
            have x4 : vs 4 = .bool true := hall 4 (by rfl)
            have x5 : vs 5 = ptr gm := hall 5 (by rfl)
            have x6 : vs 6 = .int .i64 (N : Int) := hall 6 (by rfl)
            have x7 : vs 7 = ptr g7 := hall 7 (by rfl)
            have x8 : vs 8 = .int .i64 (N : Int) := hall 8 (by rfl)
            have x9 : vs 9 = .bool true := hall 9 (by rfl)
            have x10 : vs 10 = .bool true := hall 10 (by rfl)
            have x11 : vs 11 = .bool true := hall 11 (by rfl)
            simp only [layL, Nat.reduceAdd, x0, x1, x2, x3, x4, x5, x6, x7, x8, x9, x10, x11, Act.put, List.setIfInBounds_toArray, List.set_cons_zero, List.set_cons_succ]
            clear x0 x1 x2 x3 x4 x5 x6 x7 x8 x9 x10 x11 hall
            go_wp2
            go_ret
            exact ⟨rfl, ((hf.thenN (dr _)).thenN hfW).below⟩
end Go.Proofs.Ytghkpeejogldkaa
