/- Texts Y16 of the proof of PoolRuns, one behind the other. -/
import Derived.Test.YtghkpeejogldkaaBundlePoolRuns1
import Derived.Test.YtghkpeejogldkaaBundlePoolRuns2
import Derived.Test.YtghkpeejogldkaaBundlePoolRuns3
import Derived.Test.YtghkpeejogldkaaBundlePoolRuns4
import Derived.Test.YtghkpeejogldkaaBundlePoolRuns5
import Derived.Test.YtghkpeejogldkaaBundlePoolRuns6
import Derived.Test.YtghkpeejogldkaaBundlePoolRuns7
import Derived.Test.YtghkpeejogldkaaBundlePoolRuns8
import Derived.Test.YtghkpeejogldkaaBundlePoolRuns9
import Derived.Test.YtghkpeejogldkaaBundlePoolRuns10
import Derived.Test.YtghkpeejogldkaaBundlePoolRuns11
import Derived.Test.YtghkpeejogldkaaBundlePoolRuns12
import Derived.Test.YtghkpeejogldkaaBundlePoolRuns13
import Derived.Test.YtghkpeejogldkaaBundlePoolRuns14
import Derived.Test.YtghkpeejogldkaaBundlePoolRuns15
/- PoolRuns. (Written by y16_gen.py.) -/
namespace Go.Proofs.Ytghkpeejogldkaa
open Go.RowKit Go.Proofs.U
set_option linter.unusedSimpArgs false
set_option linter.unusedVariables false
/-- A slice lies apart from block g. -/
def Apt (v : Value) (g : Nat) (W : World) : Prop := ∀ q, v.ownBlock = some q → q ≠ g ∧ q < W.heap.size
theorem Apt.sl {v : Value} {g : Nat} {W W' : World} {L : List Pg} (h : Apt v g W) (s : SlG W v L) (f : Fr (onB1 g) W W') : SlG W' v L := s.fr f (fun q hq e => (h q hq).1 e)
theorem Apt.mono {v : Value} {g : Nat} {W W' : World} (h : Apt v g W) (z : W.heap.size ≤ W'.heap.size) : Apt v g W' := fun q hq => ⟨(h q hq).1, Nat.lt_of_lt_of_le (h q hq).2 z⟩
theorem Apt.nw {v v' : Value} {g : Nat} {W W' : World} (h : Apt v g W) (n : nwB W W' v v') (hg : g < W.heap.size) (z : W.heap.size ≤ W'.heap.size) : Apt v' g W' := fun q hq => by
  rcases n q hq with e | e
  · exact ⟨(h q e).1, Nat.lt_of_lt_of_le (h q e).2 z⟩
  · exact ⟨by omega, e.2⟩
theorem Apt.own {v : Value} {g : Nat} {W W' : World} {L : List Pg} (o : OwnG W' W.heap.size v L) (hg : g < W.heap.size) : Apt v g W' := fun q hq => by
  have := o.newB q hq
  exact ⟨by omega, this.2⟩
theorem Apt.fresh {v : Value} {g g' : Nat} {W W' : World} (h : Apt v g W) (hg : W.heap.size ≤ g') (z : W.heap.size ≤ W'.heap.size) : Apt v g' W' := fun q hq => by
  have := (h q hq).2
  exact ⟨by omega, by omega⟩
theorem Apt.far {v : Value} {g g' : Nat} {W W1 W2 : World} {L : List Pg} (h : Apt v g W) (hg : W.heap.size ≤ g') (s : SlG W1 v L) (f : Fr (onB1 g') W1 W2) : SlG W2 v L := s.fr f (fun q hq e => by have := (h q hq).2; unfold onB1 at e; omega)
theorem rtake_at {L L' : List Pg} {n e : Int} (hL : plOk L) (hT : plTake L = (L', n, e)) (v : Value) (w : World) (h : SlG w v L) :
    Calls Try.prog 16 #[v] w fun r w' => ∃ v', r = .returned (.tuple #[v', .int .i64 n, .int .i64 e]) ∧ SlG w' v' L' ∧ nwB w w' v v' ∧ Fr noB w w' := by
  have := rtake_any hL v w h
  rwa [hT] at this
theorem rhold_at {L L' : List Pg} {i e : Int} (hL : plOk L) (hT : plHold L i = (L', e)) (v : Value) (w : World) (h : SlG w v L) :
    Calls Try.prog 17 #[v, .int .i64 i] w fun r w' => ∃ v', r = .returned (.tuple #[v', .int .i64 e]) ∧ SlG w' v' L' ∧ nwB w w' v v' ∧ Fr noB w w' := by
  have := rhold_any hL v i w h
  rwa [hT] at this
theorem rdrop_at {L L' : List Pg} {i e : Int} {b : Bool} (hL : plOk L) (hT : plDrop L i = (L', b, e)) (v : Value) (w : World) (h : SlG w v L) :
    Calls Try.prog 19 #[v, .int .i64 i] w fun r w' => ∃ v', r = .returned (.tuple #[v', .bool b, .int .i64 e]) ∧ SlG w' v' L' ∧ nwB w w' v v' ∧ Fr noB w w' := by
  have := rdrop_any hL v i w h
  rwa [hT] at this
set_option maxRecDepth 100000 in
set_option maxHeartbeats 8000000 in
theorem pruns_walk (n : Int) (vc : Value) (c : List Int) (va : Value) (acts : List (Int × Int)) (w : World) (hn : (Lit.int .i64 n).wf = true) (hc : IsArr vc 240 c) (ha : SlP .i64 .i64 w va acts) :
    Calls Try.prog 4 #[.int .i64 n, vc, va] w fun r w' => r = .returned (.bool true) ∧ Below w.heap.size w w' := by
  obtain ⟨rfl, hcl, hcb⟩ := hc
  have Hc := show Hid _ from hcl
  obtain ⟨hA, _⟩ := ha
  obtain ⟨a2, c2', rfl, hc2⟩ := hA.opn
  have hok := fun L h => plLoad_ok (n := n) hcl (fun i => hcb.at i) (L := L) h
  clear hcl
  by_cases hbig : 150 < acts.length
  · have hb1 : (150 : Int) < (acts.length : Int) := by omega
    go_enter Try.func4, Try.ntmps4
    go_wp2_with (first
      | (with_reducible refine at_wpP ?_; refine wpList_boxV rfl 30 _ rfl (pgv c) rfl ?_; intro g4 w1 hg4 b1 f1 s1)
      | (go_at_call 13; go_must (refine (palive_any _).mono ?_; rintro e w2 ⟨rfl, f2⟩)))
    go_ret
    exact ⟨rfl, (f1.thenN f2).below⟩
  have hb1 : ¬ (150 : Int) < (acts.length : Int) := by omega
  cases hR : plLoad n c with
  | none =>
    have hld := show Hid _ from fun W => pload_any n c Hc.out hcb none hR W
    have hrl := show Hid _ from fun W => rload_any n c Hc.out hcb none hR W
    go_enter Try.func4, Try.ntmps4
    go_wp2_with (first
      | (with_reducible refine at_wpP ?_; refine wpList_boxV rfl 30 _ rfl (pgv c) rfl ?_; intro g4 w1 hg4 b1 f1 s1)
      | (go_at_call 13; go_must (refine (palive_any _).mono ?_; rintro e w2 ⟨rfl, f2⟩; have b2 := b1.fr0 f2))
      | (with_reducible refine at_wpP ?_; refine at_ld 30 _ rfl ?_; have q := f3; go_must (refine wpList_loadA arr_240 rfl _ rfl g4 rfl c (b2.fr0 f3) Hc.out ?_))
      | (with_reducible refine at_wpP ?_; refine at_ld 30 _ rfl ?_; go_must (refine wpList_loadA arr_240 rfl _ rfl g4 rfl c b2 Hc.out ?_))
      | (go_at_call 12; go_must (refine (hld.out _).mono ?_; rintro e w3 ⟨f3, rfl⟩))
      | (go_at_call 15; go_must (refine (hrl.out _).mono ?_; rintro e w4 ⟨f4, rfl⟩)))
    go_ret
    exact ⟨rfl, (((f1.thenN f2).thenN f3).thenN f4).below⟩
  | some L0 =>
    have hld := show Hid _ from fun W => pload_any n c Hc.out hcb (some L0) hR W
    have hrl := show Hid _ from fun W => rload_any n c Hc.out hcb (some L0) hR W
    have ok0 := hok L0 hR
    clear hok
    go_enter Try.func4, Try.ntmps4
    go_wp2_with (first
      | (with_reducible refine at_wpP ?_; refine wpList_boxV rfl 30 _ rfl (pgv c) rfl ?_; intro g4 w1 hg4 b1 f1 s1; have z1 := f1.size)
      | (go_at_call 13; go_must (refine (palive_any _).mono ?_; rintro e w2 ⟨rfl, f2⟩; have b2 := b1.fr0 f2; have z2 := f2.size))
      | (with_reducible refine at_wpP ?_; refine at_ld 30 _ rfl ?_; have q := f3; go_must (refine wpList_loadA arr_240 rfl _ rfl g4 rfl c (b2.fr0 f3) Hc.out ?_))
      | (with_reducible refine at_wpP ?_; refine at_ld 30 _ rfl ?_; go_must (refine wpList_loadA arr_240 rfl _ rfl g4 rfl c b2 Hc.out ?_))
      | (go_at_call 12; go_must (refine (hld.out _).mono ?_; rintro e w3 ⟨f3, g7, rfl, s7, p3⟩; have l7 := p3.lt))
      | (go_at_call 15; go_must (refine (hrl.out _).mono ?_; rintro e w4 ⟨f4, v9, rfl, o4⟩; have p4 := p3.fr0 f4; have ap4 := Apt.own o4 l7; have v4 := o4.sl)))
    have F4 := ((f1.thenN f2).thenN f3).thenN f4
    have s70 : w.heap.size ≤ g7 := by omega
    go_loopw [7, 9, 58] (fun p v i wr => ∃ (k : Nat) (L : List Pg) (g : Nat), k ≤ acts.length ∧ p = ptr g ∧ i = .int .i64 (k : Int) ∧ PoolB wr g L ∧ SlG wr v L ∧ plOk L ∧ Apt v g wr ∧ w.heap.size ≤ g ∧ Fr noB w wr) (fun _ _ i _ => acts.length - (intOf i).toNat)
    case atStart => exact ⟨0, L0, g7, by omega, rfl, rfl, p4, v4, ok0, ap4, s70, F4⟩
    case round =>
      clear p4 v4 ok0 ap4 s70 F4 o4 f4 p3 l7 s7 f3 b2 f2 z2 b1 f1 z1 hld hrl
      obtain ⟨k, L, g, hk, rfl, rfl, Bp, hv, hL, hap, s7, hf⟩ := hrel
      have l7' := Bp.lt
      have zf := hf.size
      by_cases hlt : k < acts.length
      · obtain ⟨x, Hx⟩ : ∃ x, Hid (acts[k] = x) := ⟨acts[k], (rfl : acts[k] = acts[k])⟩
        by_cases hk0 : x.1 = 0
        · have hk := hk0
          have ok1 := take_ok hL
          obtain ⟨⟨M, n1, e1⟩, HT⟩ : ∃ t, Hid (plTake L = t) := ⟨_, rfl⟩
          rw [HT.out] at ok1
          go_wp2_with (first
            | (refine at_idx 33 _ _ rfl ?_; go_must (refine wpList_idxR rfl 33 _ _ rfl 38 Try.underlying33 2 act_size7 _ _ _ rfl (hA.fr0 hf) (by decide) _ _ k rfl rfl hlt ?_; rw [Hx.out]; intro ba oa hba hca))
            | (with_reducible refine at_wpP ?_; refine at_ld 38 _ rfl ?_; refine wpList_ldAct rfl _ rfl ba oa rfl x hca ?_)
            | (with_reducible refine at_wpP ?_; refine wpList_alAct rfl rfl ?_; intro ga w1 hga b1 f1 sa; have l1 := b1.lt; have F1 := hf.thenN f1; have z1 := f1.size)
            | (with_reducible refine at_wpP ?_; refine at_st 38 _ _ rfl ?_; go_must (refine wpList_stAct rfl _ _ rfl ga rfl _ x b1 rfl ?_; intro w2 b2 f2; have F2 := Fr.own F1 (by omega) f2; obtain ⟨q0, q1⟩ := b2.all; rw [show x.1 = 0 from hk] at q0; have z2 := f2.size; have p2 := (Bp.fr0 f1).ne f2 (by omega); have v2 := hap.far sa (hv.fr0 f1) f2; have ap2 := hap.mono (W' := w2) (by omega); have L2 := p2.lt))
            | (go_at_call 10; go_must (refine (ptake_at hL HT.out g _ p2).mono ?_; rintro e w3 ⟨rfl, p3, f3⟩; have F3 := Fr.own F2 s7 f3; have z3 := f3.size; have v3 := ap2.sl v2 f3; have ap3 := ap2.mono (W' := w3) z3; have L3 := p3.lt))
            | (go_at_call 16; go_must (refine (rtake_at hL HT.out _ _ v3).mono ?_; rintro e w4 ⟨v', rfl, v4, nw4, f4⟩; have F4 := F3.thenN f4; have z4 := f4.size; have p4 := p3.fr0 f4; have ap4 := ap3.nw nw4 L3 z4; have L4 := p4.lt))
            | (go_at_call 25; go_must (refine (alike_any ok1 g _ _ p4 v4).mono ?_; rintro e w5 ⟨rfl, f5⟩; have F5 := F4.thenN f5; have z5 := f5.size)))
          go_roundw
          case rel => exact ⟨k + 1, _, g, by omega, rfl, by go_num, p4.fr0 f5, v4.fr0 f5, ok1, ap4.mono z5, s7, F5⟩
          case measure => simp [intOf]; omega
        · by_cases hk1 : x.1 = 1
          · have hk := hk1
            have ok1 := hold_ok hL x.2
            obtain ⟨⟨M, e1⟩, HT⟩ : ∃ t, Hid (plHold L x.2 = t) := ⟨_, rfl⟩
            rw [HT.out] at ok1
            go_wp2_with (first
              | (refine at_idx 33 _ _ rfl ?_; go_must (refine wpList_idxR rfl 33 _ _ rfl 38 Try.underlying33 2 act_size7 _ _ _ rfl (hA.fr0 hf) (by decide) _ _ k rfl rfl hlt ?_; rw [Hx.out]; intro ba oa hba hca))
              | (with_reducible refine at_wpP ?_; refine at_ld 38 _ rfl ?_; refine wpList_ldAct rfl _ rfl ba oa rfl x hca ?_)
              | (with_reducible refine at_wpP ?_; refine wpList_alAct rfl rfl ?_; intro ga w1 hga b1 f1 sa; have l1 := b1.lt; have F1 := hf.thenN f1; have z1 := f1.size)
              | (with_reducible refine at_wpP ?_; refine at_st 38 _ _ rfl ?_; go_must (refine wpList_stAct rfl _ _ rfl ga rfl _ x b1 rfl ?_; intro w2 b2 f2; have F2 := Fr.own F1 (by omega) f2; obtain ⟨q0, q1⟩ := b2.all; rw [show x.1 = 1 from hk] at q0; have z2 := f2.size; have p2 := (Bp.fr0 f1).ne f2 (by omega); have v2 := hap.far sa (hv.fr0 f1) f2; have ap2 := hap.mono (W' := w2) (by omega); have L2 := p2.lt))
              | (go_at_call 11; go_must (refine (phold_at hL HT.out g _ p2).mono ?_; rintro e w3 ⟨rfl, p3, f3⟩; have F3 := Fr.own F2 s7 f3; have z3 := f3.size; have v3 := ap2.sl v2 f3; have ap3 := ap2.mono (W' := w3) z3; have L3 := p3.lt; have q1 := f3.cell q1 (fun e => by have e : ga = g := e; omega)))
              | (go_at_call 17; go_must (refine (rhold_at hL HT.out _ _ v3).mono ?_; rintro e w4 ⟨v', rfl, v4, nw4, f4⟩; have F4 := F3.thenN f4; have z4 := f4.size; have p4 := p3.fr0 f4; have ap4 := ap3.nw nw4 L3 z4; have L4 := p4.lt))
              | (go_at_call 25; go_must (refine (alike_any ok1 g _ _ p4 v4).mono ?_; rintro e w5 ⟨rfl, f5⟩; have F5 := F4.thenN f5; have z5 := f5.size)))
            go_roundw
            case rel => exact ⟨k + 1, _, g, by omega, rfl, by go_num, p4.fr0 f5, v4.fr0 f5, ok1, ap4.mono z5, s7, F5⟩
            case measure => simp [intOf]; omega
          · by_cases hk2 : x.1 = 2
            · have hk := hk2
              have ok1 := drop_ok hL x.2
              obtain ⟨⟨M, gn, e1⟩, HT⟩ : ∃ t, Hid (plDrop L x.2 = t) := ⟨_, rfl⟩
              rw [HT.out] at ok1
              go_wp2_with (first
                | (refine at_idx 33 _ _ rfl ?_; go_must (refine wpList_idxR rfl 33 _ _ rfl 38 Try.underlying33 2 act_size7 _ _ _ rfl (hA.fr0 hf) (by decide) _ _ k rfl rfl hlt ?_; rw [Hx.out]; intro ba oa hba hca))
                | (with_reducible refine at_wpP ?_; refine at_ld 38 _ rfl ?_; refine wpList_ldAct rfl _ rfl ba oa rfl x hca ?_)
                | (with_reducible refine at_wpP ?_; refine wpList_alAct rfl rfl ?_; intro ga w1 hga b1 f1 sa; have l1 := b1.lt; have F1 := hf.thenN f1; have z1 := f1.size)
                | (with_reducible refine at_wpP ?_; refine at_st 38 _ _ rfl ?_; go_must (refine wpList_stAct rfl _ _ rfl ga rfl _ x b1 rfl ?_; intro w2 b2 f2; have F2 := Fr.own F1 (by omega) f2; obtain ⟨q0, q1⟩ := b2.all; rw [show x.1 = 2 from hk] at q0; have z2 := f2.size; have p2 := (Bp.fr0 f1).ne f2 (by omega); have v2 := hap.far sa (hv.fr0 f1) f2; have ap2 := hap.mono (W' := w2) (by omega); have L2 := p2.lt))
                | (go_at_call 18; go_must (refine (pdrop_at hL HT.out g _ p2).mono ?_; rintro e w3 ⟨rfl, p3, f3⟩; have F3 := Fr.own F2 s7 f3; have z3 := f3.size; have v3 := ap2.sl v2 f3; have ap3 := ap2.mono (W' := w3) z3; have L3 := p3.lt; have q1 := f3.cell q1 (fun e => by have e : ga = g := e; omega)))
                | (go_at_call 19; go_must (refine (rdrop_at hL HT.out _ _ v3).mono ?_; rintro e w4 ⟨v', rfl, v4, nw4, f4⟩; have F4 := F3.thenN f4; have z4 := f4.size; have p4 := p3.fr0 f4; have ap4 := ap3.nw nw4 L3 z4; have L4 := p4.lt))
                | (go_at_call 25; go_must (refine (alike_any ok1 g _ _ p4 v4).mono ?_; rintro e w5 ⟨rfl, f5⟩; have F5 := F4.thenN f5; have z5 := f5.size)))
              go_roundw
              case rel => exact ⟨k + 1, _, g, by omega, rfl, by go_num, p4.fr0 f5, v4.fr0 f5, ok1, ap4.mono z5, s7, F5⟩
              case measure => simp [intOf]; omega
            · by_cases hk3 : x.1 = 3
              · have hk := hk3
                have ok1 := comm_ok hL
                go_wp2_with (first
                  | (refine at_idx 33 _ _ rfl ?_; go_must (refine wpList_idxR rfl 33 _ _ rfl 38 Try.underlying33 2 act_size7 _ _ _ rfl (hA.fr0 hf) (by decide) _ _ k rfl rfl hlt ?_; rw [Hx.out]; intro ba oa hba hca))
                  | (with_reducible refine at_wpP ?_; refine at_ld 38 _ rfl ?_; refine wpList_ldAct rfl _ rfl ba oa rfl x hca ?_)
                  | (with_reducible refine at_wpP ?_; refine wpList_alAct rfl rfl ?_; intro ga w1 hga b1 f1 sa; have l1 := b1.lt; have F1 := hf.thenN f1; have z1 := f1.size)
                  | (with_reducible refine at_wpP ?_; refine at_st 38 _ _ rfl ?_; go_must (refine wpList_stAct rfl _ _ rfl ga rfl _ x b1 rfl ?_; intro w2 b2 f2; have F2 := Fr.own F1 (by omega) f2; obtain ⟨q0, q1⟩ := b2.all; rw [show x.1 = 3 from hk] at q0; have z2 := f2.size; have p2 := (Bp.fr0 f1).ne f2 (by omega); have v2 := hap.far sa (hv.fr0 f1) f2; have ap2 := hap.mono (W' := w2) (by omega); have L2 := p2.lt))
                  | (go_at_call 20; go_must (refine (pcommit_any g _ p2).mono ?_; rintro e w3 ⟨rfl, p3, f3⟩; have F3 := Fr.own F2 s7 f3; have z3 := f3.size; have v3 := ap2.sl v2 f3; have ap3 := ap2.mono (W' := w3) z3; have L3 := p3.lt))
                  | (go_at_call 21; go_must (refine (rcommit_any hL _ _ v3).mono ?_; rintro e w4 ⟨v', rfl, o4, f4⟩; have F4 := F3.thenN f4; have z4 := f4.size; have p4 := p3.fr0 f4; have ap4 := Apt.own o4 L3; have v4 := o4.sl; have L4 := p4.lt))
                  | (go_at_call 25; go_must (refine (alike_any ok1 g _ _ p4 v4).mono ?_; rintro e w5 ⟨rfl, f5⟩; have F5 := F4.thenN f5; have z5 := f5.size)))
                go_roundw
                case rel => exact ⟨k + 1, _, g, by omega, rfl, by go_num, p4.fr0 f5, v4.fr0 f5, ok1, ap4.mono z5, s7, F5⟩
                case measure => simp [intOf]; omega
              · by_cases hk4 : x.1 = 4
                · have hk := hk4
                  go_wp2_with (first
                    | (refine at_idx 33 _ _ rfl ?_; go_must (refine wpList_idxR rfl 33 _ _ rfl 38 Try.underlying33 2 act_size7 _ _ _ rfl (hA.fr0 hf) (by decide) _ _ k rfl rfl hlt ?_; rw [Hx.out]; intro ba oa hba hca))
                    | (with_reducible refine at_wpP ?_; refine at_ld 38 _ rfl ?_; refine wpList_ldAct rfl _ rfl ba oa rfl x hca ?_)
                    | (with_reducible refine at_wpP ?_; refine wpList_alAct rfl rfl ?_; intro ga w1 hga b1 f1 sa; have l1 := b1.lt; have F1 := hf.thenN f1; have z1 := f1.size)
                    | (with_reducible refine at_wpP ?_; refine at_st 38 _ _ rfl ?_; go_must (refine wpList_stAct rfl _ _ rfl ga rfl _ x b1 rfl ?_; intro w2 b2 f2; have F2 := Fr.own F1 (by omega) f2; obtain ⟨q0, q1⟩ := b2.all; rw [show x.1 = 4 from hk] at q0; have z2 := f2.size; have p2 := (Bp.fr0 f1).ne f2 (by omega); have v2 := hap.far sa (hv.fr0 f1) f2; have ap2 := hap.mono (W' := w2) (by omega); have L2 := p2.lt))
                    | (go_at_call 22; go_must (refine (pclone_any g _ p2).mono ?_; rintro e w3 ⟨g', rfl, s3, k3, f3⟩; have F3 := F2.thenN f3; have z3 := f3.size; have v3 := v2.fr0 f3; have p3 := p2.fr0 f3; have ap3 := ap2.mono (W' := w3) z3; have apk := ap2.fresh (W' := w3) s3 z3; have L3 := k3.lt))
                    | (go_at_call 20; go_must (refine (pcommit_any g _ p3).mono ?_; rintro e w4 ⟨rfl, p4, f4⟩; have F4 := Fr.own F3 s7 f4; have z4 := f4.size; have v4 := ap3.sl v3 f4; have k4 := k3.ne f4 (by omega)))
                    | (go_at_call 25; go_must (refine (alike_any hL g' _ _ k4 v4).mono ?_; rintro e w5 ⟨rfl, f5⟩; have F5 := F4.thenN f5; have z5 := f5.size)))
                  go_roundw
                  case rel => exact ⟨k + 1, _, g', by omega, rfl, by go_num, k4.fr0 f5, v4.fr0 f5, hL, (apk.mono z4).mono z5, by omega, F5⟩
                  case measure => simp [intOf]; omega
                · by_cases hk5 : x.1 = 5
                  · have hk := hk5
                    have ok1 := mark_ok hL
                    go_wp2_with (first
                      | (refine at_idx 33 _ _ rfl ?_; go_must (refine wpList_idxR rfl 33 _ _ rfl 38 Try.underlying33 2 act_size7 _ _ _ rfl (hA.fr0 hf) (by decide) _ _ k rfl rfl hlt ?_; rw [Hx.out]; intro ba oa hba hca))
                      | (with_reducible refine at_wpP ?_; refine at_ld 38 _ rfl ?_; refine wpList_ldAct rfl _ rfl ba oa rfl x hca ?_)
                      | (with_reducible refine at_wpP ?_; refine wpList_alAct rfl rfl ?_; intro ga w1 hga b1 f1 sa; have l1 := b1.lt; have F1 := hf.thenN f1; have z1 := f1.size)
                      | (with_reducible refine at_wpP ?_; refine at_st 38 _ _ rfl ?_; go_must (refine wpList_stAct rfl _ _ rfl ga rfl _ x b1 rfl ?_; intro w2 b2 f2; have F2 := Fr.own F1 (by omega) f2; obtain ⟨q0, q1⟩ := b2.all; rw [show x.1 = 5 from hk] at q0; have z2 := f2.size; have p2 := (Bp.fr0 f1).ne f2 (by omega); have v2 := hap.far sa (hv.fr0 f1) f2; have ap2 := hap.mono (W' := w2) (by omega); have L2 := p2.lt))
                      | (go_at_call 23; go_must (refine (pmark_any hL g _ p2).mono ?_; rintro e w3 ⟨gm, rfl, sm, m3, p3, f3⟩; have F3 := Fr.own F2 s7 f3; have z3 := f3.size; have v3 := ap2.sl v2 f3; have ap3 := ap2.mono (W' := w3) z3; have L3 := p3.lt))
                      | (go_at_call 24; go_must (refine (rmark_any hL _ _ v3).mono ?_; rintro e w4 ⟨v', rfl, o4, f4⟩; have F4 := F3.thenN f4; have z4 := f4.size; have p4 := p3.fr0 f4; have ap4 := Apt.own o4 L3; have v4 := o4.sl; have m4 := m3.fr0 f4; have L4 := p4.lt))
                      | (go_at_call 25; have q := f5; go_must (refine (alike_any ok1 g _ _ (p4.fr0 f5) (v4.fr0 f5)).mono ?_; rintro e w6 ⟨rfl, f6⟩; have F6 := F5.thenN f6; have z6 := f6.size))
                      | (go_at_call 25; go_must (refine (alike_any ok1 gm _ _ m4 v4).mono ?_; rintro e w5 ⟨rfl, f5⟩; have F5 := F4.thenN f5; have z5 := f5.size)))
                    go_roundw
                    case rel => exact ⟨k + 1, _, g, by omega, rfl, by go_num, (p4.fr0 f5).fr0 f6, (v4.fr0 f5).fr0 f6, ok1, (ap4.mono z5).mono z6, s7, F6⟩
                    case measure => simp [intOf]; omega
                  · by_cases hk6 : x.1 = 6
                    · have hk := hk6
                      have ok1 := tidy_ok hL
                      go_wp2_with (first
                        | (refine at_idx 33 _ _ rfl ?_; go_must (refine wpList_idxR rfl 33 _ _ rfl 38 Try.underlying33 2 act_size7 _ _ _ rfl (hA.fr0 hf) (by decide) _ _ k rfl rfl hlt ?_; rw [Hx.out]; intro ba oa hba hca))
                        | (with_reducible refine at_wpP ?_; refine at_ld 38 _ rfl ?_; refine wpList_ldAct rfl _ rfl ba oa rfl x hca ?_)
                        | (with_reducible refine at_wpP ?_; refine wpList_alAct rfl rfl ?_; intro ga w1 hga b1 f1 sa; have l1 := b1.lt; have F1 := hf.thenN f1; have z1 := f1.size)
                        | (with_reducible refine at_wpP ?_; refine at_st 38 _ _ rfl ?_; go_must (refine wpList_stAct rfl _ _ rfl ga rfl _ x b1 rfl ?_; intro w2 b2 f2; have F2 := Fr.own F1 (by omega) f2; obtain ⟨q0, q1⟩ := b2.all; rw [show x.1 = 6 from hk] at q0; have z2 := f2.size; have p2 := (Bp.fr0 f1).ne f2 (by omega); have v2 := hap.far sa (hv.fr0 f1) f2; have ap2 := hap.mono (W' := w2) (by omega); have L2 := p2.lt))
                        | (go_at_call 26; go_must (refine (ptidy_any hL g _ p2).mono ?_; rintro e w3 ⟨rfl, p3, f3⟩; have F3 := Fr.own F2 s7 f3; have z3 := f3.size; have v3 := ap2.sl v2 f3; have ap3 := ap2.mono (W' := w3) z3; have L3 := p3.lt))
                        | (go_at_call 27; go_must (refine (rtidy_any hL _ _ v3).mono ?_; rintro e w4 ⟨v', rfl, o4, f4⟩; have F4 := F3.thenN f4; have z4 := f4.size; have p4 := p3.fr0 f4; have ap4 := Apt.own o4 L3; have v4 := o4.sl; have L4 := p4.lt))
                        | (go_at_call 25; go_must (refine (alike_any ok1 g _ _ p4 v4).mono ?_; rintro e w5 ⟨rfl, f5⟩; have F5 := F4.thenN f5; have z5 := f5.size)))
                      go_roundw
                      case rel => exact ⟨k + 1, _, g, by omega, rfl, by go_num, p4.fr0 f5, v4.fr0 f5, ok1, ap4.mono z5, s7, F5⟩
                      case measure => simp [intOf]; omega
                    · have hk0' : (x.1 == 0) = false := by simpa using hk0
                      have hk1' : (x.1 == 1) = false := by simpa using hk1
                      have hk2' : (x.1 == 2) = false := by simpa using hk2
                      have hk3' : (x.1 == 3) = false := by simpa using hk3
                      have hk4' : (x.1 == 4) = false := by simpa using hk4
                      have hk5' : (x.1 == 5) = false := by simpa using hk5
                      have hk6' : (x.1 == 6) = false := by simpa using hk6
                      clear hk0 hk1 hk2 hk3 hk4 hk5 hk6
                      go_wp2_with (first
                        | (refine at_idx 33 _ _ rfl ?_; go_must (refine wpList_idxR rfl 33 _ _ rfl 38 Try.underlying33 2 act_size7 _ _ _ rfl (hA.fr0 hf) (by decide) _ _ k rfl rfl hlt ?_; rw [Hx.out]; intro ba oa hba hca))
                        | (with_reducible refine at_wpP ?_; refine at_ld 38 _ rfl ?_; refine wpList_ldAct rfl _ rfl ba oa rfl x hca ?_)
                        | (with_reducible refine at_wpP ?_; refine wpList_alAct rfl rfl ?_; intro ga w1 hga b1 f1 sa; have l1 := b1.lt; have F1 := hf.thenN f1; have z1 := f1.size)
                        | (with_reducible refine at_wpP ?_; refine at_st 38 _ _ rfl ?_; go_must (refine wpList_stAct rfl _ _ rfl ga rfl _ x b1 rfl ?_; intro w2 b2 f2; have F2 := Fr.own F1 (by omega) f2; obtain ⟨q0, q1⟩ := b2.all; have z2 := f2.size; have p2 := (Bp.fr0 f1).ne f2 (by omega); have v2 := hap.far sa (hv.fr0 f1) f2; have ap2 := hap.mono (W' := w2) (by omega); have L2 := p2.lt))
                        | (go_at_call 25; go_must (refine (alike_any hL g _ _ p2 v2).mono ?_; rintro e w5 ⟨rfl, f5⟩; have F5 := F2.thenN f5; have z5 := f5.size)))
                      go_roundw
                      case rel => exact ⟨k + 1, _, g, by omega, rfl, by go_num, p2.fr0 f5, v2.fr0 f5, hL, ap2.mono z5, s7, F5⟩
                      case measure => simp [intOf]; omega
      · obtain rfl : k = acts.length := by omega
        go_wp2
        go_ret
        exact ⟨rfl, hf.below⟩
end Go.Proofs.Ytghkpeejogldkaa
