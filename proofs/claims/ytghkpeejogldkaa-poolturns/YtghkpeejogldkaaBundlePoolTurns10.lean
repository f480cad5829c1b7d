/- Texts Y10, Y12 of the proof of PoolTurns, one behind the other. -/
import Derived.Test.YtghkpeejogldkaaBundlePoolTurns1
import Derived.Test.YtghkpeejogldkaaBundlePoolTurns2
import Derived.Test.YtghkpeejogldkaaBundlePoolTurns3
import Derived.Test.YtghkpeejogldkaaBundlePoolTurns4
import Derived.Test.YtghkpeejogldkaaBundlePoolTurns5
import Derived.Test.YtghkpeejogldkaaBundlePoolTurns6
import Derived.Test.YtghkpeejogldkaaBundlePoolTurns7
import Derived.Test.YtghkpeejogldkaaBundlePoolTurns8
import Derived.Test.YtghkpeejogldkaaBundlePoolTurns9
/- poolAlive, PoolNames. -/
namespace Go.Proofs.Ytghkpeejogldkaa
open Go.RowKit Go.Proofs.U
set_option linter.unusedSimpArgs false
set_option linter.unusedVariables false
theorem ptake_at {L L' : List Pg} {n e : Int} (hL : plOk L) (hT : plTake L = (L', n, e)) (g : Nat) (w : World) (h : PoolB w g L) :
    Calls Try.prog 10 #[ptr g] w fun r w' => r = .returned (.tuple #[.int .i64 n, .int .i64 e]) ∧ PoolB w' g L' ∧ Fr (onB1 g) w w' := by
  have := ptake_any hL g w h
  rwa [hT] at this
theorem phold_at {L L' : List Pg} {i e : Int} (hL : plOk L) (hT : plHold L i = (L', e)) (g : Nat) (w : World) (h : PoolB w g L) :
    Calls Try.prog 11 #[ptr g, .int .i64 i] w fun r w' => r = .returned (.int .i64 e) ∧ PoolB w' g L' ∧ Fr (onB1 g) w w' := by
  have := phold_any hL g i w h
  rwa [hT] at this
theorem pdrop_at {L L' : List Pg} {i e : Int} {b : Bool} (hL : plOk L) (hT : plDrop L i = (L', b, e)) (g : Nat) (w : World) (h : PoolB w g L) :
    Calls Try.prog 18 #[ptr g, .int .i64 i] w fun r w' => r = .returned (.tuple #[.bool b, .int .i64 e]) ∧ PoolB w' g L' ∧ Fr (onB1 g) w w' := by
  have := pdrop_any hL g i w h
  rwa [hT] at this
theorem pcommit_at {L L' : List Pg} (hT : plCommit L = L') (g : Nat) (w : World) (h : PoolB w g L) :
    Calls Try.prog 20 #[ptr g] w fun r w' => r = .returned (.tuple #[]) ∧ PoolB w' g L' ∧ Fr (onB1 g) w w' := by
  have := pcommit_any g w h
  rwa [hT] at this
theorem Fr.own {w w1 w2 : World} {g : Nat} (f : Fr noB w w1) (hg : w.heap.size ≤ g) (k : Fr (onB1 g) w1 w2) : Fr noB w w2 :=
  f.thenT k (fun i hi q => by unfold onB1 at q; omega)
def al0 : List Pg := [⟨0, 0⟩, ⟨0, 0⟩, ⟨0, 0⟩]
def al1 : List Pg := [⟨0, 1⟩, ⟨0, 0⟩, ⟨0, 0⟩]
def al2 : List Pg := [⟨1, 1⟩, ⟨0, 0⟩, ⟨0, 0⟩]
def al3 : List Pg := [⟨1, 0⟩, ⟨0, 0⟩, ⟨0, 0⟩]
def al4 : List Pg := [⟨0, 4⟩, ⟨0, 0⟩, ⟨0, 0⟩]
def al5 : List Pg := [⟨0, 4⟩, ⟨0, 1⟩, ⟨0, 0⟩]
theorem al_new : plNew 3 = al0 := rfl
theorem al0_ok : plOk al0 := by rw [← al_new]; exact plNew_ok 3
theorem al_t0 : plTake al0 = (al1, 0, 0) := rfl
theorem al1_ok : plOk al1 := by have := take_ok al0_ok; rwa [al_t0] at this
theorem al_h1 : plHold al1 0 = (al2, 0) := rfl
theorem al2_ok : plOk al2 := by have := hold_ok al1_ok 0; rwa [al_h1] at this
theorem al_c2 : plCommit al2 = al3 := rfl
theorem al3_ok : plOk al3 := by have := comm_ok al2_ok; rwa [al_c2] at this
theorem al_d3 : plDrop al3 0 = (al4, true, 0) := rfl
theorem al4_ok : plOk al4 := by have := drop_ok al3_ok 0; rwa [al_d3] at this
theorem al_t4 : plTake al4 = (al5, 1, 0) := rfl
theorem al5_ok : plOk al5 := by have := take_ok al4_ok; rwa [al_t4] at this
theorem al_c5 : plCommit al5 = al0 := rfl
set_option maxRecDepth 100000 in
set_option maxHeartbeats 1000000 in
theorem palive_any (w : World) :
    Calls Try.prog 13 #[] w fun r w' => r = .returned (.bool true) ∧ Fr noB w w' := by
  go_enter Try.func13, Try.ntmps13
  go_wp2_with (first
    | (go_at_call 9; go_must (refine (pnew_any 3 _).mono ?_; rw [al_new]; rintro e w1 ⟨g, rfl, s1, b1, f1⟩))
    | (go_at_call 11; go_must (refine (phold_at al1_ok al_h1 g _ b2).mono ?_; rintro e w3 ⟨rfl, b3, f3⟩; have F3 := Fr.own F2 s1 f3))
    | (go_at_call 18; go_must (refine (pdrop_at al3_ok al_d3 g _ b4).mono ?_; rintro e w5 ⟨rfl, b5, f5⟩; have F5 := Fr.own F4 s1 f5))
    | (go_at_call 20; have q := b6; go_must (refine (pcommit_at al_c5 g _ b6).mono ?_; rintro e w7 ⟨rfl, b7, f7⟩; have F7 := Fr.own F6 s1 f7))
    | (go_at_call 20; go_must (refine (pcommit_at al_c2 g _ b3).mono ?_; rintro e w4 ⟨rfl, b4, f4⟩; have F4 := Fr.own F3 s1 f4))
    | (go_at_call 10; have q := b7; go_must (refine (ptake_at al0_ok al_t0 g _ b7).mono ?_; rintro e w8 ⟨rfl, b8, f8⟩; have F8 := Fr.own F7 s1 f8))
    | (go_at_call 10; have q := b5; go_must (refine (ptake_at al4_ok al_t4 g _ b5).mono ?_; rintro e w6 ⟨rfl, b6, f6⟩; have F6 := Fr.own F5 s1 f6))
    | (go_at_call 10; go_must (refine (ptake_at al0_ok al_t0 g _ b1).mono ?_; rintro e w2 ⟨rfl, b2, f2⟩; have F2 := Fr.own f1 s1 f2)))
  go_ret
  exact ⟨rfl, F8⟩
def nmC : List Int := (zerB 240).set 2 1
theorem nmC_len : nmC.length = 240 := by unfold nmC; rw [List.length_set, zerB_len]
theorem nmC_byt : Byt nmC := by
  intro x hx
  rcases List.mem_or_eq_of_mem_set hx with hx | rfl
  · exact zerB_byt 240 x hx
  · decide
theorem nmC_none : plLoad 2 nmC = none := by
  unfold plLoad
  rw [if_neg]
  intro h
  have := List.all_eq_true.1 h 1 (by
    rw [show plN 2 = 2 from rfl, List.mem_iff_getElem]
    exact ⟨0, by rw [List.length_drop, nmC_len]; decide, rfl⟩)
  exact absurd this (by decide)
theorem built_nm : Try.prog.built 30 [(2, .int .u8 1)] = some (pgv nmC).toArray := by kernel_rfl
theorem wpList_bldNm {w : World} {ops : Array Oper} {rest : List Oper} {o : Oper} {a : Act} {Q : Exit → Act → World → Prop} (hgd : Region.wanted o (yielded ops a.tmps) = true) (ho : o.op = .build 30 #[(2, .const (.int .u8 1))]) (C : List Int) (hb : Try.prog.built 30 [(2, .int .u8 1)] = some (pgv C).toArray)
    (h : wpList Try.prog ops Q rest (a.put o.dst (pgV C)) w) : wpList Try.prog ops Q (o :: rest) a w := by
  refine wpList_wanted hgd fun K hK => ?_
  have hrun := run_build (P := Try.prog) w 30 #[(2, .int .u8 1)] _ hb
  unfold Oper.wp
  have hc : a.eval (.const (.int .u8 1)) = .int .u8 1 := rfl
  simp [execOp, ho, hc, hrun, Result.andThen]
  exact hK _ _ h
theorem nil_take : plTake [] = ([], 0, 71) := rfl
theorem nil_hold : plHold [] 0 = ([], 73) := rfl
theorem nil_new : plNew 0 = [] := rfl
theorem nil_ok : plOk [] := by rw [← nil_new]; exact plNew_ok 0
theorem big_new : (plNew 999).length = 240 := by rw [plNew_len]; rfl
set_option maxRecDepth 100000 in
set_option maxHeartbeats 1000000 in
theorem pnames_walk (w : World) :
    Calls Try.prog 3 #[] w fun r w' => r = .returned (.bool true) ∧ Below w.heap.size w w' := by
  have hld := show Hid _ from fun W => pload_any 2 nmC nmC_len nmC_byt none nmC_none W
  obtain ⟨C, HC⟩ : ∃ C, Hid (nmC = C) := ⟨_, rfl⟩
  have hbn := show Hid _ from built_nm
  simp only [HC.out] at hld hbn
  obtain ⟨B, HB⟩ : ∃ B, Hid (plNew 999 = B) := ⟨_, rfl⟩
  have hBl : Hid ((B.length : Int) = 240) := by show _ = _; rw [← HB.out, big_new]; rfl
  go_enter Try.func3, Try.ntmps3
  go_wp2_with (first
    | (go_at_call 9; have q := f4; go_must (refine (pnew_any 999 _).mono ?_; rw [HB.out]; rintro e w6 ⟨g6, rfl, s6, b6, f6⟩))
    | (go_at_call 9; go_must (refine (pnew_any 0 _).mono ?_; rw [nil_new]; rintro e w1 ⟨g, rfl, s1, b1, f1⟩))
    | (go_at_call 10; go_must (refine (ptake_at nil_ok nil_take g _ b1).mono ?_; rintro e w2 ⟨rfl, b2, f2⟩; have F2 := Fr.own f1 s1 f2))
    | (go_at_call 11; go_must (refine (phold_at nil_ok nil_hold g _ b2).mono ?_; rintro e w3 ⟨rfl, b3, f3⟩; have F3 := Fr.own F2 s1 f3))
    | (with_reducible refine at_wpP ?_; refine wpList_bldNm rfl rfl C hbn.out ?_)
    | (go_at_call 12; go_must (refine (hld.out _).mono ?_; rintro e w4 ⟨f4, rfl⟩; have F4 := F3.thenN f4))
    | (go_at_call 13; go_must (refine (palive_any _).mono ?_; rintro e w5 ⟨rfl, f5⟩; have F5 := F4.thenN f5))
    | (go_at_call 14; go_must (refine (psize_any g6 _ b6).mono ?_; rw [hBl.out]; rintro e w7 ⟨rfl, rfl⟩)))
  go_ret
  exact ⟨rfl, (F5.thenN f6).below⟩
end Go.Proofs.Ytghkpeejogldkaa
/- PoolTurns. (Written by y12_gen.py.) -/
namespace Go.Proofs.Ytghkpeejogldkaa
open Go.RowKit Go.Proofs.U
set_option linter.unusedSimpArgs false
set_option linter.unusedVariables false
theorem tl_at (n : Nat) (x : Pg) (i : Nat) : plAt (turnL n x) i = if i = 0 then x else Pg0 := by
  cases i with
  | zero => rfl
  | succ j =>
    rw [if_neg (by omega)]
    unfold plAt turnL
    simp only [List.getD, List.getElem?_cons_succ, List.getElem?_replicate]
    split <;> rfl
theorem tl_ok (n : Nat) (hn : n + 1 ≤ 240) (x : Pg) (h : x.ok) : plOk (turnL n x) := by
  refine ⟨by rw [turn_len]; exact hn, fun i => ?_⟩
  rw [tl_at]
  split
  · exact h
  · exact Pg0_ok
theorem pg_ok (c : Int) (s : Nat) (h0 : 0 ≤ c) (h1 : c ≤ 255) (h2 : s ≤ 2) : (Pg.mk c s).ok := ⟨h0, h1, by show s ≤ 4; omega, fun h => by have h : 3 ≤ s := h; omega⟩
theorem pg_ok0 (s : Nat) (h2 : s ≤ 4) : (Pg.mk 0 s).ok := ⟨Int.le_refl _, (by decide : (0 : Int) ≤ 255), h2, fun _ => rfl⟩
theorem pg_held (c : Int) (s : Nat) (h : 0 < c) : (Pg.mk c s).held = true := by
  unfold Pg.held; simp; omega
theorem pfree_at {L : List Pg} {z : Nat} (hL : plOk L) (hz : plFree L = z) (g : Nat) (w : World) (h : PoolB w g L) :
    Calls Try.prog 29 #[ptr g] w fun r w' => r = .returned (.int .i64 (z : Int)) ∧ w = w' := by
  have := pfreeN_any hL g w h
  rwa [hz] at this
theorem pcount_at {L : List Pg} {i z : Int} (hL : plOk L) (hz : plCount L i = z) (g : Nat) (w : World) (h : PoolB w g L) :
    Calls Try.prog 30 #[ptr g, .int .i64 i] w fun r w' => r = .returned (.int .i64 z) ∧ w = w' := by
  have := pcount_any hL g i w h
  rwa [hz] at this
set_option maxRecDepth 100000 in
set_option maxHeartbeats 4000000 in
theorem pturns_walk (a0 : Int) (a1 : Int) (cm : Bool) (w : World) (w0 : (Lit.int .i64 a0).wf = true) (w1 : (Lit.int .i64 a1).wf = true) :
    Calls Try.prog 6 #[.int .i64 a0, .int .i64 a1, .bool cm] w fun r w' => r = .returned (.bool true) ∧ Below w.heap.size w w' := by
  clear w0 w1
  by_cases h0 : a0 < 1
  · go_enter Try.func6, Try.ntmps6
    go_wp2_with (first
      | (go_at_call 13; go_must (refine (palive_any _).mono ?_; rintro e w2 ⟨rfl, f2⟩)))
    go_ret
    exact ⟨rfl, f2.below⟩
  by_cases h1 : 240 < a0
  · go_enter Try.func6, Try.ntmps6
    go_wp2_with (first
      | (go_at_call 13; go_must (refine (palive_any _).mono ?_; rintro e w2 ⟨rfl, f2⟩)))
    go_ret
    exact ⟨rfl, f2.below⟩
  by_cases h2 : a1 < 1
  · go_enter Try.func6, Try.ntmps6
    go_wp2_with (first
      | (go_at_call 13; go_must (refine (palive_any _).mono ?_; rintro e w2 ⟨rfl, f2⟩)))
    go_ret
    exact ⟨rfl, f2.below⟩
  by_cases h3 : 255 < a1
  · go_enter Try.func6, Try.ntmps6
    go_wp2_with (first
      | (go_at_call 13; go_must (refine (palive_any _).mono ?_; rintro e w2 ⟨rfl, f2⟩)))
    go_ret
    exact ⟨rfl, f2.below⟩
  obtain ⟨n, rfl⟩ : ∃ n : Nat, a0 = ((n + 1 : Nat) : Int) := ⟨a0.toNat - 1, by omega⟩
  obtain ⟨t, rfl⟩ : ∃ t : Nat, a1 = (t : Int) := ⟨a1.toNat, by omega⟩
  have hn : n + 1 ≤ 240 := by omega
  have ht0 : 1 ≤ t := by omega
  have ht1 : t ≤ 255 := by omega
  have hnew : Hid (plNew ((n + 1 : Nat) : Int) = turnL n Pg0) := by
    show _ = _
    rw [turn_new (by omega)]; congr 1
  have hsub : IntKind.i64.wrap (((n + 1 : Nat) : Int) - 1) = (n : Int) := by rw [IntKind.wrap_i64]; omega
  have htsub : IntKind.i64.wrap ((t : Int) - 1) = ((t - 1 : Nat) : Int) := by rw [IntKind.wrap_i64]; omega
  have ok0 : plOk (turnL n Pg0) := tl_ok n hn _ Pg0_ok
  have okc : ∀ (c : Nat) (s : Nat), c ≤ 255 → s ≤ 2 → plOk (turnL n ⟨(c : Int), s⟩) := fun c s h1 h2 => tl_ok n hn _ (pg_ok _ _ (by omega) (by omega) h2)
  have ok1 : plOk (turnL n ⟨0, 1⟩) := okc 0 1 (by omega) (by omega)
  have hT := show Hid _ from turn_take n Pg0 rfl
  have hF1 : Hid (plFree (turnL n ⟨0, 1⟩) = n) := by show _ = _; rw [turn_free]; rfl
  have hneg1 : ((n + 1 : Nat) : Int) - 1 = (n : Int) := by omega
  obtain ⟨A, HA⟩ : ∃ A, Hid (turnL n = A) := ⟨_, rfl⟩
  obtain ⟨S, HS⟩ : ∃ S : Int, Hid (((n + 1 : Nat) : Int) = S) := ⟨_, rfl⟩
  have hS0 : ¬ S < 1 := by rw [← HS.out]; omega
  have hS1 : ¬ 240 < S := by rw [← HS.out]; omega
  rw [HS.out] at hsub hnew ⊢
  have hF4 : Hid (plFree (turnL n ⟨0, 4⟩) = n) := by show _ = _; rw [turn_free]; rfl
  have hFe : Hid (plFree (turnL n ⟨0, 0⟩) = n + 1) := by show _ = _; rw [turn_free]; rfl
  have hFS : ((n + 1 : Nat) : Int) = S := HS.out
  have hhold : ∀ k : Nat, k < t → Hid (plHold (turnL n ⟨(k : Int), 1⟩) 0 = (turnL n ⟨((k + 1 : Nat) : Int), 1⟩, 0)) := by
    intro k hk
    show _ = _
    rw [turn_hold n k 1 (by unfold Pg.held; simp), if_neg (by omega)]
    simp
  have hfull : t = 255 → Hid (plHold (turnL n ⟨(t : Int), 1⟩) 0 = (turnL n ⟨(t : Int), 1⟩, 72)) := by
    intro e
    show _ = _
    rw [turn_hold n t 1 (by unfold Pg.held; simp), if_pos (by omega)]
  have hcomm : Hid (plCommit (turnL n ⟨(t : Int), 1⟩) = turnL n ⟨(t : Int), 0⟩) := turn_comm n _
  have hdrop : ∀ (k : Nat) (s : Nat), k + 1 < t → Hid (plDrop (turnL n ⟨((t - k : Nat) : Int), s⟩) 0 = (turnL n ⟨((t - (k + 1) : Nat) : Int), s⟩, false, 0)) := by
    intro k s hk
    show _ = _
    rw [turn_drop n _ s (pg_held _ _ (by omega)), if_pos (by omega)]
    congr 3
    omega
  have hlast : ∀ (k : Nat) (s : Nat), k + 1 = t → Hid (plDrop (turnL n ⟨((t - k : Nat) : Int), s⟩) 0 = (turnL n ⟨0, dropS s⟩, true, 0)) := by
    intro k s hk
    show _ = _
    rw [turn_drop n _ s (pg_held _ _ (by omega)), if_neg (by omega)]
  have hno4 : Hid (plDrop (turnL n ⟨0, 4⟩) 0 = (turnL n ⟨0, 4⟩, false, 73)) := turn_dropN n 0 4 rfl
  have hno0 : Hid (plDrop (turnL n ⟨0, 0⟩) 0 = (turnL n ⟨0, 0⟩, false, 73)) := turn_dropN n 0 0 rfl
  have hcm4 : Hid (plCommit (turnL n ⟨0, 4⟩) = turnL n ⟨0, 0⟩) := turn_comm n _
  have ok4 : plOk (turnL n ⟨0, 4⟩) := tl_ok n hn _ (pg_ok0 4 (by omega))
  have hcnt : Hid (plCount (turnL n ⟨0, 0⟩) 0 = 0) := plCount_nat (L := turnL n ⟨0, 0⟩) 0
  simp only [HA.out] at hnew ok0 okc ok1 hT hF1 hF4 hFe hhold hfull hcomm hdrop hlast hno4 hno0 hcm4 ok4 hcnt
  have hFS := show Hid _ from hFS
  clear hneg1
  go_enter Try.func6, Try.ntmps6
  go_wp2_with (first
    | (go_at_call 13; go_must (refine (palive_any _).mono ?_; rintro e w2 ⟨rfl, f2⟩; have z2 := f2.size))
    | (go_at_call 9; go_must (refine (pnew_any S _).mono ?_; rw [hnew.out]; rintro e w3 ⟨g7, rfl, s7, p3, f3⟩; have F3 := f2.thenN f3))
    | (go_at_call 10; go_must (refine (ptake_at ok0 hT.out g7 _ p3).mono ?_; rintro e w4 ⟨rfl, p4, f4⟩; have F4 := Fr.own F3 (by omega) f4))
    | (go_at_call 29; go_must (refine (pfree_at ok1 hF1.out g7 _ p4).mono ?_; rintro e w' ⟨rfl, rfl⟩)))
  have s7' : w.heap.size ≤ g7 := by omega
  go_loopw [10] (fun i wr => ∃ (k : Nat), k ≤ t ∧ i = .int .i64 (k : Int) ∧ PoolB wr g7 (A ⟨(k : Int), 1⟩) ∧ Fr noB w wr) (fun i _ => t - (intOf i).toNat)
  case atStart => exact ⟨0, by omega, rfl, p4, F4⟩
  case round =>
    obtain ⟨k, hk, rfl, Bp, hf⟩ := hrel
    by_cases hlt : k < t
    · have hh := hhold k hlt
      have okk := okc k 1 (by omega) (by omega)
      go_wp2_with (first
        | (go_at_call 11; go_must (refine (phold_at okk hh.out g7 _ Bp).mono ?_; rintro e w5 ⟨rfl, p5, f5⟩; have F5 := Fr.own hf s7' f5)))
      go_roundw
      case rel => exact ⟨k + 1, by omega, by go_num, p5, F5⟩
      case measure => simp [intOf]; omega
    · obtain rfl : k = t := by omega
      have okt := okc k 1 (by omega) (by omega)
      have okt0 := okc k 0 (by omega) (by omega)
      clear p3 p4 f4 F4 f3 F3 hhold
      by_cases h255 : k = 255
      · have hfl := hfull h255
        have h255' : (k : Int) = 255 := by omega
        cases cm with
        | true =>
          go_wp2_with (first
            | (go_at_call 11; go_must (refine (phold_at okt hfl.out g7 _ Bp).mono ?_; rintro e w5 ⟨rfl, p5, f5⟩; have F5 := Fr.own hf s7' f5))
            | (go_at_call 20; go_must (refine (pcommit_at hcomm.out g7 _ p5).mono ?_; rintro e w6 ⟨rfl, p6, f6⟩; have F6 := Fr.own F5 s7' f6)))
          go_loopw [11] (fun i wr => ∃ (j : Nat), j ≤ k ∧ i = .int .i64 (j : Int) ∧ PoolB wr g7 (if j < k then A ⟨((k - j : Nat) : Int), 0⟩ else A ⟨0, 4⟩) ∧ Fr noB w wr) (fun i _ => k - (intOf i).toNat)
          case atStart => exact ⟨0, by omega, rfl, by rw [if_pos (by omega)]; exact p6, F6⟩
          case round =>
            obtain ⟨j, hj, rfl, Bq, hg⟩ := hrel
            by_cases hjt : j < k
            · rw [if_pos hjt] at Bq
              have okj := okc (k - j) 0 (by omega) (by omega)
              by_cases hj1 : j + 1 < k
              · have hd := hdrop j 0 hj1
                have hjn : ((j : Int) == ((k - 1 : Nat) : Int)) = false := by simp; omega
                go_wp2_with (first
                  | (go_at_call 18; go_must (refine (pdrop_at okj hd.out g7 _ Bq).mono ?_; rintro e w7 ⟨rfl, p7, f7⟩; have F7 := Fr.own hg s7' f7)))
                go_roundw
                case rel => exact ⟨j + 1, by omega, by go_num, by rw [if_pos hj1]; exact p7, F7⟩
                case measure => simp [intOf]; omega
              · obtain rfl : j = k - 1 := by omega
                have hd := hlast (k - 1) 0 (by omega)
                go_wp2_with (first
                  | (go_at_call 18; go_must (refine (pdrop_at okj hd.out g7 _ Bq).mono ?_; rintro e w7 ⟨rfl, p7, f7⟩; have F7 := Fr.own hg s7' f7)))
                go_roundw
                case rel => exact ⟨k - 1 + 1, by omega, by go_num, by rw [if_neg (by omega)]; exact p7, F7⟩
                case measure => simp [intOf]; omega
            · obtain rfl : j = k := by omega
              rw [if_neg (Nat.lt_irrefl _)] at Bq
              go_wp2_with (first
                | (go_at_call 29; have q := p9; go_must (refine (pfree_at ok0 hFe.out g7 _ p9).mono ?_; rintro e w' ⟨rfl, rfl⟩; rw [hFS.out]))
                | (go_at_call 29; go_must (refine (pfree_at ok4 hF4.out g7 _ Bq).mono ?_; rintro e w' ⟨rfl, rfl⟩))
                | (go_at_call 18; go_must (refine (pdrop_at ok4 hno4.out g7 _ Bq).mono ?_; rintro e w8 ⟨rfl, p8, f8⟩; have F8 := Fr.own hg s7' f8))
                | (go_at_call 20; go_must (refine (pcommit_at hcm4.out g7 _ p8).mono ?_; rintro e w9 ⟨rfl, p9, f9⟩; have F9 := Fr.own F8 s7' f9))
                | (go_at_call 30; go_must (refine (pcount_at ok0 hcnt.out g7 _ p9).mono ?_; rintro e w' ⟨rfl, rfl⟩)))
              go_ret
              exact ⟨rfl, F9.below⟩
        | false =>
          go_wp2_with (first
            | (go_at_call 11; go_must (refine (phold_at okt hfl.out g7 _ Bp).mono ?_; rintro e w5 ⟨rfl, p5, f5⟩; have F5 := Fr.own hf s7' f5)))
          go_loopw [11] (fun i wr => ∃ (j : Nat), j ≤ k ∧ i = .int .i64 (j : Int) ∧ PoolB wr g7 (if j < k then A ⟨((k - j : Nat) : Int), 1⟩ else A ⟨0, 0⟩) ∧ Fr noB w wr) (fun i _ => k - (intOf i).toNat)
          case atStart => exact ⟨0, by omega, rfl, by rw [if_pos (by omega)]; exact p5, F5⟩
          case round =>
            obtain ⟨j, hj, rfl, Bq, hg⟩ := hrel
            by_cases hjt : j < k
            · rw [if_pos hjt] at Bq
              have okj := okc (k - j) 1 (by omega) (by omega)
              by_cases hj1 : j + 1 < k
              · have hd := hdrop j 1 hj1
                have hjn : ((j : Int) == ((k - 1 : Nat) : Int)) = false := by simp; omega
                go_wp2_with (first
                  | (go_at_call 18; go_must (refine (pdrop_at okj hd.out g7 _ Bq).mono ?_; rintro e w7 ⟨rfl, p7, f7⟩; have F7 := Fr.own hg s7' f7)))
                go_roundw
                case rel => exact ⟨j + 1, by omega, by go_num, by rw [if_pos hj1]; exact p7, F7⟩
                case measure => simp [intOf]; omega
              · obtain rfl : j = k - 1 := by omega
                have hd := hlast (k - 1) 1 (by omega)
                go_wp2_with (first
                  | (go_at_call 18; go_must (refine (pdrop_at okj hd.out g7 _ Bq).mono ?_; rintro e w7 ⟨rfl, p7, f7⟩; have F7 := Fr.own hg s7' f7)))
                go_roundw
                case rel => exact ⟨k - 1 + 1, by omega, by go_num, by rw [if_neg (by omega)]; exact p7, F7⟩
                case measure => simp [intOf]; omega
            · obtain rfl : j = k := by omega
              rw [if_neg (Nat.lt_irrefl _)] at Bq
              go_wp2_with (first
                | (go_at_call 29; go_must (refine (pfree_at ok0 hFe.out g7 _ p8).mono ?_; rintro e w' ⟨rfl, rfl⟩; rw [hFS.out]))
                | (go_at_call 18; go_must (refine (pdrop_at ok0 hno0.out g7 _ Bq).mono ?_; rintro e w8 ⟨rfl, p8, f8⟩; have F8 := Fr.own hg s7' f8))
                | (go_at_call 30; go_must (refine (pcount_at ok0 hcnt.out g7 _ p8).mono ?_; rintro e w' ⟨rfl, rfl⟩)))
              go_ret
              exact ⟨rfl, F8.below⟩
      · have h255' : ((k : Int) == 255) = false := by simp; omega
        cases cm with
        | true =>
          go_wp2_with (first
            | (go_at_call 20; go_must (refine (pcommit_at hcomm.out g7 _ Bp).mono ?_; rintro e w6 ⟨rfl, p6, f6⟩; have F6 := Fr.own hf s7' f6)))
          go_loopw [11] (fun i wr => ∃ (j : Nat), j ≤ k ∧ i = .int .i64 (j : Int) ∧ PoolB wr g7 (if j < k then A ⟨((k - j : Nat) : Int), 0⟩ else A ⟨0, 4⟩) ∧ Fr noB w wr) (fun i _ => k - (intOf i).toNat)
          case atStart => exact ⟨0, by omega, rfl, by rw [if_pos (by omega)]; exact p6, F6⟩
          case round =>
            obtain ⟨j, hj, rfl, Bq, hg⟩ := hrel
            by_cases hjt : j < k
            · rw [if_pos hjt] at Bq
              have okj := okc (k - j) 0 (by omega) (by omega)
              by_cases hj1 : j + 1 < k
              · have hd := hdrop j 0 hj1
                have hjn : ((j : Int) == ((k - 1 : Nat) : Int)) = false := by simp; omega
                go_wp2_with (first
                  | (go_at_call 18; go_must (refine (pdrop_at okj hd.out g7 _ Bq).mono ?_; rintro e w7 ⟨rfl, p7, f7⟩; have F7 := Fr.own hg s7' f7)))
                go_roundw
                case rel => exact ⟨j + 1, by omega, by go_num, by rw [if_pos hj1]; exact p7, F7⟩
                case measure => simp [intOf]; omega
              · obtain rfl : j = k - 1 := by omega
                have hd := hlast (k - 1) 0 (by omega)
                go_wp2_with (first
                  | (go_at_call 18; go_must (refine (pdrop_at okj hd.out g7 _ Bq).mono ?_; rintro e w7 ⟨rfl, p7, f7⟩; have F7 := Fr.own hg s7' f7)))
                go_roundw
                case rel => exact ⟨k - 1 + 1, by omega, by go_num, by rw [if_neg (by omega)]; exact p7, F7⟩
                case measure => simp [intOf]; omega
            · obtain rfl : j = k := by omega
              rw [if_neg (Nat.lt_irrefl _)] at Bq
              go_wp2_with (first
                | (go_at_call 29; have q := p9; go_must (refine (pfree_at ok0 hFe.out g7 _ p9).mono ?_; rintro e w' ⟨rfl, rfl⟩; rw [hFS.out]))
                | (go_at_call 29; go_must (refine (pfree_at ok4 hF4.out g7 _ Bq).mono ?_; rintro e w' ⟨rfl, rfl⟩))
                | (go_at_call 18; go_must (refine (pdrop_at ok4 hno4.out g7 _ Bq).mono ?_; rintro e w8 ⟨rfl, p8, f8⟩; have F8 := Fr.own hg s7' f8))
                | (go_at_call 20; go_must (refine (pcommit_at hcm4.out g7 _ p8).mono ?_; rintro e w9 ⟨rfl, p9, f9⟩; have F9 := Fr.own F8 s7' f9))
                | (go_at_call 30; go_must (refine (pcount_at ok0 hcnt.out g7 _ p9).mono ?_; rintro e w' ⟨rfl, rfl⟩)))
              go_ret
              exact ⟨rfl, F9.below⟩
        | false =>
          go_wp2
          go_loopw [11] (fun i wr => ∃ (j : Nat), j ≤ k ∧ i = .int .i64 (j : Int) ∧ PoolB wr g7 (if j < k then A ⟨((k - j : Nat) : Int), 1⟩ else A ⟨0, 0⟩) ∧ Fr noB w wr) (fun i _ => k - (intOf i).toNat)
          case atStart => exact ⟨0, by omega, rfl, by rw [if_pos (by omega)]; exact Bp, hf⟩
          case round =>
            obtain ⟨j, hj, rfl, Bq, hg⟩ := hrel
            by_cases hjt : j < k
            · rw [if_pos hjt] at Bq
              have okj := okc (k - j) 1 (by omega) (by omega)
              by_cases hj1 : j + 1 < k
              · have hd := hdrop j 1 hj1
                have hjn : ((j : Int) == ((k - 1 : Nat) : Int)) = false := by simp; omega
                go_wp2_with (first
                  | (go_at_call 18; go_must (refine (pdrop_at okj hd.out g7 _ Bq).mono ?_; rintro e w7 ⟨rfl, p7, f7⟩; have F7 := Fr.own hg s7' f7)))
                go_roundw
                case rel => exact ⟨j + 1, by omega, by go_num, by rw [if_pos hj1]; exact p7, F7⟩
                case measure => simp [intOf]; omega
              · obtain rfl : j = k - 1 := by omega
                have hd := hlast (k - 1) 1 (by omega)
                go_wp2_with (first
                  | (go_at_call 18; go_must (refine (pdrop_at okj hd.out g7 _ Bq).mono ?_; rintro e w7 ⟨rfl, p7, f7⟩; have F7 := Fr.own hg s7' f7)))
                go_roundw
                case rel => exact ⟨k - 1 + 1, by omega, by go_num, by rw [if_neg (by omega)]; exact p7, F7⟩
                case measure => simp [intOf]; omega
            · obtain rfl : j = k := by omega
              rw [if_neg (Nat.lt_irrefl _)] at Bq
              go_wp2_with (first
                | (go_at_call 29; go_must (refine (pfree_at ok0 hFe.out g7 _ p8).mono ?_; rintro e w' ⟨rfl, rfl⟩; rw [hFS.out]))
                | (go_at_call 18; go_must (refine (pdrop_at ok0 hno0.out g7 _ Bq).mono ?_; rintro e w8 ⟨rfl, p8, f8⟩; have F8 := Fr.own hg s7' f8))
                | (go_at_call 30; go_must (refine (pcount_at ok0 hcnt.out g7 _ p8).mono ?_; rintro e w' ⟨rfl, rfl⟩)))
              go_ret
              exact ⟨rfl, F8.below⟩
end Go.Proofs.Ytghkpeejogldkaa
