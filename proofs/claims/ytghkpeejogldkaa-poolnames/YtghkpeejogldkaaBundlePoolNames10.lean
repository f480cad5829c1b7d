/- Texts Y10 of the proof of PoolNames, one behind the other. -/
import Derived.Test.YtghkpeejogldkaaBundlePoolNames1
import Derived.Test.YtghkpeejogldkaaBundlePoolNames2
import Derived.Test.YtghkpeejogldkaaBundlePoolNames3
import Derived.Test.YtghkpeejogldkaaBundlePoolNames4
import Derived.Test.YtghkpeejogldkaaBundlePoolNames5
import Derived.Test.YtghkpeejogldkaaBundlePoolNames6
import Derived.Test.YtghkpeejogldkaaBundlePoolNames7
import Derived.Test.YtghkpeejogldkaaBundlePoolNames8
import Derived.Test.YtghkpeejogldkaaBundlePoolNames9
/- poolAlive, PoolNames. -/
namespace Go.Proofs.Ytghkpeejogldkaa
open Go.RowKit Go.Proofs.U
set_option linter.unusedSimpArgs false
set_option linter.unusedVariables false
theorem ptake_at {L L' : List Pg} {n e : Int} (hL : plOk L) (hT : plTake L = (L', n, e)) (g : Nat) (w : World) (h : PoolB w g L) :
    Calls Try.prog 10 #[ptr g] w fun r w' => r = .returned (.tuple #[.int .i64 n, .int .i64 e]) ∧ PoolB w' g L' ∧ Fr (onB1 g) w w' := by
  have := ptake_any hL g w h
  rwa [hT] at this
theorem phold_at {L L' : List Pg} {i e : Int} (hL : plOk L) (hT : plHold L i = (L', e)) (g : Nat) (w : World) (h : PoolB w g L) :
    Calls Try.prog 11 #[ptr g, .int .i64 i] w fun r w' => r = .returned (.int .i64 e) ∧ PoolB w' g L' ∧ Fr (onB1 g) w w' := by
  have := phold_any hL g i w h
  rwa [hT] at this
theorem pdrop_at {L L' : List Pg} {i e : Int} {b : Bool} (hL : plOk L) (hT : plDrop L i = (L', b, e)) (g : Nat) (w : World) (h : PoolB w g L) :
    Calls Try.prog 18 #[ptr g, .int .i64 i] w fun r w' => r = .returned (.tuple #[.bool b, .int .i64 e]) ∧ PoolB w' g L' ∧ Fr (onB1 g) w w' := by
  have := pdrop_any hL g i w h
  rwa [hT] at this
theorem pcommit_at {L L' : List Pg} (hT : plCommit L = L') (g : Nat) (w : World) (h : PoolB w g L) :
    Calls Try.prog 20 #[ptr g] w fun r w' => r = .returned (.tuple #[]) ∧ PoolB w' g L' ∧ Fr (onB1 g) w w' := by
  have := pcommit_any g w h
  rwa [hT] at this
theorem Fr.own {w w1 w2 : World} {g : Nat} (f : Fr noB w w1) (hg : w.heap.size ≤ g) (k : Fr (onB1 g) w1 w2) : Fr noB w w2 :=
  f.thenT k (fun i hi q => by unfold onB1 at q; omega)
def al0 : List Pg := [⟨0, 0⟩, ⟨0, 0⟩, ⟨0, 0⟩]
def al1 : List Pg := [⟨0, 1⟩, ⟨0, 0⟩, ⟨0, 0⟩]
def al2 : List Pg := [⟨1, 1⟩, ⟨0, 0⟩, ⟨0, 0⟩]
def al3 : List Pg := [⟨1, 0⟩, ⟨0, 0⟩, ⟨0, 0⟩]
def al4 : List Pg := [⟨0, 4⟩, ⟨0, 0⟩, ⟨0, 0⟩]
def al5 : List Pg := [⟨0, 4⟩, ⟨0, 1⟩, ⟨0, 0⟩]
theorem al_new : plNew 3 = al0 := rfl
theorem al0_ok : plOk al0 := by rw [← al_new]; exact plNew_ok 3
theorem al_t0 : plTake al0 = (al1, 0, 0) := rfl
theorem al1_ok : plOk al1 := by have := take_ok al0_ok; rwa [al_t0] at this
theorem al_h1 : plHold al1 0 = (al2, 0) := rfl
theorem al2_ok : plOk al2 := by have := hold_ok al1_ok 0; rwa [al_h1] at this
theorem al_c2 : plCommit al2 = al3 := rfl
theorem al3_ok : plOk al3 := by have := comm_ok al2_ok; rwa [al_c2] at this
theorem al_d3 : plDrop al3 0 = (al4, true, 0) := rfl
theorem al4_ok : plOk al4 := by have := drop_ok al3_ok 0; rwa [al_d3] at this
theorem al_t4 : plTake al4 = (al5, 1, 0) := rfl
theorem al5_ok : plOk al5 := by have := take_ok al4_ok; rwa [al_t4] at this
theorem al_c5 : plCommit al5 = al0 := rfl
set_option maxRecDepth 100000 in
set_option maxHeartbeats 1000000 in
theorem palive_any (w : World) :
    Calls Try.prog 13 #[] w fun r w' => r = .returned (.bool true) ∧ Fr noB w w' := by
  go_enter Try.func13, Try.ntmps13
  go_wp2_with (first
    | (go_at_call 9; go_must (refine (pnew_any 3 _).mono ?_; rw [al_new]; rintro e w1 ⟨g, rfl, s1, b1, f1⟩))
    | (go_at_call 11; go_must (refine (phold_at al1_ok al_h1 g _ b2).mono ?_; rintro e w3 ⟨rfl, b3, f3⟩; have F3 := Fr.own F2 s1 f3))
    | (go_at_call 18; go_must (refine (pdrop_at al3_ok al_d3 g _ b4).mono ?_; rintro e w5 ⟨rfl, b5, f5⟩; have F5 := Fr.own F4 s1 f5))
    | (go_at_call 20; have q := b6; go_must (refine (pcommit_at al_c5 g _ b6).mono ?_; rintro e w7 ⟨rfl, b7, f7⟩; have F7 := Fr.own F6 s1 f7))
    | (go_at_call 20; go_must (refine (pcommit_at al_c2 g _ b3).mono ?_; rintro e w4 ⟨rfl, b4, f4⟩; have F4 := Fr.own F3 s1 f4))
    | (go_at_call 10; have q := b7; go_must (refine (ptake_at al0_ok al_t0 g _ b7).mono ?_; rintro e w8 ⟨rfl, b8, f8⟩; have F8 := Fr.own F7 s1 f8))
    | (go_at_call 10; have q := b5; go_must (refine (ptake_at al4_ok al_t4 g _ b5).mono ?_; rintro e w6 ⟨rfl, b6, f6⟩; have F6 := Fr.own F5 s1 f6))
    | (go_at_call 10; go_must (refine (ptake_at al0_ok al_t0 g _ b1).mono ?_; rintro e w2 ⟨rfl, b2, f2⟩; have F2 := Fr.own f1 s1 f2)))
  go_ret
  exact ⟨rfl, F8⟩
def nmC : List Int := (zerB 240).set 2 1
theorem nmC_len : nmC.length = 240 := by unfold nmC; rw [List.length_set, zerB_len]
theorem nmC_byt : Byt nmC := by
  intro x hx
  rcases List.mem_or_eq_of_mem_set hx with hx | rfl
  · exact zerB_byt 240 x hx
  · decide
theorem nmC_none : plLoad 2 nmC = none := by
  unfold plLoad
  rw [if_neg]
  intro h
  have := List.all_eq_true.1 h 1 (by
    rw [show plN 2 = 2 from rfl, List.mem_iff_getElem]
    exact ⟨0, by rw [List.length_drop, nmC_len]; decide, rfl⟩)
  exact absurd this (by decide)
theorem built_nm : Try.prog.built 30 [(2, .int .u8 1)] = some (pgv nmC).toArray := by kernel_rfl
theorem wpList_bldNm {w : World} {ops : Array Oper} {rest : List Oper} {o : Oper} {a : Act} {Q : Exit → Act → World → Prop} (hgd : Region.wanted o (yielded ops a.tmps) = true) (ho : o.op = .build 30 #[(2, .const (.int .u8 1))]) (C : List Int) (hb : Try.prog.built 30 [(2, .int .u8 1)] = some (pgv C).toArray)
    (h : wpList Try.prog ops Q rest (a.put o.dst (pgV C)) w) : wpList Try.prog ops Q (o :: rest) a w := by
  refine wpList_wanted hgd fun K hK => ?_
  have hrun := run_build (P := Try.prog) w 30 #[(2, .int .u8 1)] _ hb
  unfold Oper.wp
  have hc : a.eval (.const (.int .u8 1)) = .int .u8 1 := rfl
  simp [execOp, ho, hc, hrun, Result.andThen]
  exact hK _ _ h
theorem nil_take : plTake [] = ([], 0, 71) := rfl
theorem nil_hold : plHold [] 0 = ([], 73) := rfl
theorem nil_new : plNew 0 = [] := rfl
theorem nil_ok : plOk [] := by rw [← nil_new]; exact plNew_ok 0
theorem big_new : (plNew 999).length = 240 := by rw [plNew_len]; rfl
set_option maxRecDepth 100000 in
set_option maxHeartbeats 1000000 in
theorem pnames_walk (w : World) :
    Calls Try.prog 3 #[] w fun r w' => r = .returned (.bool true) ∧ Below w.heap.size w w' := by
  have hld := show Hid _ from fun W => pload_any 2 nmC nmC_len nmC_byt none nmC_none W
  obtain ⟨C, HC⟩ : ∃ C, Hid (nmC = C) := ⟨_, rfl⟩
  have hbn := show Hid _ from built_nm
  simp only [HC.out] at hld hbn
  obtain ⟨B, HB⟩ : ∃ B, Hid (plNew 999 = B) := ⟨_, rfl⟩
  have hBl : Hid ((B.length : Int) = 240) := by show _ = _; rw [← HB.out, big_new]; rfl
  go_enter Try.func3, Try.ntmps3
  go_wp2_with (first
    | (go_at_call 9; have q := f4; go_must (refine (pnew_any 999 _).mono ?_; rw [HB.out]; rintro e w6 ⟨g6, rfl, s6, b6, f6⟩))
    | (go_at_call 9; go_must (refine (pnew_any 0 _).mono ?_; rw [nil_new]; rintro e w1 ⟨g, rfl, s1, b1, f1⟩))
    | (go_at_call 10; go_must (refine (ptake_at nil_ok nil_take g _ b1).mono ?_; rintro e w2 ⟨rfl, b2, f2⟩; have F2 := Fr.own f1 s1 f2))
    | (go_at_call 11; go_must (refine (phold_at nil_ok nil_hold g _ b2).mono ?_; rintro e w3 ⟨rfl, b3, f3⟩; have F3 := Fr.own F2 s1 f3))
    | (with_reducible refine at_wpP ?_; refine wpList_bldNm rfl rfl C hbn.out ?_)
    | (go_at_call 12; go_must (refine (hld.out _).mono ?_; rintro e w4 ⟨f4, rfl⟩; have F4 := F3.thenN f4))
    | (go_at_call 13; go_must (refine (palive_any _).mono ?_; rintro e w5 ⟨rfl, f5⟩; have F5 := F4.thenN f5))
    | (go_at_call 14; go_must (refine (psize_any g6 _ b6).mono ?_; rw [hBl.out]; rintro e w7 ⟨rfl, rfl⟩)))
  go_ret
  exact ⟨rfl, (F5.thenN f6).below⟩
end Go.Proofs.Ytghkpeejogldkaa
