/- The walk of EndsNames: it answers true. -/
import Derived.Test.YtffdgbimpodopaaB8
namespace Go.Proofs.Ytffdgbimpodopaa
open Go.RowKit Go.Proofs.U

set_option maxHeartbeats 1000000 in
theorem names_walk (w : World) :
    Calls Try.prog 3 #[] w fun e w' => e = .returned (.bool true) ∧ Below w.heap.size w w' := by
  have e1 : nmV [1] 0 false 2 = 0 := by decide
  have e2 : nmT [1] 0 false 2 = 0 := by decide
  have e3 : nmF [1] 0 false 2 = true := by decide
  go_enter Try.func3, Try.ntmps3
  go_wp2_with fail
  refine (put_no 3 _ _ [] [1] _ (SlI.nil _ _) (Sl1 _ _ _ _ (by decide)) (by decide) (by decide)).mono ?_
  rintro e w1 ⟨rfl, hf1⟩
  go_wp2_with fail
  refine (put_no 1 _ _ [] [256] _ (SlI.nil _ _) (Sl1 _ _ _ _ (by decide)) (by decide) (by decide)).mono ?_
  rintro e w2 ⟨rfl, hf2⟩
  go_wp2_with (first
    | (go_at_call 10; go_must (refine (new_any _ [1] _ (Sl1 _ _ _ _ (by decide)) (by decide)).mono ?_; rintro e w3 ⟨b, vb, rfl, hb, hvb, hr3, hf3⟩))
    | (go_at_call 11; go_must (refine (alive_any _).mono ?_; rintro e w4 ⟨rfl, hf4⟩; have hr4 := hr3.fr0 hf4))
    | (go_at_call 12; go_must (refine (num_any _ _ _ _ _ _ _ hr4).mono ?_; rintro e w5 ⟨rfl, hr5, hf5⟩; rw [e2, e3] at hr5))
    | (go_at_call 13; go_must (refine (failed_any _ _ _ _ _ _ hr5).mono ?_; rintro e w6 ⟨rfl, hf6⟩; have hr6 := hr5.fr0 hf6))
    | (go_at_call 14; go_must (refine (left_any _ _ _ _ _ _ hr6).mono ?_; rintro e w7 ⟨rfl, hf7⟩; have hr7 := hr6.fr0 hf7))
    | (go_at_call 15; go_must (refine (ended_any _ _ _ _ _ _ hr7).mono ?_; rintro e w8 ⟨rfl, hf8⟩)))
  go_ret
  refine ⟨rfl, ?_⟩
  have g1 : Fr noB w w1 := ((Fr.refl _ _).alloc _).thenN hf1
  have g2 : Fr noB w w2 := (g1.alloc _).thenN hf2
  have g3 : Fr noB w w3 := (g2.alloc _).thenN hf3
  have s2 := g2.size
  have g5 : Fr noB w w5 := (g3.thenN hf4).thenT hf5 (fun i hi q => by unfold onB at q; simp at hb; omega)
  exact ((((g5.thenN hf6).thenN hf7).thenN hf8)).below
end Go.Proofs.Ytffdgbimpodopaa
