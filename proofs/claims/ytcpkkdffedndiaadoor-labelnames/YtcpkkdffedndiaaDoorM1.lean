/- LabelNames: the walk. -/
import Derived.Test.YtcpkkdffedndiaaDoorL9
import Derived.Test.YtcpkkdffedndiaaDoorL5
import Derived.Laws.StructEq
namespace Go.Proofs.YtcpkkdffedndiaaDoor
open Go.RowKit Go.Proofs.U
set_option linter.unusedSimpArgs false
set_option linter.unusedVariables false

theorem nxA (w : World) : Calls Tryd.prog 10 #[lab 1048576 1048576] w fun r w' => r = .returned (.tuple #[lab 0 0, .int .i64 32]) ∧ Fr noB w w' := next_any 1048576 1048576 w ⟨by decide, by decide, by decide, by decide⟩
theorem rsA (w : World) : Calls Tryd.prog 11 #[lab 1048576 1048576] w fun r w' => r = .returned (.tuple #[lab 0 0, .int .i64 33]) ∧ Fr noB w w' := rise_any 1048576 1048576 w ⟨by decide, by decide, by decide, by decide⟩
theorem nxB (w : World) : Calls Tryd.prog 10 #[lab 0 1048577] w fun r w' => r = .returned (.tuple #[lab 0 0, .int .i64 31]) ∧ Fr noB w w' := next_any 0 1048577 w ⟨by decide, by decide, by decide, by decide⟩
theorem last0 (w : World) : Calls Tryd.prog 13 #[.slice none 0 0] w fun r w' => r = .returned (lab 0 0) ∧ Fr noB w w' := last_any (.slice none 0 0) [] w ⟨by simp, Sl.nil w 2⟩ (by simp)

set_option maxHeartbeats 2000000 in
theorem names_walk (w : World) (ht : Tab w) :
    Calls Tryd.prog 3 #[] w fun r w' => r = .returned (.bool true) ∧ Below w.heap.size w w' := by
  go_enter Tryd.func3, Tryd.ntmps3
  go_wp2_with (first
    | (refine wpList_stL rfl _ _ rfl w.heap.size rfl _ _ _ _ rfl (Bx.made w 0 0) ?_; intro w1 b1 f1 z1; obtain ⟨k1, k2, k3, k4⟩ := b1.all)
    | (go_at_call 11; go_must (refine (rsA _).mono ?_; rintro e w4 ⟨rfl, f4⟩))
    | (go_at_call 10; refine (nxB w5).mono ?_; rintro e w6 ⟨rfl, f6⟩)
    | (go_at_call 10; go_must (refine (nxA _).mono ?_; rintro e w2 ⟨rfl, f2⟩; have b2 := b1.fr0 f2))
    | (refine wpList_stL rfl _ _ rfl w6.heap.size rfl _ _ _ _ rfl (Bx.made w6 0 0) ?_; intro w7 b7 f7 z7)
    | (refine wpList_stL rfl _ _ rfl w4.heap.size rfl _ _ _ _ rfl (Bx.made w4 0 0) ?_; intro w5 b5 f5 z5)
    | (refine wpList_stL rfl _ _ rfl w2.heap.size rfl _ _ _ _ rfl (Bx.made w2 0 0) ?_; intro w3 c3 f3 z3; have hb2 := b2.lt; have b3 := (b2.alloc _).fr f3 (fun q => by unfold onL at q; omega); obtain ⟨n1, n2, n3, n4⟩ := b3.all))
  have F1 : Fr noB w w1 := ((Fr.refl _ _).alloc _).thenT f1 (fun i hi q => by unfold onL at q; omega)
  have F2 : Fr noB w w2 := F1.thenN f2
  have F3 : Fr noB w w3 := (F2.alloc _).thenT f3 (fun i hi q => by unfold onL at q; have := F2.size; omega)
  have F4 : Fr noB w w4 := F3.thenN f4
  have F5 : Fr noB w w5 := (F4.alloc _).thenT f5 (fun i hi q => by unfold onL at q; have := F4.size; omega)
  have F6 : Fr noB w w6 := F5.thenN f6
  have F7 : Fr noB w w7 := (F6.alloc _).thenT f7 (fun i hi q => by unfold onL at q; have := F6.size; omega)
  refine (alive_any _ (ht.fr0 F7)).mono ?_
  rintro e w8 ⟨rfl, f8⟩
  go_wp2_with fail
  refine (last0 _).mono ?_
  rintro e w9 ⟨rfl, f9⟩
  go_wp2
  go_ret
  exact ⟨rfl, ((F7.thenN f8).thenN f9).below⟩
end Go.Proofs.YtcpkkdffedndiaaDoor
