/- Contract of the laws' own labelAlive. -/
import Derived.Test.YtcpkkdffedndiaaDoorL8
import Derived.Test.YtcpkkdffedndiaaDoorL4
import Derived.Test.YtcpkkdffedndiaaDoorL3
namespace Go.Proofs.YtcpkkdffedndiaaDoor
open Go.RowKit Go.Proofs.U
set_option linter.unusedSimpArgs false
set_option linter.unusedVariables false

theorem txt26 : (txt 2 6).toList = [50, 46, 54] := by
  unfold txt
  rw [show dig 2 = dig ((2 : Nat) : Int) from rfl, show dig 6 = dig ((6 : Nat) : Int) from rfl, dig_one 2 (by decide), dig_one 6 (by decide)]
  decide +kernel
theorem txt30 : (txt 3 0).toList = [51, 46, 48] := by
  unfold txt
  rw [show dig 3 = dig ((3 : Nat) : Int) from rfl, show dig 0 = dig ((0 : Nat) : Int) from rfl, dig_one 3 (by decide), dig_one 0 (by decide)]
  decide +kernel
theorem nx25 (w : World) : Calls Tryd.prog 10 #[lab 2 5] w fun r w' => r = .returned (.tuple #[lab 2 6, .int .i64 0]) ∧ Fr noB w w' := next_any 2 5 w ⟨by decide, by decide, by decide, by decide⟩
theorem rs25 (w : World) : Calls Tryd.prog 11 #[lab 2 5] w fun r w' => r = .returned (.tuple #[lab 3 0, .int .i64 0]) ∧ Fr noB w w' := rise_any 2 5 w ⟨by decide, by decide, by decide, by decide⟩
theorem cm2 (w : World) : Calls Tryd.prog 18 #[lab 2 5, lab 2 6] w fun r w' => r = .returned (.int .i64 (-1)) ∧ Fr noB w w' := cmp_any 2 5 2 6 w

set_option maxHeartbeats 2000000 in
theorem alive_any (w : World) (ht : Tab w) :
    Calls Tryd.prog 12 #[] w fun r w' => r = .returned (.bool true) ∧ Fr noB w w' := by
  have t1 := txt26
  have t2 := txt30
  obtain ⟨T1, H1⟩ : ∃ T, Hid (txt 2 6 = T) := ⟨_, rfl⟩
  obtain ⟨T2, H2⟩ : ∃ T, Hid (txt 3 0 = T) := ⟨_, rfl⟩
  rw [H1.out] at t1
  rw [H2.out] at t2
  have x1 := fun w ht => text_any 2 6 ⟨by decide, by decide, by decide, by decide⟩ w ht
  have x2 := fun w ht => text_any 3 0 ⟨by decide, by decide, by decide, by decide⟩ w ht
  rw [H1.out] at x1
  rw [H2.out] at x2
  go_enter Tryd.func12, Tryd.ntmps12
  go_wp2_with (first
    | (refine wpList_stL rfl _ _ rfl w.heap.size rfl _ _ _ _ rfl (Bx.made w 0 0) ?_; intro w1 b1 f1 z1; obtain ⟨k1, k2, k3, k4⟩ := b1.all)
    | (go_at_call 10; go_must (refine (nx25 _).mono ?_; rintro e w2 ⟨rfl, f2⟩; have b2 := b1.fr0 f2; obtain ⟨l1, l2, l3, l4⟩ := b2.all))
    | (refine wpList_stL rfl _ _ rfl w2.heap.size rfl _ _ _ _ rfl (Bx.made w2 0 0) ?_; intro w3 c3 f3 z3; obtain ⟨m1, m2, m3, m4⟩ := c3.all; have hb2 := b2.lt; have b3 := (b2.alloc _).fr f3 (fun q => by unfold onL at q; omega); obtain ⟨n1, n2, n3, n4⟩ := b3.all)
    | (go_at_call 11; go_must (refine (rs25 _).mono ?_; rintro e w4 ⟨rfl, f4⟩; have b4 := b3.fr0 f4; have c4 := c3.fr0 f4))
    | (refine wpList_stL rfl _ _ rfl w4.heap.size rfl _ _ _ _ rfl (Bx.made w4 0 0) ?_; intro w5 d5 f5 z5; obtain ⟨o1, o2, o3, o4⟩ := d5.all; have hb4 := b4.lt; have hc4 := c4.lt; have b5 := (b4.alloc _).fr f5 (fun q => by unfold onL at q; omega); have c5 := (c4.alloc _).fr f5 (fun q => by unfold onL at q; omega); obtain ⟨p1, p2, p3, p4⟩ := b5.all; obtain ⟨q1, q2, q3, q4⟩ := c5.all))
  have F1 : Fr noB w w1 := ((Fr.refl _ _).alloc _).thenT f1 (fun i hi q => by unfold onL at q; omega)
  have F2 : Fr noB w w2 := F1.thenN f2
  have F3 : Fr noB w w3 := (F2.alloc _).thenT f3 (fun i hi q => by unfold onL at q; have := F2.size; omega)
  have F4 : Fr noB w w4 := F3.thenN f4
  have F5 : Fr noB w w5 := (F4.alloc _).thenT f5 (fun i hi q => by unfold onL at q; have := F4.size; omega)
  refine (x1 _ (ht.fr0 F5)).mono ?_
  rintro e w6 ⟨rfl, f6⟩
  obtain ⟨r1, r2, r3, r4⟩ := (b5.fr0 f6).all
  obtain ⟨s1, s2, s3, s4⟩ := (c5.fr0 f6).all
  obtain ⟨u1, u2, u3, u4⟩ := (d5.fr0 f6).all
  go_wp2_with fail
  refine (x2 _ (ht.fr0 (F5.thenN f6))).mono ?_
  rintro e w7 ⟨rfl, f7⟩
  obtain ⟨v1, v2, v3, v4⟩ := ((b5.fr0 f6).fr0 f7).all
  obtain ⟨y1, y2, y3, y4⟩ := ((c5.fr0 f6).fr0 f7).all
  go_wp2_with fail
  refine (cm2 _).mono ?_
  rintro e w8 ⟨rfl, f8⟩
  go_wp2
  go_ret
  exact ⟨rfl, ((F5.thenN f6).thenN f7).thenN f8⟩
end Go.Proofs.YtcpkkdffedndiaaDoor
