/- Contract of Parse of package label. -/
import Derived.Test.YtcpkkdffedndiaaDoorN1
import Derived.Test.YtcpkkdffedndiaaDoorLB
namespace Go.Proofs.YtcpkkdffedndiaaDoor
open Go.RowKit Go.Proofs.U
set_option linter.unusedSimpArgs false
set_option linter.unusedVariables false

set_option maxHeartbeats 2000000 in
theorem parse_any (s : ByteArray) (hs : s.size ≤ 1000000) (w : World) :
    Calls Tryd.prog 24 #[.string s] w fun e w' => e = .returned (.tuple #[lab ((prs s.data.toList).1 : Int) ((prs s.data.toList).2.1 : Int), .int .i64 ((prs s.data.toList).2.2 : Int)]) ∧ Fr noB w w' := by
  obtain ⟨l, Hl⟩ : ∃ l, Hid (s.data.toList = l) := ⟨_, rfl⟩
  rw [Hl.out]
  obtain ⟨⟨A1, A2⟩, HA⟩ : ∃ A, Hid (numV (cutD l).1 = A) := ⟨_, rfl⟩
  obtain ⟨⟨B1, B2⟩, HB⟩ : ∃ B, Hid (numV (cutD l).2 = B) := ⟨_, rfl⟩
  have hp : prs l = if A2 && B2 then (A1, B1, 0) else (0, 0, 31) := by unfold prs; rw [HA.out, HB.out]
  cases A2 with
  | true =>
    cases B2 with
    | true =>
      have hp : prs l = (A1, B1, 0) := hp
      rw [hp]
      clear hp
      go_enter Tryd.func24, Tryd.ntmps24
      go_wp2_with fail
      refine (cutS_any s hs _).mono ?_
      rintro e w1 ⟨x, y, f, rfl, hx, hy, zx, zy, f1⟩
      have b1 := (Bx.made w 0 0).fr0 f1
      have nx := fun w => numeral_any x (by omega) w
      have ny := fun w => numeral_any y (by omega) w
      rw [hx, Hl.out, HA.out] at nx
      rw [hy, Hl.out, HB.out] at ny
      clear hx hy
      go_wp2_with fail
      refine (nx _).mono ?_
      rintro e w2 ⟨rfl, f2⟩
      have b2 := b1.fr0 f2
      go_wp2_with fail
      refine (ny _).mono ?_
      rintro e w3 ⟨rfl, f3⟩
      have b3 := b2.fr0 f3
      go_wp2_with (with_reducible refine at_wp ?_; refine wpList_stL rfl _ _ rfl w.heap.size rfl _ _ _ _ rfl b3 ?_; intro w4 b4 f4 z4; obtain ⟨n1, n2, n3, n4⟩ := b4.all)
      refine bodyPost_ret (v := .tuple #[lab (A1 : Int) (B1 : Int), .int .i64 0]) (by simp [results, Tryd.results24, go_sem, n1, n2]) rfl ⟨rfl, ?_⟩
      exact ((((Fr.refl _ _).alloc _).thenN f1).thenN f2).thenN f3 |>.thenT f4 (fun i hi q => by unfold onL at q; omega)
    | false =>
      have hp : prs l = (0, 0, 31) := hp
      rw [hp]
      clear hp
      go_enter Tryd.func24, Tryd.ntmps24
      go_wp2_with fail
      refine (cutS_any s hs _).mono ?_
      rintro e w1 ⟨x, y, f, rfl, hx, hy, zx, zy, f1⟩
      have b1 := (Bx.made w 0 0).fr0 f1
      have nx := fun w => numeral_any x (by omega) w
      have ny := fun w => numeral_any y (by omega) w
      rw [hx, Hl.out, HA.out] at nx
      rw [hy, Hl.out, HB.out] at ny
      clear hx hy
      go_wp2_with fail
      refine (nx _).mono ?_
      rintro e w2 ⟨rfl, f2⟩
      have b2 := b1.fr0 f2
      go_wp2_with fail
      refine (ny _).mono ?_
      rintro e w3 ⟨rfl, f3⟩
      have b3 := b2.fr0 f3
      go_wp2_with (with_reducible refine at_wp ?_; refine wpList_stL rfl _ _ rfl w.heap.size rfl _ _ _ _ rfl b3 ?_; intro w4 b4 f4 z4; obtain ⟨n1, n2, n3, n4⟩ := b4.all)
      refine bodyPost_ret (v := .tuple #[lab 0 0, .int .i64 31]) (by simp [results, Tryd.results24, go_sem, n1, n2]) rfl ⟨rfl, ?_⟩
      exact ((((Fr.refl _ _).alloc _).thenN f1).thenN f2).thenN f3 |>.thenT f4 (fun i hi q => by unfold onL at q; omega)
  | false =>
      have hp : prs l = (0, 0, 31) := hp
      rw [hp]
      clear hp
      go_enter Tryd.func24, Tryd.ntmps24
      go_wp2_with fail
      refine (cutS_any s hs _).mono ?_
      rintro e w1 ⟨x, y, f, rfl, hx, hy, zx, zy, f1⟩
      have b1 := (Bx.made w 0 0).fr0 f1
      have nx := fun w => numeral_any x (by omega) w
      have ny := fun w => numeral_any y (by omega) w
      rw [hx, Hl.out, HA.out] at nx
      rw [hy, Hl.out, HB.out] at ny
      clear hx hy
      go_wp2_with fail
      refine (nx _).mono ?_
      rintro e w2 ⟨rfl, f2⟩
      have b2 := b1.fr0 f2
      go_wp2_with fail
      refine (ny _).mono ?_
      rintro e w3 ⟨rfl, f3⟩
      have b3 := b2.fr0 f3
      go_wp2_with (with_reducible refine at_wp ?_; refine wpList_stL rfl _ _ rfl w.heap.size rfl _ _ _ _ rfl b3 ?_; intro w4 b4 f4 z4; obtain ⟨n1, n2, n3, n4⟩ := b4.all)
      refine bodyPost_ret (v := .tuple #[lab 0 0, .int .i64 31]) (by simp [results, Tryd.results24, go_sem, n1, n2]) rfl ⟨rfl, ?_⟩
      exact ((((Fr.refl _ _).alloc _).thenN f1).thenN f2).thenN f3 |>.thenT f4 (fun i hi q => by unfold onL at q; omega)
end Go.Proofs.YtcpkkdffedndiaaDoor
