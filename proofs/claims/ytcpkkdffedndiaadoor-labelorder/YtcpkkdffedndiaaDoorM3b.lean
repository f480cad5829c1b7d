/- LabelOrder: the rest of the walk. -/
import Derived.Test.YtcpkkdffedndiaaDoorM3
namespace Go.Proofs.YtcpkkdffedndiaaDoor
open Go.RowKit Go.Proofs.U
set_option linter.unusedSimpArgs false
set_option linter.unusedVariables false

set_option maxRecDepth 100000 in
set_option maxHeartbeats 4000000 in
theorem o5 (a1 a2 b2 c1 c2 : Int) (N R : Int × Int × Int) (Y Z : Int) (w : World) (ht : Tab w)
    (cN : ∀ w, Calls Tryd.prog 10 #[lab a1 a2] w fun r w' => r = .returned (labE N) ∧ Fr noB w w')
    (cR : ∀ w, Calls Tryd.prog 11 #[lab a1 a2] w fun r w' => r = .returned (labE R) ∧ Fr noB w w')
    (hab : cmpL a1 a2 a1 b2 = -1) (hba : cmpL a1 b2 a1 a2 = 1) (hne : (a2 == b2) = false) (hbc : cmpL a1 b2 c1 c2 = Y) (hy : ¬ Y ≤ 0)
    (hN : Hid ((N.2.2 = 0 ∧ cmpL a1 a2 N.1 N.2.1 = -1 ∧ ∃ V, cmpL a1 b2 N.1 N.2.1 = V ∧ 0 ≤ V) ∨ (N.2.2 == 0) = false))
    (hR : Hid ((R.2.2 = 0 ∧ cmpL a1 a2 R.1 R.2.1 = -1 ∧ cmpL a1 b2 R.1 R.2.1 = -1) ∨ ¬ R.2.2 = 0)) :
    Calls Tryd.prog 8 #[lab a1 a2, lab a1 b2, lab c1 c2] w fun r w' => r = .returned (.bool true) ∧ Below w.heap.size w w' := by
  have I : Tri (((w.alloc (.cells #[.int .u32 a1, .int .u32 a2] 24)).alloc (.cells #[.int .u32 a1, .int .u32 b2] 24)).alloc (.cells #[.int .u32 c1, .int .u32 c2] 24)) w.heap.size a1 a2 a1 b2 c1 c2 := tri_made w a1 a2 a1 b2 c1 c2
  have F : Fr noB w (((w.alloc (.cells #[.int .u32 a1, .int .u32 a2] 24)).alloc (.cells #[.int .u32 a1, .int .u32 b2] 24)).alloc (.cells #[.int .u32 c1, .int .u32 c2] 24)) := (((Fr.refl _ _).alloc _).alloc _).alloc _
  go_enter Tryd.func8, Tryd.ntmps8
  go_wp2_with (first
    | (go_at_call 12; go_must (refine (alive_any _ (ht.fr0 F)).mono ?_; rintro e wz ⟨rfl, fz⟩; have F := F.thenN fz; have I := I.fr0 fz; obtain ⟨⟨i1, i2⟩, ⟨i3, i4⟩, ⟨i5, i6⟩⟩ := I.all))
    | (go_at_call 18; go_must (refine (cmp_any _ _ _ _ _).mono ?_; rintro e wz ⟨rfl, fz⟩; have F := F.thenN fz; have I := I.fr0 fz; obtain ⟨⟨i1, i2⟩, ⟨i3, i4⟩, ⟨i5, i6⟩⟩ := I.all)))
  refine (cN _).mono ?_
  rintro e w2 ⟨rfl, f2⟩
  have F := F.thenN f2
  have I := I.fr0 f2
  clear i1 i2 i3 i4 i5 i6
  rcases hN.out with ⟨hN0, han, hbn⟩ | hN0
  rotate_left
  · clear cN
    go_wp2_with (first
      | (with_reducible refine at_wp ?_; refine wpList_stL rfl _ _ rfl w2.heap.size rfl _ _ _ _ rfl (Bx.made w2 0 0) ?_; intro wz J fz zz; have I := I.fr _ rfl fz; have F := ac2 (g := 0) F _ fz; obtain ⟨⟨i1, i2⟩, ⟨i3, i4⟩, ⟨i5, i6⟩⟩ := I.all; obtain ⟨j1, j2, j3, j4⟩ := J.all)
      | (go_at_call 18; go_must (refine (cmp_any _ _ _ _ _).mono ?_; rintro e wz ⟨rfl, fz⟩; have F := F.thenN fz; have I := I.fr0 fz; have J := J.fr0 fz; obtain ⟨⟨i1, i2⟩, ⟨i3, i4⟩, ⟨i5, i6⟩⟩ := I.all; obtain ⟨j1, j2, j3, j4⟩ := J.all)))
    refine (cR _).mono ?_
    rintro e w4 ⟨rfl, f4⟩
    have F := F.thenN f4
    have I := I.fr0 f4
    clear i1 i2 i3 i4 i5 i6
    rcases hR.out with ⟨hR0, har, hbr⟩ | hR0
    all_goals
      go_wp2_with (first
        | (with_reducible refine at_wp ?_; refine wpList_stL rfl _ _ rfl w4.heap.size rfl _ _ _ _ rfl (Bx.made w4 0 0) ?_; intro wz K fz zz; have I := I.fr _ rfl fz; have F := ac2 (g := 0) F _ fz; obtain ⟨⟨i1, i2⟩, ⟨i3, i4⟩, ⟨i5, i6⟩⟩ := I.all; obtain ⟨j1, j2, j3, j4⟩ := K.all)
        | (go_at_call 18; go_must (refine (cmp_any _ _ _ _ _).mono ?_; rintro e wz ⟨rfl, fz⟩; have F := F.thenN fz; have I := I.fr0 fz; have K := K.fr0 fz; obtain ⟨⟨i1, i2⟩, ⟨i3, i4⟩, ⟨i5, i6⟩⟩ := I.all; obtain ⟨j1, j2, j3, j4⟩ := K.all)))
      go_ret
      exact ⟨rfl, F.below⟩
  · clear cN
    obtain ⟨V, hbn, hV⟩ := hbn
    go_wp2_with (first
      | (with_reducible refine at_wp ?_; refine wpList_stL rfl _ _ rfl w2.heap.size rfl _ _ _ _ rfl (Bx.made w2 0 0) ?_; intro wz J fz zz; have I := I.fr _ rfl fz; have F := ac2 (g := 0) F _ fz; obtain ⟨⟨i1, i2⟩, ⟨i3, i4⟩, ⟨i5, i6⟩⟩ := I.all; obtain ⟨j1, j2, j3, j4⟩ := J.all)
      | (go_at_call 18; go_must (refine (cmp_any _ _ _ _ _).mono ?_; rintro e wz ⟨rfl, fz⟩; have F := F.thenN fz; have I := I.fr0 fz; have J := J.fr0 fz; obtain ⟨⟨i1, i2⟩, ⟨i3, i4⟩, ⟨i5, i6⟩⟩ := I.all; obtain ⟨j1, j2, j3, j4⟩ := J.all)))
    refine (cR _).mono ?_
    rintro e w4 ⟨rfl, f4⟩
    have F := F.thenN f4
    have I := I.fr0 f4
    clear i1 i2 i3 i4 i5 i6
    rcases hR.out with ⟨hR0, har, hbr⟩ | hR0
    all_goals
      go_wp2_with (first
        | (with_reducible refine at_wp ?_; refine wpList_stL rfl _ _ rfl w4.heap.size rfl _ _ _ _ rfl (Bx.made w4 0 0) ?_; intro wz K fz zz; have I := I.fr _ rfl fz; have F := ac2 (g := 0) F _ fz; obtain ⟨⟨i1, i2⟩, ⟨i3, i4⟩, ⟨i5, i6⟩⟩ := I.all; obtain ⟨j1, j2, j3, j4⟩ := K.all)
        | (go_at_call 18; go_must (refine (cmp_any _ _ _ _ _).mono ?_; rintro e wz ⟨rfl, fz⟩; have F := F.thenN fz; have I := I.fr0 fz; have K := K.fr0 fz; obtain ⟨⟨i1, i2⟩, ⟨i3, i4⟩, ⟨i5, i6⟩⟩ := I.all; obtain ⟨j1, j2, j3, j4⟩ := K.all)))
      go_ret
      exact ⟨rfl, F.below⟩

set_option maxRecDepth 100000 in
set_option maxHeartbeats 4000000 in
theorem o6 (a1 a2 b2 c1 c2 : Int) (N R : Int × Int × Int) (Y Z : Int) (w : World) (ht : Tab w)
    (cN : ∀ w, Calls Tryd.prog 10 #[lab a1 a2] w fun r w' => r = .returned (labE N) ∧ Fr noB w w')
    (cR : ∀ w, Calls Tryd.prog 11 #[lab a1 a2] w fun r w' => r = .returned (labE R) ∧ Fr noB w w')
    (hab : cmpL a1 a2 a1 b2 = 1) (hba : cmpL a1 b2 a1 a2 = -1) (hne : (a2 == b2) = false) 
    (hN : Hid ((N.2.2 = 0 ∧ cmpL a1 a2 N.1 N.2.1 = -1 ∧ True) ∨ (N.2.2 == 0) = false))
    (hR : Hid ((R.2.2 = 0 ∧ cmpL a1 a2 R.1 R.2.1 = -1 ∧ cmpL a1 b2 R.1 R.2.1 = -1) ∨ ¬ R.2.2 = 0)) :
    Calls Tryd.prog 8 #[lab a1 a2, lab a1 b2, lab c1 c2] w fun r w' => r = .returned (.bool true) ∧ Below w.heap.size w w' := by
  have I : Tri (((w.alloc (.cells #[.int .u32 a1, .int .u32 a2] 24)).alloc (.cells #[.int .u32 a1, .int .u32 b2] 24)).alloc (.cells #[.int .u32 c1, .int .u32 c2] 24)) w.heap.size a1 a2 a1 b2 c1 c2 := tri_made w a1 a2 a1 b2 c1 c2
  have F : Fr noB w (((w.alloc (.cells #[.int .u32 a1, .int .u32 a2] 24)).alloc (.cells #[.int .u32 a1, .int .u32 b2] 24)).alloc (.cells #[.int .u32 c1, .int .u32 c2] 24)) := (((Fr.refl _ _).alloc _).alloc _).alloc _
  go_enter Tryd.func8, Tryd.ntmps8
  go_wp2_with (first
    | (go_at_call 12; go_must (refine (alive_any _ (ht.fr0 F)).mono ?_; rintro e wz ⟨rfl, fz⟩; have F := F.thenN fz; have I := I.fr0 fz; obtain ⟨⟨i1, i2⟩, ⟨i3, i4⟩, ⟨i5, i6⟩⟩ := I.all))
    | (go_at_call 18; go_must (refine (cmp_any _ _ _ _ _).mono ?_; rintro e wz ⟨rfl, fz⟩; have F := F.thenN fz; have I := I.fr0 fz; obtain ⟨⟨i1, i2⟩, ⟨i3, i4⟩, ⟨i5, i6⟩⟩ := I.all)))
  refine (cN _).mono ?_
  rintro e w2 ⟨rfl, f2⟩
  have F := F.thenN f2
  have I := I.fr0 f2
  clear i1 i2 i3 i4 i5 i6
  rcases hN.out with ⟨hN0, han, hbn⟩ | hN0
  rotate_left
  · clear cN
    go_wp2_with (first
      | (with_reducible refine at_wp ?_; refine wpList_stL rfl _ _ rfl w2.heap.size rfl _ _ _ _ rfl (Bx.made w2 0 0) ?_; intro wz J fz zz; have I := I.fr _ rfl fz; have F := ac2 (g := 0) F _ fz; obtain ⟨⟨i1, i2⟩, ⟨i3, i4⟩, ⟨i5, i6⟩⟩ := I.all; obtain ⟨j1, j2, j3, j4⟩ := J.all)
      | (go_at_call 18; go_must (refine (cmp_any _ _ _ _ _).mono ?_; rintro e wz ⟨rfl, fz⟩; have F := F.thenN fz; have I := I.fr0 fz; have J := J.fr0 fz; obtain ⟨⟨i1, i2⟩, ⟨i3, i4⟩, ⟨i5, i6⟩⟩ := I.all; obtain ⟨j1, j2, j3, j4⟩ := J.all)))
    refine (cR _).mono ?_
    rintro e w4 ⟨rfl, f4⟩
    have F := F.thenN f4
    have I := I.fr0 f4
    clear i1 i2 i3 i4 i5 i6
    rcases hR.out with ⟨hR0, har, hbr⟩ | hR0
    all_goals
      go_wp2_with (first
        | (with_reducible refine at_wp ?_; refine wpList_stL rfl _ _ rfl w4.heap.size rfl _ _ _ _ rfl (Bx.made w4 0 0) ?_; intro wz K fz zz; have I := I.fr _ rfl fz; have F := ac2 (g := 0) F _ fz; obtain ⟨⟨i1, i2⟩, ⟨i3, i4⟩, ⟨i5, i6⟩⟩ := I.all; obtain ⟨j1, j2, j3, j4⟩ := K.all)
        | (go_at_call 18; go_must (refine (cmp_any _ _ _ _ _).mono ?_; rintro e wz ⟨rfl, fz⟩; have F := F.thenN fz; have I := I.fr0 fz; have K := K.fr0 fz; obtain ⟨⟨i1, i2⟩, ⟨i3, i4⟩, ⟨i5, i6⟩⟩ := I.all; obtain ⟨j1, j2, j3, j4⟩ := K.all)))
      go_ret
      exact ⟨rfl, F.below⟩
  · clear cN
    go_wp2_with (first
      | (with_reducible refine at_wp ?_; refine wpList_stL rfl _ _ rfl w2.heap.size rfl _ _ _ _ rfl (Bx.made w2 0 0) ?_; intro wz J fz zz; have I := I.fr _ rfl fz; have F := ac2 (g := 0) F _ fz; obtain ⟨⟨i1, i2⟩, ⟨i3, i4⟩, ⟨i5, i6⟩⟩ := I.all; obtain ⟨j1, j2, j3, j4⟩ := J.all)
      | (go_at_call 18; go_must (refine (cmp_any _ _ _ _ _).mono ?_; rintro e wz ⟨rfl, fz⟩; have F := F.thenN fz; have I := I.fr0 fz; have J := J.fr0 fz; obtain ⟨⟨i1, i2⟩, ⟨i3, i4⟩, ⟨i5, i6⟩⟩ := I.all; obtain ⟨j1, j2, j3, j4⟩ := J.all)))
    refine (cR _).mono ?_
    rintro e w4 ⟨rfl, f4⟩
    have F := F.thenN f4
    have I := I.fr0 f4
    clear i1 i2 i3 i4 i5 i6
    rcases hR.out with ⟨hR0, har, hbr⟩ | hR0
    all_goals
      go_wp2_with (first
        | (with_reducible refine at_wp ?_; refine wpList_stL rfl _ _ rfl w4.heap.size rfl _ _ _ _ rfl (Bx.made w4 0 0) ?_; intro wz K fz zz; have I := I.fr _ rfl fz; have F := ac2 (g := 0) F _ fz; obtain ⟨⟨i1, i2⟩, ⟨i3, i4⟩, ⟨i5, i6⟩⟩ := I.all; obtain ⟨j1, j2, j3, j4⟩ := K.all)
        | (go_at_call 18; go_must (refine (cmp_any _ _ _ _ _).mono ?_; rintro e wz ⟨rfl, fz⟩; have F := F.thenN fz; have I := I.fr0 fz; have K := K.fr0 fz; obtain ⟨⟨i1, i2⟩, ⟨i3, i4⟩, ⟨i5, i6⟩⟩ := I.all; obtain ⟨j1, j2, j3, j4⟩ := K.all)))
      go_ret
      exact ⟨rfl, F.below⟩

set_option maxRecDepth 100000 in
set_option maxHeartbeats 4000000 in
theorem o7 (a1 a2 c1 c2 : Int) (N R : Int × Int × Int) (Y Z : Int) (w : World) (ht : Tab w)
    (cN : ∀ w, Calls Tryd.prog 10 #[lab a1 a2] w fun r w' => r = .returned (labE N) ∧ Fr noB w w')
    (cR : ∀ w, Calls Tryd.prog 11 #[lab a1 a2] w fun r w' => r = .returned (labE R) ∧ Fr noB w w')
    (hab : cmpL a1 a2 a1 a2 = 0) (hbc : cmpL a1 a2 c1 c2 = Y) (hy : Y ≤ 0) (hac : cmpL a1 a2 c1 c2 = Z) (hz : Z ≤ 0)
    (hN : Hid ((N.2.2 = 0 ∧ cmpL a1 a2 N.1 N.2.1 = -1 ∧ True) ∨ (N.2.2 == 0) = false))
    (hR : Hid ((R.2.2 = 0 ∧ cmpL a1 a2 R.1 R.2.1 = -1 ∧ cmpL a1 a2 R.1 R.2.1 = -1) ∨ ¬ R.2.2 = 0)) :
    Calls Tryd.prog 8 #[lab a1 a2, lab a1 a2, lab c1 c2] w fun r w' => r = .returned (.bool true) ∧ Below w.heap.size w w' := by
  have I : Tri (((w.alloc (.cells #[.int .u32 a1, .int .u32 a2] 24)).alloc (.cells #[.int .u32 a1, .int .u32 a2] 24)).alloc (.cells #[.int .u32 c1, .int .u32 c2] 24)) w.heap.size a1 a2 a1 a2 c1 c2 := tri_made w a1 a2 a1 a2 c1 c2
  have F : Fr noB w (((w.alloc (.cells #[.int .u32 a1, .int .u32 a2] 24)).alloc (.cells #[.int .u32 a1, .int .u32 a2] 24)).alloc (.cells #[.int .u32 c1, .int .u32 c2] 24)) := (((Fr.refl _ _).alloc _).alloc _).alloc _
  go_enter Tryd.func8, Tryd.ntmps8
  go_wp2_with (first
    | (go_at_call 12; go_must (refine (alive_any _ (ht.fr0 F)).mono ?_; rintro e wz ⟨rfl, fz⟩; have F := F.thenN fz; have I := I.fr0 fz; obtain ⟨⟨i1, i2⟩, ⟨i3, i4⟩, ⟨i5, i6⟩⟩ := I.all))
    | (go_at_call 18; go_must (refine (cmp_any _ _ _ _ _).mono ?_; rintro e wz ⟨rfl, fz⟩; have F := F.thenN fz; have I := I.fr0 fz; obtain ⟨⟨i1, i2⟩, ⟨i3, i4⟩, ⟨i5, i6⟩⟩ := I.all)))
  refine (cN _).mono ?_
  rintro e w2 ⟨rfl, f2⟩
  have F := F.thenN f2
  have I := I.fr0 f2
  clear i1 i2 i3 i4 i5 i6
  rcases hN.out with ⟨hN0, han, hbn⟩ | hN0
  rotate_left
  · clear cN
    go_wp2_with (first
      | (with_reducible refine at_wp ?_; refine wpList_stL rfl _ _ rfl w2.heap.size rfl _ _ _ _ rfl (Bx.made w2 0 0) ?_; intro wz J fz zz; have I := I.fr _ rfl fz; have F := ac2 (g := 0) F _ fz; obtain ⟨⟨i1, i2⟩, ⟨i3, i4⟩, ⟨i5, i6⟩⟩ := I.all; obtain ⟨j1, j2, j3, j4⟩ := J.all)
      | (go_at_call 18; go_must (refine (cmp_any _ _ _ _ _).mono ?_; rintro e wz ⟨rfl, fz⟩; have F := F.thenN fz; have I := I.fr0 fz; have J := J.fr0 fz; obtain ⟨⟨i1, i2⟩, ⟨i3, i4⟩, ⟨i5, i6⟩⟩ := I.all; obtain ⟨j1, j2, j3, j4⟩ := J.all)))
    refine (cR _).mono ?_
    rintro e w4 ⟨rfl, f4⟩
    have F := F.thenN f4
    have I := I.fr0 f4
    clear i1 i2 i3 i4 i5 i6
    rcases hR.out with ⟨hR0, har, hbr⟩ | hR0
    all_goals
      go_wp2_with (first
        | (with_reducible refine at_wp ?_; refine wpList_stL rfl _ _ rfl w4.heap.size rfl _ _ _ _ rfl (Bx.made w4 0 0) ?_; intro wz K fz zz; have I := I.fr _ rfl fz; have F := ac2 (g := 0) F _ fz; obtain ⟨⟨i1, i2⟩, ⟨i3, i4⟩, ⟨i5, i6⟩⟩ := I.all; obtain ⟨j1, j2, j3, j4⟩ := K.all)
        | (go_at_call 18; go_must (refine (cmp_any _ _ _ _ _).mono ?_; rintro e wz ⟨rfl, fz⟩; have F := F.thenN fz; have I := I.fr0 fz; have K := K.fr0 fz; obtain ⟨⟨i1, i2⟩, ⟨i3, i4⟩, ⟨i5, i6⟩⟩ := I.all; obtain ⟨j1, j2, j3, j4⟩ := K.all)))
      go_ret
      exact ⟨rfl, F.below⟩
  · clear cN
    go_wp2_with (first
      | (with_reducible refine at_wp ?_; refine wpList_stL rfl _ _ rfl w2.heap.size rfl _ _ _ _ rfl (Bx.made w2 0 0) ?_; intro wz J fz zz; have I := I.fr _ rfl fz; have F := ac2 (g := 0) F _ fz; obtain ⟨⟨i1, i2⟩, ⟨i3, i4⟩, ⟨i5, i6⟩⟩ := I.all; obtain ⟨j1, j2, j3, j4⟩ := J.all)
      | (go_at_call 18; go_must (refine (cmp_any _ _ _ _ _).mono ?_; rintro e wz ⟨rfl, fz⟩; have F := F.thenN fz; have I := I.fr0 fz; have J := J.fr0 fz; obtain ⟨⟨i1, i2⟩, ⟨i3, i4⟩, ⟨i5, i6⟩⟩ := I.all; obtain ⟨j1, j2, j3, j4⟩ := J.all)))
    refine (cR _).mono ?_
    rintro e w4 ⟨rfl, f4⟩
    have F := F.thenN f4
    have I := I.fr0 f4
    clear i1 i2 i3 i4 i5 i6
    rcases hR.out with ⟨hR0, har, hbr⟩ | hR0
    all_goals
      go_wp2_with (first
        | (with_reducible refine at_wp ?_; refine wpList_stL rfl _ _ rfl w4.heap.size rfl _ _ _ _ rfl (Bx.made w4 0 0) ?_; intro wz K fz zz; have I := I.fr _ rfl fz; have F := ac2 (g := 0) F _ fz; obtain ⟨⟨i1, i2⟩, ⟨i3, i4⟩, ⟨i5, i6⟩⟩ := I.all; obtain ⟨j1, j2, j3, j4⟩ := K.all)
        | (go_at_call 18; go_must (refine (cmp_any _ _ _ _ _).mono ?_; rintro e wz ⟨rfl, fz⟩; have F := F.thenN fz; have I := I.fr0 fz; have K := K.fr0 fz; obtain ⟨⟨i1, i2⟩, ⟨i3, i4⟩, ⟨i5, i6⟩⟩ := I.all; obtain ⟨j1, j2, j3, j4⟩ := K.all)))
      go_ret
      exact ⟨rfl, F.below⟩

set_option maxRecDepth 100000 in
set_option maxHeartbeats 4000000 in
theorem o8 (a1 a2 c1 c2 : Int) (N R : Int × Int × Int) (Y Z : Int) (w : World) (ht : Tab w)
    (cN : ∀ w, Calls Tryd.prog 10 #[lab a1 a2] w fun r w' => r = .returned (labE N) ∧ Fr noB w w')
    (cR : ∀ w, Calls Tryd.prog 11 #[lab a1 a2] w fun r w' => r = .returned (labE R) ∧ Fr noB w w')
    (hab : cmpL a1 a2 a1 a2 = 0) (hbc : cmpL a1 a2 c1 c2 = Y) (hy : ¬ Y ≤ 0)
    (hN : Hid ((N.2.2 = 0 ∧ cmpL a1 a2 N.1 N.2.1 = -1 ∧ True) ∨ (N.2.2 == 0) = false))
    (hR : Hid ((R.2.2 = 0 ∧ cmpL a1 a2 R.1 R.2.1 = -1 ∧ cmpL a1 a2 R.1 R.2.1 = -1) ∨ ¬ R.2.2 = 0)) :
    Calls Tryd.prog 8 #[lab a1 a2, lab a1 a2, lab c1 c2] w fun r w' => r = .returned (.bool true) ∧ Below w.heap.size w w' := by
  have I : Tri (((w.alloc (.cells #[.int .u32 a1, .int .u32 a2] 24)).alloc (.cells #[.int .u32 a1, .int .u32 a2] 24)).alloc (.cells #[.int .u32 c1, .int .u32 c2] 24)) w.heap.size a1 a2 a1 a2 c1 c2 := tri_made w a1 a2 a1 a2 c1 c2
  have F : Fr noB w (((w.alloc (.cells #[.int .u32 a1, .int .u32 a2] 24)).alloc (.cells #[.int .u32 a1, .int .u32 a2] 24)).alloc (.cells #[.int .u32 c1, .int .u32 c2] 24)) := (((Fr.refl _ _).alloc _).alloc _).alloc _
  go_enter Tryd.func8, Tryd.ntmps8
  go_wp2_with (first
    | (go_at_call 12; go_must (refine (alive_any _ (ht.fr0 F)).mono ?_; rintro e wz ⟨rfl, fz⟩; have F := F.thenN fz; have I := I.fr0 fz; obtain ⟨⟨i1, i2⟩, ⟨i3, i4⟩, ⟨i5, i6⟩⟩ := I.all))
    | (go_at_call 18; go_must (refine (cmp_any _ _ _ _ _).mono ?_; rintro e wz ⟨rfl, fz⟩; have F := F.thenN fz; have I := I.fr0 fz; obtain ⟨⟨i1, i2⟩, ⟨i3, i4⟩, ⟨i5, i6⟩⟩ := I.all)))
  refine (cN _).mono ?_
  rintro e w2 ⟨rfl, f2⟩
  have F := F.thenN f2
  have I := I.fr0 f2
  clear i1 i2 i3 i4 i5 i6
  rcases hN.out with ⟨hN0, han, hbn⟩ | hN0
  rotate_left
  · clear cN
    go_wp2_with (first
      | (with_reducible refine at_wp ?_; refine wpList_stL rfl _ _ rfl w2.heap.size rfl _ _ _ _ rfl (Bx.made w2 0 0) ?_; intro wz J fz zz; have I := I.fr _ rfl fz; have F := ac2 (g := 0) F _ fz; obtain ⟨⟨i1, i2⟩, ⟨i3, i4⟩, ⟨i5, i6⟩⟩ := I.all; obtain ⟨j1, j2, j3, j4⟩ := J.all)
      | (go_at_call 18; go_must (refine (cmp_any _ _ _ _ _).mono ?_; rintro e wz ⟨rfl, fz⟩; have F := F.thenN fz; have I := I.fr0 fz; have J := J.fr0 fz; obtain ⟨⟨i1, i2⟩, ⟨i3, i4⟩, ⟨i5, i6⟩⟩ := I.all; obtain ⟨j1, j2, j3, j4⟩ := J.all)))
    refine (cR _).mono ?_
    rintro e w4 ⟨rfl, f4⟩
    have F := F.thenN f4
    have I := I.fr0 f4
    clear i1 i2 i3 i4 i5 i6
    rcases hR.out with ⟨hR0, har, hbr⟩ | hR0
    all_goals
      go_wp2_with (first
        | (with_reducible refine at_wp ?_; refine wpList_stL rfl _ _ rfl w4.heap.size rfl _ _ _ _ rfl (Bx.made w4 0 0) ?_; intro wz K fz zz; have I := I.fr _ rfl fz; have F := ac2 (g := 0) F _ fz; obtain ⟨⟨i1, i2⟩, ⟨i3, i4⟩, ⟨i5, i6⟩⟩ := I.all; obtain ⟨j1, j2, j3, j4⟩ := K.all)
        | (go_at_call 18; go_must (refine (cmp_any _ _ _ _ _).mono ?_; rintro e wz ⟨rfl, fz⟩; have F := F.thenN fz; have I := I.fr0 fz; have K := K.fr0 fz; obtain ⟨⟨i1, i2⟩, ⟨i3, i4⟩, ⟨i5, i6⟩⟩ := I.all; obtain ⟨j1, j2, j3, j4⟩ := K.all)))
      go_ret
      exact ⟨rfl, F.below⟩
  · clear cN
    go_wp2_with (first
      | (with_reducible refine at_wp ?_; refine wpList_stL rfl _ _ rfl w2.heap.size rfl _ _ _ _ rfl (Bx.made w2 0 0) ?_; intro wz J fz zz; have I := I.fr _ rfl fz; have F := ac2 (g := 0) F _ fz; obtain ⟨⟨i1, i2⟩, ⟨i3, i4⟩, ⟨i5, i6⟩⟩ := I.all; obtain ⟨j1, j2, j3, j4⟩ := J.all)
      | (go_at_call 18; go_must (refine (cmp_any _ _ _ _ _).mono ?_; rintro e wz ⟨rfl, fz⟩; have F := F.thenN fz; have I := I.fr0 fz; have J := J.fr0 fz; obtain ⟨⟨i1, i2⟩, ⟨i3, i4⟩, ⟨i5, i6⟩⟩ := I.all; obtain ⟨j1, j2, j3, j4⟩ := J.all)))
    refine (cR _).mono ?_
    rintro e w4 ⟨rfl, f4⟩
    have F := F.thenN f4
    have I := I.fr0 f4
    clear i1 i2 i3 i4 i5 i6
    rcases hR.out with ⟨hR0, har, hbr⟩ | hR0
    all_goals
      go_wp2_with (first
        | (with_reducible refine at_wp ?_; refine wpList_stL rfl _ _ rfl w4.heap.size rfl _ _ _ _ rfl (Bx.made w4 0 0) ?_; intro wz K fz zz; have I := I.fr _ rfl fz; have F := ac2 (g := 0) F _ fz; obtain ⟨⟨i1, i2⟩, ⟨i3, i4⟩, ⟨i5, i6⟩⟩ := I.all; obtain ⟨j1, j2, j3, j4⟩ := K.all)
        | (go_at_call 18; go_must (refine (cmp_any _ _ _ _ _).mono ?_; rintro e wz ⟨rfl, fz⟩; have F := F.thenN fz; have I := I.fr0 fz; have K := K.fr0 fz; obtain ⟨⟨i1, i2⟩, ⟨i3, i4⟩, ⟨i5, i6⟩⟩ := I.all; obtain ⟨j1, j2, j3, j4⟩ := K.all)))
      go_ret
      exact ⟨rfl, F.below⟩
end Go.Proofs.YtcpkkdffedndiaaDoor
