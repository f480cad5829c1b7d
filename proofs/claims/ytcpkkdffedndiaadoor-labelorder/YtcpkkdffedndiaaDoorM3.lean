/- LabelOrder: the walk. -/
import Derived.Test.YtcpkkdffedndiaaDoorM2
namespace Go.Proofs.YtcpkkdffedndiaaDoor
open Go.RowKit Go.Proofs.U
set_option linter.unusedSimpArgs false
set_option linter.unusedVariables false

theorem cmpL_bd (a b c d : Int) : -1 ≤ cmpL a b c d ∧ cmpL a b c d ≤ 1 := by
  unfold cmpL c1; repeat' split
  all_goals omega
theorem cmpL_neg (a b c d : Int) : cmpL c d a b = -cmpL a b c d := by
  unfold cmpL c1; repeat' split
  all_goals omega
theorem cmpL_zero (a b c d : Int) : (cmpL a b c d == 0) = (a == c && b == d) := by
  unfold cmpL c1
  by_cases h1 : a < c
  · have : (a == c) = false := by simp; omega
    simp [h1, this]
  · by_cases h2 : c < a
    · have : (a == c) = false := by simp; omega
      simp [h1, h2, this]
    · have h3 : a = c := by omega
      subst h3
      by_cases h4 : b < d
      · have : (b == d) = false := by simp; omega
        simp [h4, this]
      · by_cases h5 : d < b
        · have : (b == d) = false := by simp; omega
          simp [h4, h5, this]
        · have : b = d := by omega
          simp [this]
theorem cmpL_trans (a b c d e f : Int) (h1 : cmpL a b c d ≤ 0) (h2 : cmpL c d e f ≤ 0) : cmpL a b e f ≤ 0 := by
  unfold cmpL c1 at h1 h2 ⊢
  repeat' split
  all_goals (repeat' split at h1; all_goals (repeat' split at h2; all_goals omega))

/-- Three boxes. -/
structure Tri (w : World) (n : Nat) (a1 a2 b1 b2 c1 c2 : Int) : Prop where
  a : Bx w n a1 a2
  b : Bx w (n + 1) b1 b2
  c : Bx w (n + 2) c1 c2
theorem Tri.fr0 {w w' : World} {n : Nat} {a1 a2 b1 b2 c1 c2 : Int} (h : Tri w n a1 a2 b1 b2 c1 c2) (f : Fr noB w w') : Tri w' n a1 a2 b1 b2 c1 c2 := ⟨h.a.fr0 f, h.b.fr0 f, h.c.fr0 f⟩
theorem Tri.fr {w w' : World} {n g : Nat} {a1 a2 b1 b2 c1 c2 : Int} (h : Tri w n a1 a2 b1 b2 c1 c2) (o : Obj) (hg : w.heap.size = g) (f : Fr (onL g) (w.alloc o) w') : Tri w' n a1 a2 b1 b2 c1 c2 := by
  have := h.a.lt; have := h.b.lt; have := h.c.lt
  exact ⟨(h.a.alloc o).fr f (fun q => by unfold onL at q; omega), (h.b.alloc o).fr f (fun q => by unfold onL at q; omega), (h.c.alloc o).fr f (fun q => by unfold onL at q; omega)⟩
theorem Tri.all {w : World} {n : Nat} {a1 a2 b1 b2 c1 c2 : Int} (h : Tri w n a1 a2 b1 b2 c1 c2) :
    (w.cell? ⟨n, 0, none⟩ = some (.int .u32 a1) ∧ w.cell? ⟨n, 1, none⟩ = some (.int .u32 a2)) ∧ (w.cell? ⟨n + 1, 0, none⟩ = some (.int .u32 b1) ∧ w.cell? ⟨n + 1, 1, none⟩ = some (.int .u32 b2)) ∧ (w.cell? ⟨n + 2, 0, none⟩ = some (.int .u32 c1) ∧ w.cell? ⟨n + 2, 1, none⟩ = some (.int .u32 c2)) :=
  ⟨⟨h.a.all.1, h.a.all.2.1⟩, ⟨h.b.all.1, h.b.all.2.1⟩, ⟨h.c.all.1, h.c.all.2.1⟩⟩
theorem Bx.fr2 {w w' : World} {n g : Nat} {a1 a2 : Int} (h : Bx w n a1 a2) (o : Obj) (hg : w.heap.size = g) (f : Fr (onL g) (w.alloc o) w') : Bx w' n a1 a2 := by
  have := h.lt
  exact (h.alloc o).fr f (fun q => by unfold onL at q; omega)

theorem tri_made (w : World) (a1 a2 b1 b2 c1 c2 : Int) : Tri (((w.alloc (.cells #[.int .u32 a1, .int .u32 a2] 24)).alloc (.cells #[.int .u32 b1, .int .u32 b2] 24)).alloc (.cells #[.int .u32 c1, .int .u32 c2] 24)) w.heap.size a1 a2 b1 b2 c1 c2 := by
  refine ⟨((Bx.made w a1 a2).alloc _).alloc _, Bx.alloc ?_ _, ?_⟩
  · have := Bx.made (w.alloc (.cells #[.int .u32 a1, .int .u32 a2] 24)) b1 b2
    simpa using this
  · have := Bx.made ((w.alloc (.cells #[.int .u32 a1, .int .u32 a2] 24)).alloc (.cells #[.int .u32 b1, .int .u32 b2] 24)) c1 c2
    simpa using this

set_option maxRecDepth 100000 in
set_option maxHeartbeats 4000000 in
theorem o1 (a1 a2 b1 b2 c1 c2 : Int) (N R : Int × Int × Int) (Y Z : Int) (w : World) (ht : Tab w)
    (cN : ∀ w, Calls Tryd.prog 10 #[lab a1 a2] w fun r w' => r = .returned (labE N) ∧ Fr noB w w')
    (cR : ∀ w, Calls Tryd.prog 11 #[lab a1 a2] w fun r w' => r = .returned (labE R) ∧ Fr noB w w')
    (hab : cmpL a1 a2 b1 b2 = -1) (hba : cmpL b1 b2 a1 a2 = 1) (hne : (a1 == b1) = false) (hne' : (b1 == a1) = false) (hnq : (b1 != a1) = true) (hnr : ¬ b1 = a1) (hbc : cmpL b1 b2 c1 c2 = Y) (hy : Y ≤ 0) (hac : cmpL a1 a2 c1 c2 = Z) (hz : Z ≤ 0)
    (hN : Hid ((N.2.2 = 0 ∧ cmpL a1 a2 N.1 N.2.1 = -1 ∧ ∃ V, cmpL b1 b2 N.1 N.2.1 = V ∧ 0 ≤ V) ∨ (N.2.2 == 0) = false))
    (hR : Hid ((R.2.2 = 0 ∧ cmpL a1 a2 R.1 R.2.1 = -1 ∧ True) ∨ ¬ R.2.2 = 0)) :
    Calls Tryd.prog 8 #[lab a1 a2, lab b1 b2, lab c1 c2] w fun r w' => r = .returned (.bool true) ∧ Below w.heap.size w w' := by
  have I : Tri (((w.alloc (.cells #[.int .u32 a1, .int .u32 a2] 24)).alloc (.cells #[.int .u32 b1, .int .u32 b2] 24)).alloc (.cells #[.int .u32 c1, .int .u32 c2] 24)) w.heap.size a1 a2 b1 b2 c1 c2 := tri_made w a1 a2 b1 b2 c1 c2
  have F : Fr noB w (((w.alloc (.cells #[.int .u32 a1, .int .u32 a2] 24)).alloc (.cells #[.int .u32 b1, .int .u32 b2] 24)).alloc (.cells #[.int .u32 c1, .int .u32 c2] 24)) := (((Fr.refl _ _).alloc _).alloc _).alloc _
  go_enter Tryd.func8, Tryd.ntmps8
  go_wp2_with (first
    | (go_at_call 12; go_must (refine (alive_any _ (ht.fr0 F)).mono ?_; rintro e wz ⟨rfl, fz⟩; have F := F.thenN fz; have I := I.fr0 fz; obtain ⟨⟨i1, i2⟩, ⟨i3, i4⟩, ⟨i5, i6⟩⟩ := I.all))
    | (go_at_call 18; go_must (refine (cmp_any _ _ _ _ _).mono ?_; rintro e wz ⟨rfl, fz⟩; have F := F.thenN fz; have I := I.fr0 fz; obtain ⟨⟨i1, i2⟩, ⟨i3, i4⟩, ⟨i5, i6⟩⟩ := I.all)))
  refine (cN _).mono ?_
  rintro e w2 ⟨rfl, f2⟩
  have F := F.thenN f2
  have I := I.fr0 f2
  clear i1 i2 i3 i4 i5 i6
  rcases hN.out with ⟨hN0, han, hbn⟩ | hN0
  rotate_left
  · clear cN
    go_wp2_with (first
      | (with_reducible refine at_wp ?_; refine wpList_stL rfl _ _ rfl w2.heap.size rfl _ _ _ _ rfl (Bx.made w2 0 0) ?_; intro wz J fz zz; have I := I.fr _ rfl fz; have F := ac2 (g := 0) F _ fz; obtain ⟨⟨i1, i2⟩, ⟨i3, i4⟩, ⟨i5, i6⟩⟩ := I.all; obtain ⟨j1, j2, j3, j4⟩ := J.all)
      | (go_at_call 18; go_must (refine (cmp_any _ _ _ _ _).mono ?_; rintro e wz ⟨rfl, fz⟩; have F := F.thenN fz; have I := I.fr0 fz; have J := J.fr0 fz; obtain ⟨⟨i1, i2⟩, ⟨i3, i4⟩, ⟨i5, i6⟩⟩ := I.all; obtain ⟨j1, j2, j3, j4⟩ := J.all)))
    refine (cR _).mono ?_
    rintro e w4 ⟨rfl, f4⟩
    have F := F.thenN f4
    have I := I.fr0 f4
    clear i1 i2 i3 i4 i5 i6
    rcases hR.out with ⟨hR0, har, hbr⟩ | hR0
    all_goals
      go_wp2_with (first
        | (with_reducible refine at_wp ?_; refine wpList_stL rfl _ _ rfl w4.heap.size rfl _ _ _ _ rfl (Bx.made w4 0 0) ?_; intro wz K fz zz; have I := I.fr _ rfl fz; have F := ac2 (g := 0) F _ fz; obtain ⟨⟨i1, i2⟩, ⟨i3, i4⟩, ⟨i5, i6⟩⟩ := I.all; obtain ⟨j1, j2, j3, j4⟩ := K.all)
        | (go_at_call 18; go_must (refine (cmp_any _ _ _ _ _).mono ?_; rintro e wz ⟨rfl, fz⟩; have F := F.thenN fz; have I := I.fr0 fz; have K := K.fr0 fz; obtain ⟨⟨i1, i2⟩, ⟨i3, i4⟩, ⟨i5, i6⟩⟩ := I.all; obtain ⟨j1, j2, j3, j4⟩ := K.all)))
      go_ret
      exact ⟨rfl, F.below⟩
  · clear cN
    obtain ⟨V, hbn, hV⟩ := hbn
    go_wp2_with (first
      | (with_reducible refine at_wp ?_; refine wpList_stL rfl _ _ rfl w2.heap.size rfl _ _ _ _ rfl (Bx.made w2 0 0) ?_; intro wz J fz zz; have I := I.fr _ rfl fz; have F := ac2 (g := 0) F _ fz; obtain ⟨⟨i1, i2⟩, ⟨i3, i4⟩, ⟨i5, i6⟩⟩ := I.all; obtain ⟨j1, j2, j3, j4⟩ := J.all)
      | (go_at_call 18; go_must (refine (cmp_any _ _ _ _ _).mono ?_; rintro e wz ⟨rfl, fz⟩; have F := F.thenN fz; have I := I.fr0 fz; have J := J.fr0 fz; obtain ⟨⟨i1, i2⟩, ⟨i3, i4⟩, ⟨i5, i6⟩⟩ := I.all; obtain ⟨j1, j2, j3, j4⟩ := J.all)))
    refine (cR _).mono ?_
    rintro e w4 ⟨rfl, f4⟩
    have F := F.thenN f4
    have I := I.fr0 f4
    clear i1 i2 i3 i4 i5 i6
    rcases hR.out with ⟨hR0, har, hbr⟩ | hR0
    all_goals
      go_wp2_with (first
        | (with_reducible refine at_wp ?_; refine wpList_stL rfl _ _ rfl w4.heap.size rfl _ _ _ _ rfl (Bx.made w4 0 0) ?_; intro wz K fz zz; have I := I.fr _ rfl fz; have F := ac2 (g := 0) F _ fz; obtain ⟨⟨i1, i2⟩, ⟨i3, i4⟩, ⟨i5, i6⟩⟩ := I.all; obtain ⟨j1, j2, j3, j4⟩ := K.all)
        | (go_at_call 18; go_must (refine (cmp_any _ _ _ _ _).mono ?_; rintro e wz ⟨rfl, fz⟩; have F := F.thenN fz; have I := I.fr0 fz; have K := K.fr0 fz; obtain ⟨⟨i1, i2⟩, ⟨i3, i4⟩, ⟨i5, i6⟩⟩ := I.all; obtain ⟨j1, j2, j3, j4⟩ := K.all)))
      go_ret
      exact ⟨rfl, F.below⟩

set_option maxRecDepth 100000 in
set_option maxHeartbeats 4000000 in
theorem o2 (a1 a2 b1 b2 c1 c2 : Int) (N R : Int × Int × Int) (Y Z : Int) (w : World) (ht : Tab w)
    (cN : ∀ w, Calls Tryd.prog 10 #[lab a1 a2] w fun r w' => r = .returned (labE N) ∧ Fr noB w w')
    (cR : ∀ w, Calls Tryd.prog 11 #[lab a1 a2] w fun r w' => r = .returned (labE R) ∧ Fr noB w w')
    (hab : cmpL a1 a2 b1 b2 = -1) (hba : cmpL b1 b2 a1 a2 = 1) (hne : (a1 == b1) = false) (hne' : (b1 == a1) = false) (hnq : (b1 != a1) = true) (hnr : ¬ b1 = a1) (hbc : cmpL b1 b2 c1 c2 = Y) (hy : ¬ Y ≤ 0)
    (hN : Hid ((N.2.2 = 0 ∧ cmpL a1 a2 N.1 N.2.1 = -1 ∧ ∃ V, cmpL b1 b2 N.1 N.2.1 = V ∧ 0 ≤ V) ∨ (N.2.2 == 0) = false))
    (hR : Hid ((R.2.2 = 0 ∧ cmpL a1 a2 R.1 R.2.1 = -1 ∧ True) ∨ ¬ R.2.2 = 0)) :
    Calls Tryd.prog 8 #[lab a1 a2, lab b1 b2, lab c1 c2] w fun r w' => r = .returned (.bool true) ∧ Below w.heap.size w w' := by
  have I : Tri (((w.alloc (.cells #[.int .u32 a1, .int .u32 a2] 24)).alloc (.cells #[.int .u32 b1, .int .u32 b2] 24)).alloc (.cells #[.int .u32 c1, .int .u32 c2] 24)) w.heap.size a1 a2 b1 b2 c1 c2 := tri_made w a1 a2 b1 b2 c1 c2
  have F : Fr noB w (((w.alloc (.cells #[.int .u32 a1, .int .u32 a2] 24)).alloc (.cells #[.int .u32 b1, .int .u32 b2] 24)).alloc (.cells #[.int .u32 c1, .int .u32 c2] 24)) := (((Fr.refl _ _).alloc _).alloc _).alloc _
  go_enter Tryd.func8, Tryd.ntmps8
  go_wp2_with (first
    | (go_at_call 12; go_must (refine (alive_any _ (ht.fr0 F)).mono ?_; rintro e wz ⟨rfl, fz⟩; have F := F.thenN fz; have I := I.fr0 fz; obtain ⟨⟨i1, i2⟩, ⟨i3, i4⟩, ⟨i5, i6⟩⟩ := I.all))
    | (go_at_call 18; go_must (refine (cmp_any _ _ _ _ _).mono ?_; rintro e wz ⟨rfl, fz⟩; have F := F.thenN fz; have I := I.fr0 fz; obtain ⟨⟨i1, i2⟩, ⟨i3, i4⟩, ⟨i5, i6⟩⟩ := I.all)))
  refine (cN _).mono ?_
  rintro e w2 ⟨rfl, f2⟩
  have F := F.thenN f2
  have I := I.fr0 f2
  clear i1 i2 i3 i4 i5 i6
  rcases hN.out with ⟨hN0, han, hbn⟩ | hN0
  rotate_left
  · clear cN
    go_wp2_with (first
      | (with_reducible refine at_wp ?_; refine wpList_stL rfl _ _ rfl w2.heap.size rfl _ _ _ _ rfl (Bx.made w2 0 0) ?_; intro wz J fz zz; have I := I.fr _ rfl fz; have F := ac2 (g := 0) F _ fz; obtain ⟨⟨i1, i2⟩, ⟨i3, i4⟩, ⟨i5, i6⟩⟩ := I.all; obtain ⟨j1, j2, j3, j4⟩ := J.all)
      | (go_at_call 18; go_must (refine (cmp_any _ _ _ _ _).mono ?_; rintro e wz ⟨rfl, fz⟩; have F := F.thenN fz; have I := I.fr0 fz; have J := J.fr0 fz; obtain ⟨⟨i1, i2⟩, ⟨i3, i4⟩, ⟨i5, i6⟩⟩ := I.all; obtain ⟨j1, j2, j3, j4⟩ := J.all)))
    refine (cR _).mono ?_
    rintro e w4 ⟨rfl, f4⟩
    have F := F.thenN f4
    have I := I.fr0 f4
    clear i1 i2 i3 i4 i5 i6
    rcases hR.out with ⟨hR0, har, hbr⟩ | hR0
    all_goals
      go_wp2_with (first
        | (with_reducible refine at_wp ?_; refine wpList_stL rfl _ _ rfl w4.heap.size rfl _ _ _ _ rfl (Bx.made w4 0 0) ?_; intro wz K fz zz; have I := I.fr _ rfl fz; have F := ac2 (g := 0) F _ fz; obtain ⟨⟨i1, i2⟩, ⟨i3, i4⟩, ⟨i5, i6⟩⟩ := I.all; obtain ⟨j1, j2, j3, j4⟩ := K.all)
        | (go_at_call 18; go_must (refine (cmp_any _ _ _ _ _).mono ?_; rintro e wz ⟨rfl, fz⟩; have F := F.thenN fz; have I := I.fr0 fz; have K := K.fr0 fz; obtain ⟨⟨i1, i2⟩, ⟨i3, i4⟩, ⟨i5, i6⟩⟩ := I.all; obtain ⟨j1, j2, j3, j4⟩ := K.all)))
      go_ret
      exact ⟨rfl, F.below⟩
  · clear cN
    obtain ⟨V, hbn, hV⟩ := hbn
    go_wp2_with (first
      | (with_reducible refine at_wp ?_; refine wpList_stL rfl _ _ rfl w2.heap.size rfl _ _ _ _ rfl (Bx.made w2 0 0) ?_; intro wz J fz zz; have I := I.fr _ rfl fz; have F := ac2 (g := 0) F _ fz; obtain ⟨⟨i1, i2⟩, ⟨i3, i4⟩, ⟨i5, i6⟩⟩ := I.all; obtain ⟨j1, j2, j3, j4⟩ := J.all)
      | (go_at_call 18; go_must (refine (cmp_any _ _ _ _ _).mono ?_; rintro e wz ⟨rfl, fz⟩; have F := F.thenN fz; have I := I.fr0 fz; have J := J.fr0 fz; obtain ⟨⟨i1, i2⟩, ⟨i3, i4⟩, ⟨i5, i6⟩⟩ := I.all; obtain ⟨j1, j2, j3, j4⟩ := J.all)))
    refine (cR _).mono ?_
    rintro e w4 ⟨rfl, f4⟩
    have F := F.thenN f4
    have I := I.fr0 f4
    clear i1 i2 i3 i4 i5 i6
    rcases hR.out with ⟨hR0, har, hbr⟩ | hR0
    all_goals
      go_wp2_with (first
        | (with_reducible refine at_wp ?_; refine wpList_stL rfl _ _ rfl w4.heap.size rfl _ _ _ _ rfl (Bx.made w4 0 0) ?_; intro wz K fz zz; have I := I.fr _ rfl fz; have F := ac2 (g := 0) F _ fz; obtain ⟨⟨i1, i2⟩, ⟨i3, i4⟩, ⟨i5, i6⟩⟩ := I.all; obtain ⟨j1, j2, j3, j4⟩ := K.all)
        | (go_at_call 18; go_must (refine (cmp_any _ _ _ _ _).mono ?_; rintro e wz ⟨rfl, fz⟩; have F := F.thenN fz; have I := I.fr0 fz; have K := K.fr0 fz; obtain ⟨⟨i1, i2⟩, ⟨i3, i4⟩, ⟨i5, i6⟩⟩ := I.all; obtain ⟨j1, j2, j3, j4⟩ := K.all)))
      go_ret
      exact ⟨rfl, F.below⟩

set_option maxRecDepth 100000 in
set_option maxHeartbeats 4000000 in
theorem o3 (a1 a2 b1 b2 c1 c2 : Int) (N R : Int × Int × Int) (Y Z : Int) (w : World) (ht : Tab w)
    (cN : ∀ w, Calls Tryd.prog 10 #[lab a1 a2] w fun r w' => r = .returned (labE N) ∧ Fr noB w w')
    (cR : ∀ w, Calls Tryd.prog 11 #[lab a1 a2] w fun r w' => r = .returned (labE R) ∧ Fr noB w w')
    (hab : cmpL a1 a2 b1 b2 = 1) (hba : cmpL b1 b2 a1 a2 = -1) (hne : (a1 == b1) = false) (hne' : (b1 == a1) = false) (hnq : (b1 != a1) = true) (hnr : ¬ b1 = a1) 
    (hN : Hid ((N.2.2 = 0 ∧ cmpL a1 a2 N.1 N.2.1 = -1 ∧ True) ∨ (N.2.2 == 0) = false))
    (hR : Hid ((R.2.2 = 0 ∧ cmpL a1 a2 R.1 R.2.1 = -1 ∧ True) ∨ ¬ R.2.2 = 0)) :
    Calls Tryd.prog 8 #[lab a1 a2, lab b1 b2, lab c1 c2] w fun r w' => r = .returned (.bool true) ∧ Below w.heap.size w w' := by
  have I : Tri (((w.alloc (.cells #[.int .u32 a1, .int .u32 a2] 24)).alloc (.cells #[.int .u32 b1, .int .u32 b2] 24)).alloc (.cells #[.int .u32 c1, .int .u32 c2] 24)) w.heap.size a1 a2 b1 b2 c1 c2 := tri_made w a1 a2 b1 b2 c1 c2
  have F : Fr noB w (((w.alloc (.cells #[.int .u32 a1, .int .u32 a2] 24)).alloc (.cells #[.int .u32 b1, .int .u32 b2] 24)).alloc (.cells #[.int .u32 c1, .int .u32 c2] 24)) := (((Fr.refl _ _).alloc _).alloc _).alloc _
  go_enter Tryd.func8, Tryd.ntmps8
  go_wp2_with (first
    | (go_at_call 12; go_must (refine (alive_any _ (ht.fr0 F)).mono ?_; rintro e wz ⟨rfl, fz⟩; have F := F.thenN fz; have I := I.fr0 fz; obtain ⟨⟨i1, i2⟩, ⟨i3, i4⟩, ⟨i5, i6⟩⟩ := I.all))
    | (go_at_call 18; go_must (refine (cmp_any _ _ _ _ _).mono ?_; rintro e wz ⟨rfl, fz⟩; have F := F.thenN fz; have I := I.fr0 fz; obtain ⟨⟨i1, i2⟩, ⟨i3, i4⟩, ⟨i5, i6⟩⟩ := I.all)))
  refine (cN _).mono ?_
  rintro e w2 ⟨rfl, f2⟩
  have F := F.thenN f2
  have I := I.fr0 f2
  clear i1 i2 i3 i4 i5 i6
  rcases hN.out with ⟨hN0, han, hbn⟩ | hN0
  rotate_left
  · clear cN
    go_wp2_with (first
      | (with_reducible refine at_wp ?_; refine wpList_stL rfl _ _ rfl w2.heap.size rfl _ _ _ _ rfl (Bx.made w2 0 0) ?_; intro wz J fz zz; have I := I.fr _ rfl fz; have F := ac2 (g := 0) F _ fz; obtain ⟨⟨i1, i2⟩, ⟨i3, i4⟩, ⟨i5, i6⟩⟩ := I.all; obtain ⟨j1, j2, j3, j4⟩ := J.all)
      | (go_at_call 18; go_must (refine (cmp_any _ _ _ _ _).mono ?_; rintro e wz ⟨rfl, fz⟩; have F := F.thenN fz; have I := I.fr0 fz; have J := J.fr0 fz; obtain ⟨⟨i1, i2⟩, ⟨i3, i4⟩, ⟨i5, i6⟩⟩ := I.all; obtain ⟨j1, j2, j3, j4⟩ := J.all)))
    refine (cR _).mono ?_
    rintro e w4 ⟨rfl, f4⟩
    have F := F.thenN f4
    have I := I.fr0 f4
    clear i1 i2 i3 i4 i5 i6
    rcases hR.out with ⟨hR0, har, hbr⟩ | hR0
    all_goals
      go_wp2_with (first
        | (with_reducible refine at_wp ?_; refine wpList_stL rfl _ _ rfl w4.heap.size rfl _ _ _ _ rfl (Bx.made w4 0 0) ?_; intro wz K fz zz; have I := I.fr _ rfl fz; have F := ac2 (g := 0) F _ fz; obtain ⟨⟨i1, i2⟩, ⟨i3, i4⟩, ⟨i5, i6⟩⟩ := I.all; obtain ⟨j1, j2, j3, j4⟩ := K.all)
        | (go_at_call 18; go_must (refine (cmp_any _ _ _ _ _).mono ?_; rintro e wz ⟨rfl, fz⟩; have F := F.thenN fz; have I := I.fr0 fz; have K := K.fr0 fz; obtain ⟨⟨i1, i2⟩, ⟨i3, i4⟩, ⟨i5, i6⟩⟩ := I.all; obtain ⟨j1, j2, j3, j4⟩ := K.all)))
      go_ret
      exact ⟨rfl, F.below⟩
  · clear cN
    go_wp2_with (first
      | (with_reducible refine at_wp ?_; refine wpList_stL rfl _ _ rfl w2.heap.size rfl _ _ _ _ rfl (Bx.made w2 0 0) ?_; intro wz J fz zz; have I := I.fr _ rfl fz; have F := ac2 (g := 0) F _ fz; obtain ⟨⟨i1, i2⟩, ⟨i3, i4⟩, ⟨i5, i6⟩⟩ := I.all; obtain ⟨j1, j2, j3, j4⟩ := J.all)
      | (go_at_call 18; go_must (refine (cmp_any _ _ _ _ _).mono ?_; rintro e wz ⟨rfl, fz⟩; have F := F.thenN fz; have I := I.fr0 fz; have J := J.fr0 fz; obtain ⟨⟨i1, i2⟩, ⟨i3, i4⟩, ⟨i5, i6⟩⟩ := I.all; obtain ⟨j1, j2, j3, j4⟩ := J.all)))
    refine (cR _).mono ?_
    rintro e w4 ⟨rfl, f4⟩
    have F := F.thenN f4
    have I := I.fr0 f4
    clear i1 i2 i3 i4 i5 i6
    rcases hR.out with ⟨hR0, har, hbr⟩ | hR0
    all_goals
      go_wp2_with (first
        | (with_reducible refine at_wp ?_; refine wpList_stL rfl _ _ rfl w4.heap.size rfl _ _ _ _ rfl (Bx.made w4 0 0) ?_; intro wz K fz zz; have I := I.fr _ rfl fz; have F := ac2 (g := 0) F _ fz; obtain ⟨⟨i1, i2⟩, ⟨i3, i4⟩, ⟨i5, i6⟩⟩ := I.all; obtain ⟨j1, j2, j3, j4⟩ := K.all)
        | (go_at_call 18; go_must (refine (cmp_any _ _ _ _ _).mono ?_; rintro e wz ⟨rfl, fz⟩; have F := F.thenN fz; have I := I.fr0 fz; have K := K.fr0 fz; obtain ⟨⟨i1, i2⟩, ⟨i3, i4⟩, ⟨i5, i6⟩⟩ := I.all; obtain ⟨j1, j2, j3, j4⟩ := K.all)))
      go_ret
      exact ⟨rfl, F.below⟩

set_option maxRecDepth 100000 in
set_option maxHeartbeats 4000000 in
theorem o4 (a1 a2 b2 c1 c2 : Int) (N R : Int × Int × Int) (Y Z : Int) (w : World) (ht : Tab w)
    (cN : ∀ w, Calls Tryd.prog 10 #[lab a1 a2] w fun r w' => r = .returned (labE N) ∧ Fr noB w w')
    (cR : ∀ w, Calls Tryd.prog 11 #[lab a1 a2] w fun r w' => r = .returned (labE R) ∧ Fr noB w w')
    (hab : cmpL a1 a2 a1 b2 = -1) (hba : cmpL a1 b2 a1 a2 = 1) (hne : (a2 == b2) = false) (hbc : cmpL a1 b2 c1 c2 = Y) (hy : Y ≤ 0) (hac : cmpL a1 a2 c1 c2 = Z) (hz : Z ≤ 0)
    (hN : Hid ((N.2.2 = 0 ∧ cmpL a1 a2 N.1 N.2.1 = -1 ∧ ∃ V, cmpL a1 b2 N.1 N.2.1 = V ∧ 0 ≤ V) ∨ (N.2.2 == 0) = false))
    (hR : Hid ((R.2.2 = 0 ∧ cmpL a1 a2 R.1 R.2.1 = -1 ∧ cmpL a1 b2 R.1 R.2.1 = -1) ∨ ¬ R.2.2 = 0)) :
    Calls Tryd.prog 8 #[lab a1 a2, lab a1 b2, lab c1 c2] w fun r w' => r = .returned (.bool true) ∧ Below w.heap.size w w' := by
  have I : Tri (((w.alloc (.cells #[.int .u32 a1, .int .u32 a2] 24)).alloc (.cells #[.int .u32 a1, .int .u32 b2] 24)).alloc (.cells #[.int .u32 c1, .int .u32 c2] 24)) w.heap.size a1 a2 a1 b2 c1 c2 := tri_made w a1 a2 a1 b2 c1 c2
  have F : Fr noB w (((w.alloc (.cells #[.int .u32 a1, .int .u32 a2] 24)).alloc (.cells #[.int .u32 a1, .int .u32 b2] 24)).alloc (.cells #[.int .u32 c1, .int .u32 c2] 24)) := (((Fr.refl _ _).alloc _).alloc _).alloc _
  go_enter Tryd.func8, Tryd.ntmps8
  go_wp2_with (first
    | (go_at_call 12; go_must (refine (alive_any _ (ht.fr0 F)).mono ?_; rintro e wz ⟨rfl, fz⟩; have F := F.thenN fz; have I := I.fr0 fz; obtain ⟨⟨i1, i2⟩, ⟨i3, i4⟩, ⟨i5, i6⟩⟩ := I.all))
    | (go_at_call 18; go_must (refine (cmp_any _ _ _ _ _).mono ?_; rintro e wz ⟨rfl, fz⟩; have F := F.thenN fz; have I := I.fr0 fz; obtain ⟨⟨i1, i2⟩, ⟨i3, i4⟩, ⟨i5, i6⟩⟩ := I.all)))
  refine (cN _).mono ?_
  rintro e w2 ⟨rfl, f2⟩
  have F := F.thenN f2
  have I := I.fr0 f2
  clear i1 i2 i3 i4 i5 i6
  rcases hN.out with ⟨hN0, han, hbn⟩ | hN0
  rotate_left
  · clear cN
    go_wp2_with (first
      | (with_reducible refine at_wp ?_; refine wpList_stL rfl _ _ rfl w2.heap.size rfl _ _ _ _ rfl (Bx.made w2 0 0) ?_; intro wz J fz zz; have I := I.fr _ rfl fz; have F := ac2 (g := 0) F _ fz; obtain ⟨⟨i1, i2⟩, ⟨i3, i4⟩, ⟨i5, i6⟩⟩ := I.all; obtain ⟨j1, j2, j3, j4⟩ := J.all)
      | (go_at_call 18; go_must (refine (cmp_any _ _ _ _ _).mono ?_; rintro e wz ⟨rfl, fz⟩; have F := F.thenN fz; have I := I.fr0 fz; have J := J.fr0 fz; obtain ⟨⟨i1, i2⟩, ⟨i3, i4⟩, ⟨i5, i6⟩⟩ := I.all; obtain ⟨j1, j2, j3, j4⟩ := J.all)))
    refine (cR _).mono ?_
    rintro e w4 ⟨rfl, f4⟩
    have F := F.thenN f4
    have I := I.fr0 f4
    clear i1 i2 i3 i4 i5 i6
    rcases hR.out with ⟨hR0, har, hbr⟩ | hR0
    all_goals
      go_wp2_with (first
        | (with_reducible refine at_wp ?_; refine wpList_stL rfl _ _ rfl w4.heap.size rfl _ _ _ _ rfl (Bx.made w4 0 0) ?_; intro wz K fz zz; have I := I.fr _ rfl fz; have F := ac2 (g := 0) F _ fz; obtain ⟨⟨i1, i2⟩, ⟨i3, i4⟩, ⟨i5, i6⟩⟩ := I.all; obtain ⟨j1, j2, j3, j4⟩ := K.all)
        | (go_at_call 18; go_must (refine (cmp_any _ _ _ _ _).mono ?_; rintro e wz ⟨rfl, fz⟩; have F := F.thenN fz; have I := I.fr0 fz; have K := K.fr0 fz; obtain ⟨⟨i1, i2⟩, ⟨i3, i4⟩, ⟨i5, i6⟩⟩ := I.all; obtain ⟨j1, j2, j3, j4⟩ := K.all)))
      go_ret
      exact ⟨rfl, F.below⟩
  · clear cN
    obtain ⟨V, hbn, hV⟩ := hbn
    go_wp2_with (first
      | (with_reducible refine at_wp ?_; refine wpList_stL rfl _ _ rfl w2.heap.size rfl _ _ _ _ rfl (Bx.made w2 0 0) ?_; intro wz J fz zz; have I := I.fr _ rfl fz; have F := ac2 (g := 0) F _ fz; obtain ⟨⟨i1, i2⟩, ⟨i3, i4⟩, ⟨i5, i6⟩⟩ := I.all; obtain ⟨j1, j2, j3, j4⟩ := J.all)
      | (go_at_call 18; go_must (refine (cmp_any _ _ _ _ _).mono ?_; rintro e wz ⟨rfl, fz⟩; have F := F.thenN fz; have I := I.fr0 fz; have J := J.fr0 fz; obtain ⟨⟨i1, i2⟩, ⟨i3, i4⟩, ⟨i5, i6⟩⟩ := I.all; obtain ⟨j1, j2, j3, j4⟩ := J.all)))
    refine (cR _).mono ?_
    rintro e w4 ⟨rfl, f4⟩
    have F := F.thenN f4
    have I := I.fr0 f4
    clear i1 i2 i3 i4 i5 i6
    rcases hR.out with ⟨hR0, har, hbr⟩ | hR0
    all_goals
      go_wp2_with (first
        | (with_reducible refine at_wp ?_; refine wpList_stL rfl _ _ rfl w4.heap.size rfl _ _ _ _ rfl (Bx.made w4 0 0) ?_; intro wz K fz zz; have I := I.fr _ rfl fz; have F := ac2 (g := 0) F _ fz; obtain ⟨⟨i1, i2⟩, ⟨i3, i4⟩, ⟨i5, i6⟩⟩ := I.all; obtain ⟨j1, j2, j3, j4⟩ := K.all)
        | (go_at_call 18; go_must (refine (cmp_any _ _ _ _ _).mono ?_; rintro e wz ⟨rfl, fz⟩; have F := F.thenN fz; have I := I.fr0 fz; have K := K.fr0 fz; obtain ⟨⟨i1, i2⟩, ⟨i3, i4⟩, ⟨i5, i6⟩⟩ := I.all; obtain ⟨j1, j2, j3, j4⟩ := K.all)))
      go_ret
      exact ⟨rfl, F.below⟩
end Go.Proofs.YtcpkkdffedndiaaDoor
