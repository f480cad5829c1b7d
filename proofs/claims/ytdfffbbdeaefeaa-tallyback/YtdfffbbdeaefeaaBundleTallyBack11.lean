/- Texts T12 of the proof of TallyBack, one behind the other. -/
import Derived.Test.YtdfffbbdeaefeaaBundleTallyBack1
import Derived.Test.YtdfffbbdeaefeaaBundleTallyBack2
import Derived.Test.YtdfffbbdeaefeaaBundleTallyBack3
import Derived.Test.YtdfffbbdeaefeaaBundleTallyBack4
import Derived.Test.YtdfffbbdeaefeaaBundleTallyBack5
import Derived.Test.YtdfffbbdeaefeaaBundleTallyBack6
import Derived.Test.YtdfffbbdeaefeaaBundleTallyBack7
import Derived.Test.YtdfffbbdeaefeaaBundleTallyBack8
import Derived.Test.YtdfffbbdeaefeaaBundleTallyBack9
import Derived.Test.YtdfffbbdeaefeaaBundleTallyBack10
/- TallyBack. (Written by t12_gen.py.) -/
namespace Go.Proofs.Ytdfffbbdeaefeaa
open Go.RowKit Go.Proofs.U
set_option linter.unusedSimpArgs false
set_option linter.unusedVariables false
/-- A new disk of four pages with these writes pending. -/
def fourD (pend : List (Int × List Int)) : DSt := ⟨List.replicate 4 zeroP, fun _ => false, pend, false, -1⟩
theorem four_new : newD 4 = fourD [] := rfl
theorem four_wr (l : List (Int × List Int)) (r : Int) (hr : r = 0 ∨ r = 1) (P : List Int) : (fourD l).write (2 + r) P = fourD (l ++ [(2 + r, P)]) ∧ (fourD l).writeE (2 + r) = 0 := by
  rcases hr with rfl | rfl <;> exact ⟨rfl, rfl⟩
theorem four_rd (r s t : Int) (hr : r = 0 ∨ r = 1) (hs : s = 0 ∨ s = 1) (ht : t = 0 ∨ t = 1) (P Q : List Int) : readP (fourD [(2 + r, P), (2 + s, Q)]) (2 + t) = (if s = t then Q else if r = t then P else zeroP, 0) := by
  rcases hr with rfl | rfl <;> rcases hs with rfl | rfl <;> rcases ht with rfl | rfl <;> rfl
theorem four_byt {l : List (Int × List Int)} (h : ∀ x ∈ l, Byt x.2) : (fourD l).byt := by
  refine ⟨?_, h⟩
  intro p hp
  rw [show p = zeroP from List.eq_of_mem_replicate hp]; exact zeroP_byt
theorem mod01 (g : Int) : g % 2 = 0 ∨ g % 2 = 1 := by omega
/-- The disk behind both writes. -/
def backD (g h : Int) (a b : List Int) : DSt := fourD [(2 + g % 2, tlyP g a), (2 + h % 2, tlyP h b)]
theorem back_one (g h : Int) (a b : List Int) (hb : b.length = 240) : tRead (backD g h a b) h = (b, 0) := by
  unfold tRead backD
  rw [four_rd _ _ _ (mod01 g) (mod01 h) (mod01 h), if_pos rfl, if_pos rfl, opT_own h hb]
theorem back_same (g h : Int) (hg : G64 g) (hh : G64 h) (a b : List Int) (hb : b.length = 240) (e : g % 2 = h % 2) (hne : g ≠ h) : tRead (backD g h a b) g = (zerB 240, 61) := by
  unfold tRead backD
  rw [four_rd _ _ _ (mod01 g) (mod01 h) (mod01 g), if_pos rfl, if_pos e.symm, opT_other hh hg (Ne.symm hne) hb]
theorem back_apart (g h : Int) (a b : List Int) (ha : a.length = 240) (e : g % 2 ≠ h % 2) : tRead (backD g h a b) g = (a, 0) := by
  unfold tRead backD
  rw [four_rd _ _ _ (mod01 g) (mod01 h) (mod01 g), if_pos rfl, if_neg (Ne.symm e), if_pos rfl, opT_own g ha]
set_option maxRecDepth 100000 in
set_option maxHeartbeats 4000000 in
theorem tback_one (G H : Int) (a b : List Int) (w : World) (hG : G64 G) (hH : G64 H) (hal : a.length = 240) (hab : Byt a) (hbl : b.length = 240) (hbb : Byt b) (hgh : G = H) :
    Calls Try.prog 5 #[.agg #[.int .u64 G, .int .u64 H], pgV a, pgV b] w fun r w' => r = .returned (.bool true) ∧ Below w.heap.size w w' := by
  have hr1 := back_one G H a b hbl
  have hr0 : tRead (backD G H a b) G = (b, 0) := hgh ▸ back_one H H a b hbl
  have bP := tlyP_byt G hab
  have bQ := tlyP_byt H hbb
  obtain ⟨w1a, w1e⟩ := four_wr [] (G % 2) (mod01 G) (tlyP G a)
  obtain ⟨w2a, w2e⟩ := four_wr [(2 + G % 2, tlyP G a)] (H % 2) (mod01 H) (tlyP H b)
  have w2a : (fourD [(2 + G % 2, tlyP G a)]).write (2 + H % 2) (tlyP H b) = backD G H a b := w2a
  have w1a : (fourD []).write (2 + G % 2) (tlyP G a) = fourD [(2 + G % 2, tlyP G a)] := w1a
  have y2 : (backD G H a b).byt := four_byt (by intro x hx; simp at hx; rcases hx with rfl | rfl <;> assumption)
  have hnw := show Hid _ from fun W => new_any 4 (by omega) W
  rw [four_new] at hnw
  have hw1 := show Hid _ from fun (F : Nat → Prop) (g : Nat) (W : World) (h : Disk W F g (fourD [])) => twrite_any g G hG a hal hab W h (Nat.zero_le _)
  have hw2 := show Hid _ from fun (F : Nat → Prop) (g : Nat) (W : World) (h : Disk W F g (fourD [(2 + G % 2, tlyP G a)])) => twrite_any g H hH b hbl hbb W h (by show 1 ≤ 100000; decide)
  have hd1 := show Hid _ from fun (F : Nat → Prop) (g : Nat) (W : World) (h : Disk W F g (backD G H a b)) => tread_any g H hH W h (by show 2 ≤ 100000; decide) y2
  have hd0 := show Hid _ from fun (F : Nat → Prop) (g : Nat) (W : World) (h : Disk W F g (backD G H a b)) => tread_any g G hG W h (by show 2 ≤ 100000; decide) y2
  simp only [w1a, w1e] at hw1
  simp only [w2a, w2e] at hw2
  simp only [hr1] at hd1
  simp only [hr0] at hd0
  obtain ⟨X0, HX0⟩ : ∃ X, Hid (fourD [] = X) := ⟨_, rfl⟩
  obtain ⟨X1, HX1⟩ : ∃ X, Hid (fourD [(2 + G % 2, tlyP G a)] = X) := ⟨_, rfl⟩
  obtain ⟨X2, HX2⟩ : ∃ X, Hid (backD G H a b = X) := ⟨_, rfl⟩
  simp only [HX0.out] at hnw hw1
  simp only [HX1.out] at hw1 hw2
  simp only [HX2.out] at hw2 hd1 hd0
  obtain ⟨Z, HZ⟩ : ∃ Z, Hid (zerB 240 = Z) := ⟨_, rfl⟩
  have hZl : Hid (Z.length = 240) := by show _ = _; rw [← HZ.out]; exact zerB_len 240
  try rw [HZ.out] at hd0
  have Ha := show Hid _ from hal
  have Hb := show Hid _ from hbl
  have eaa : Hid ((a == a) = true) := by show _ = _; exact beq_self_eq_true a
  have ebb : Hid ((b == b) = true) := by show _ = _; exact beq_self_eq_true b
  have nbb : Hid ((!(b == b)) = false) := by show _ = _; rw [beq_self_eq_true b]; rfl
  have ezz : Hid ((Z == Z) = true) := by show _ = _; exact beq_self_eq_true Z
  clear hr1 hr0 bP bQ w1a w1e w2a w2e y2 hal hbl
  subst hgh
  go_enter Try.func5, Try.ntmps5
  go_wp2_with (first
    | (with_reducible refine at_wpP ?_; refine wpList_boxV rfl 41 _ rfl [.int .u64 G, .int .u64 G] rfl ?_; intro g3 w1 hg3 b1 f1 s1; have l1 := b1.lt; have z1 := f1.size)
    | (with_reducible refine at_wpP ?_; have f2x := f2; refine wpList_boxV rfl 22 _ rfl (pgv b) rfl ?_; intro g5 w3 hg5 b3 f3 s3; have l3 := b3.lt; have z3 := f3.size)
    | (with_reducible refine at_wpP ?_; refine wpList_boxV rfl 22 _ rfl (pgv a) rfl ?_; intro g4 w2 hg4 b2 f2 s2; have l2 := b2.lt; have z2 := f2.size)
    | (go_at_call 10; go_must (refine (talive_any _).mono ?_; rintro e w4 ⟨rfl, f4⟩; have z4 := f4.size))
    | (go_at_call 9; go_must (refine (hnw.out _).mono ?_; rintro e w5 ⟨g, rfl, d5, f5⟩; have z5 := f5.size; have N5 := ((((b1.fr0 f2).fr0 f3).fr0 f4).fr0 f5); have A5 := (((b2.fr0 f3).fr0 f4).fr0 f5); have B5 := ((b3.fr0 f4).fr0 f5); obtain ⟨q50, _⟩ := N5.cell 0 _ rfl))
    | (go_at_call 18; have d6x := d6; go_must (refine (hw2.out _ g _ d6).mono ?_; rintro e w7 ⟨rfl, d7, f7⟩; have z7 := f7.size; have N7 := N6.fr f7 (fun q => by unfold orNew at q; rcases q with q | q <;> omega); have A7 := A6.fr f7 (fun q => by unfold orNew at q; rcases q with q | q <;> omega); have B7 := B6.fr f7 (fun q => by unfold orNew at q; rcases q with q | q <;> omega); obtain ⟨q71, _⟩ := N7.cell 1 _ rfl; have d7' := d7.tight))
    | (go_at_call 18; go_must (refine (hw1.out _ g _ d5).mono ?_; rintro e w6 ⟨rfl, d6, f6⟩; have z6 := f6.size; have N6 := N5.fr f6 (fun q => by omega); have A6 := A5.fr f6 (fun q => by omega); have B6 := B5.fr f6 (fun q => by omega); obtain ⟨q61, _⟩ := N6.cell 1 _ rfl))
    | (go_at_call 8; have b10x := b10; go_must (refine (hd0.out _ g _ (((d7'.fr0 f8).fr0 f9).fr f10 (fun k hk hF q => by obtain ⟨_, hF⟩ := hF; unfold onB1 at q; omega))).mono ?_; rintro e w11 ⟨rfl, f11⟩; have z11 := f11.size))
    | (go_at_call 8; go_must (refine (hd1.out _ g _ d7).mono ?_; rintro e w8 ⟨rfl, f8⟩; have z8 := f8.size))
    | (with_reducible refine at_wpP ?_; have f11x := f11; refine wpList_allocA arr_counts rfl rfl ?_; rw [HZ.out]; intro g10 w12 hg10 b12 f12 s12; have z12 := f12.size; have l12 := b12.lt)
    | (with_reducible refine at_wpP ?_; refine wpList_allocA arr_counts rfl rfl ?_; rw [HZ.out]; intro g8 w9 hg8 b9 f9 s9; have z9 := f9.size; have l9 := b9.lt)
    | (with_reducible refine at_wpP ?_; refine at_st 23 _ _ rfl ?_; have b12x := b12; go_must (refine wpList_storeA arr_counts rfl _ _ rfl g10 rfl b rfl _ b12 Hb.out hZl.out ?_; intro w13 b13 f13; have z13 := f13.size; have N13 := ((N10.fr0 f11).fr0 f12).ne f13 (by omega); have A13 := ((A10.fr0 f11).fr0 f12).ne f13 (by omega); have B13 := ((B10.fr0 f11).fr0 f12).ne f13 (by omega); have Y13 := ((b10.fr0 f11).fr0 f12).ne f13 (by omega); obtain ⟨q130, _⟩ := N13.cell 0 _ rfl; obtain ⟨q131, _⟩ := N13.cell 1 _ rfl))
    | (with_reducible refine at_wpP ?_; refine at_st 23 _ _ rfl ?_; go_must (refine wpList_storeA arr_counts rfl _ _ rfl g8 rfl b rfl _ b9 Hb.out hZl.out ?_; intro w10 b10 f10; have z10 := f10.size; have N10 := ((N7.fr0 f8).fr0 f9).ne f10 (by omega); have A10 := ((A7.fr0 f8).fr0 f9).ne f10 (by omega); have B10 := ((B7.fr0 f8).fr0 f9).ne f10 (by omega); obtain ⟨q100, _⟩ := N10.cell 0 _ rfl))
    | (with_reducible refine at_wpP ?_; refine at_ld 22 _ rfl ?_; go_must (first | refine wpList_loadA arr_240 rfl _ rfl g5 rfl b B13 Hb.out ?_ | refine wpList_loadA arr_240 rfl _ rfl g4 rfl a A13 Ha.out ?_ | refine wpList_loadA arr_240 rfl _ rfl g5 rfl b B6 Hb.out ?_ | refine wpList_loadA arr_240 rfl _ rfl g4 rfl a A5 Ha.out ?_))
    | (with_reducible refine at_wpP ?_; refine at_ld 23 _ rfl ?_; go_must (first | refine wpList_loadA arr_counts rfl _ rfl g8 rfl b Y13 Hb.out ?_ | refine wpList_loadA arr_counts rfl _ rfl g10 rfl b b13 Hb.out ?_))
    | (with_reducible refine at_wpP ?_; refine wpList_buildA arr_counts rfl rfl ?_; rw [HZ.out])
    | (with_reducible refine at_wpP ?_; refine at_bin .neq 23 _ _ _ rfl ?_; go_must (refine wpList_neqA arr_counts rfl _ _ _ rfl b b rfl rfl Hb.out Hb.out ?_; rw [nbb.out]))
    | (with_reducible refine at_wpP ?_; refine at_bin .eql 23 _ _ _ rfl ?_; go_must (refine wpList_eqlA arr_counts rfl _ _ _ rfl b b rfl rfl Hb.out Hb.out ?_; rw [ebb.out])))
  go_ret
  refine ⟨rfl, ?_⟩
  have F7 : Fr noB w w7 := (((((f1.thenN f2).thenN f3).thenN f4).thenN f5).thenT f6 (fun i hi q => by omega)).thenT f7 (fun i hi q => by unfold orNew at q; rcases q with q | q <;> omega)
  exact ((((((F7.thenN f8).thenN f9).thenT f10 (fun i hi q => by unfold onB1 at q; omega)).thenN f11).thenN f12).thenT f13 (fun i hi q => by unfold onB1 at q; omega)).below
set_option maxRecDepth 100000 in
set_option maxHeartbeats 4000000 in
theorem tback_two (G H : Int) (a b : List Int) (w : World) (hG : G64 G) (hH : G64 H) (hal : a.length = 240) (hab : Byt a) (hbl : b.length = 240) (hbb : Byt b) (hne : ¬ G = H) (hpar : G % 2 = H % 2) :
    Calls Try.prog 5 #[.agg #[.int .u64 G, .int .u64 H], pgV a, pgV b] w fun r w' => r = .returned (.bool true) ∧ Below w.heap.size w w' := by
  have hr1 := back_one G H a b hbl
  have hr0 : tRead (backD G H a b) G = (zerB 240, 61) := back_same G H hG hH a b hbl hpar hne
  have bP := tlyP_byt G hab
  have bQ := tlyP_byt H hbb
  obtain ⟨w1a, w1e⟩ := four_wr [] (G % 2) (mod01 G) (tlyP G a)
  obtain ⟨w2a, w2e⟩ := four_wr [(2 + G % 2, tlyP G a)] (H % 2) (mod01 H) (tlyP H b)
  have w2a : (fourD [(2 + G % 2, tlyP G a)]).write (2 + H % 2) (tlyP H b) = backD G H a b := w2a
  have w1a : (fourD []).write (2 + G % 2) (tlyP G a) = fourD [(2 + G % 2, tlyP G a)] := w1a
  have y2 : (backD G H a b).byt := four_byt (by intro x hx; simp at hx; rcases hx with rfl | rfl <;> assumption)
  have hnw := show Hid _ from fun W => new_any 4 (by omega) W
  rw [four_new] at hnw
  have hw1 := show Hid _ from fun (F : Nat → Prop) (g : Nat) (W : World) (h : Disk W F g (fourD [])) => twrite_any g G hG a hal hab W h (Nat.zero_le _)
  have hw2 := show Hid _ from fun (F : Nat → Prop) (g : Nat) (W : World) (h : Disk W F g (fourD [(2 + G % 2, tlyP G a)])) => twrite_any g H hH b hbl hbb W h (by show 1 ≤ 100000; decide)
  have hd1 := show Hid _ from fun (F : Nat → Prop) (g : Nat) (W : World) (h : Disk W F g (backD G H a b)) => tread_any g H hH W h (by show 2 ≤ 100000; decide) y2
  have hd0 := show Hid _ from fun (F : Nat → Prop) (g : Nat) (W : World) (h : Disk W F g (backD G H a b)) => tread_any g G hG W h (by show 2 ≤ 100000; decide) y2
  simp only [w1a, w1e] at hw1
  simp only [w2a, w2e] at hw2
  simp only [hr1] at hd1
  simp only [hr0] at hd0
  obtain ⟨X0, HX0⟩ : ∃ X, Hid (fourD [] = X) := ⟨_, rfl⟩
  obtain ⟨X1, HX1⟩ : ∃ X, Hid (fourD [(2 + G % 2, tlyP G a)] = X) := ⟨_, rfl⟩
  obtain ⟨X2, HX2⟩ : ∃ X, Hid (backD G H a b = X) := ⟨_, rfl⟩
  simp only [HX0.out] at hnw hw1
  simp only [HX1.out] at hw1 hw2
  simp only [HX2.out] at hw2 hd1 hd0
  obtain ⟨Z, HZ⟩ : ∃ Z, Hid (zerB 240 = Z) := ⟨_, rfl⟩
  have hZl : Hid (Z.length = 240) := by show _ = _; rw [← HZ.out]; exact zerB_len 240
  try rw [HZ.out] at hd0
  have Ha := show Hid _ from hal
  have Hb := show Hid _ from hbl
  have eaa : Hid ((a == a) = true) := by show _ = _; exact beq_self_eq_true a
  have ebb : Hid ((b == b) = true) := by show _ = _; exact beq_self_eq_true b
  have nbb : Hid ((!(b == b)) = false) := by show _ = _; rw [beq_self_eq_true b]; rfl
  have ezz : Hid ((Z == Z) = true) := by show _ = _; exact beq_self_eq_true Z
  clear hr1 hr0 bP bQ w1a w1e w2a w2e y2 hal hbl
  have hne1 : (G == H) = false := by simpa using hne
  have e1 := mod2 G hG.1
  have e2 := mod2 H hH.1
  have u1 : IntKind.u64.wrap (G % 2) = G % 2 := wrap_u64_id _ (by omega) (by omega)
  have u2 : IntKind.u64.wrap (H % 2) = H % 2 := wrap_u64_id _ (by omega) (by omega)
  obtain ⟨r, hr⟩ : ∃ r, Hid (G % 2 = r) := ⟨_, rfl⟩
  obtain ⟨s, hs⟩ : ∃ s, Hid (H % 2 = s) := ⟨_, rfl⟩
  rw [hr.out] at e1 u1
  rw [hs.out] at e2 u2
  have hrs : r = s := by rw [← hr.out, ← hs.out]; exact hpar
  subst hrs
  clear hpar hne
  go_enter Try.func5, Try.ntmps5
  go_wp2_with (first
    | (with_reducible refine at_wpP ?_; refine wpList_boxV rfl 41 _ rfl [.int .u64 G, .int .u64 H] rfl ?_; intro g3 w1 hg3 b1 f1 s1; have l1 := b1.lt; have z1 := f1.size)
    | (with_reducible refine at_wpP ?_; have f2x := f2; refine wpList_boxV rfl 22 _ rfl (pgv b) rfl ?_; intro g5 w3 hg5 b3 f3 s3; have l3 := b3.lt; have z3 := f3.size)
    | (with_reducible refine at_wpP ?_; refine wpList_boxV rfl 22 _ rfl (pgv a) rfl ?_; intro g4 w2 hg4 b2 f2 s2; have l2 := b2.lt; have z2 := f2.size)
    | (go_at_call 10; go_must (refine (talive_any _).mono ?_; rintro e w4 ⟨rfl, f4⟩; have z4 := f4.size))
    | (go_at_call 9; go_must (refine (hnw.out _).mono ?_; rintro e w5 ⟨g, rfl, d5, f5⟩; have z5 := f5.size; have N5 := ((((b1.fr0 f2).fr0 f3).fr0 f4).fr0 f5); have A5 := (((b2.fr0 f3).fr0 f4).fr0 f5); have B5 := ((b3.fr0 f4).fr0 f5); obtain ⟨q50, _⟩ := N5.cell 0 _ rfl))
    | (go_at_call 18; have d6x := d6; go_must (refine (hw2.out _ g _ d6).mono ?_; rintro e w7 ⟨rfl, d7, f7⟩; have z7 := f7.size; have N7 := N6.fr f7 (fun q => by unfold orNew at q; rcases q with q | q <;> omega); have A7 := A6.fr f7 (fun q => by unfold orNew at q; rcases q with q | q <;> omega); have B7 := B6.fr f7 (fun q => by unfold orNew at q; rcases q with q | q <;> omega); obtain ⟨q71, _⟩ := N7.cell 1 _ rfl; have d7' := d7.tight))
    | (go_at_call 18; go_must (refine (hw1.out _ g _ d5).mono ?_; rintro e w6 ⟨rfl, d6, f6⟩; have z6 := f6.size; have N6 := N5.fr f6 (fun q => by omega); have A6 := A5.fr f6 (fun q => by omega); have B6 := B5.fr f6 (fun q => by omega); obtain ⟨q61, _⟩ := N6.cell 1 _ rfl))
    | (go_at_call 8; have b10x := b10; go_must (refine (hd0.out _ g _ (((d7'.fr0 f8).fr0 f9).fr f10 (fun k hk hF q => by obtain ⟨_, hF⟩ := hF; unfold onB1 at q; omega))).mono ?_; rintro e w11 ⟨rfl, f11⟩; have z11 := f11.size))
    | (go_at_call 8; go_must (refine (hd1.out _ g _ d7).mono ?_; rintro e w8 ⟨rfl, f8⟩; have z8 := f8.size))
    | (with_reducible refine at_wpP ?_; have f11x := f11; refine wpList_allocA arr_counts rfl rfl ?_; rw [HZ.out]; intro g10 w12 hg10 b12 f12 s12; have z12 := f12.size; have l12 := b12.lt)
    | (with_reducible refine at_wpP ?_; refine wpList_allocA arr_counts rfl rfl ?_; rw [HZ.out]; intro g8 w9 hg8 b9 f9 s9; have z9 := f9.size; have l9 := b9.lt)
    | (with_reducible refine at_wpP ?_; refine at_st 23 _ _ rfl ?_; have b12x := b12; go_must (refine wpList_storeA arr_counts rfl _ _ rfl g10 rfl Z rfl _ b12 hZl.out hZl.out ?_; intro w13 b13 f13; have z13 := f13.size; have N13 := ((N10.fr0 f11).fr0 f12).ne f13 (by omega); have A13 := ((A10.fr0 f11).fr0 f12).ne f13 (by omega); have B13 := ((B10.fr0 f11).fr0 f12).ne f13 (by omega); have Y13 := ((b10.fr0 f11).fr0 f12).ne f13 (by omega); obtain ⟨q130, _⟩ := N13.cell 0 _ rfl; obtain ⟨q131, _⟩ := N13.cell 1 _ rfl))
    | (with_reducible refine at_wpP ?_; refine at_st 23 _ _ rfl ?_; go_must (refine wpList_storeA arr_counts rfl _ _ rfl g8 rfl b rfl _ b9 Hb.out hZl.out ?_; intro w10 b10 f10; have z10 := f10.size; have N10 := ((N7.fr0 f8).fr0 f9).ne f10 (by omega); have A10 := ((A7.fr0 f8).fr0 f9).ne f10 (by omega); have B10 := ((B7.fr0 f8).fr0 f9).ne f10 (by omega); obtain ⟨q100, _⟩ := N10.cell 0 _ rfl))
    | (with_reducible refine at_wpP ?_; refine at_ld 22 _ rfl ?_; go_must (first | refine wpList_loadA arr_240 rfl _ rfl g5 rfl b B13 Hb.out ?_ | refine wpList_loadA arr_240 rfl _ rfl g4 rfl a A13 Ha.out ?_ | refine wpList_loadA arr_240 rfl _ rfl g5 rfl b B6 Hb.out ?_ | refine wpList_loadA arr_240 rfl _ rfl g4 rfl a A5 Ha.out ?_))
    | (with_reducible refine at_wpP ?_; refine at_ld 23 _ rfl ?_; go_must (first | refine wpList_loadA arr_counts rfl _ rfl g8 rfl b Y13 Hb.out ?_ | refine wpList_loadA arr_counts rfl _ rfl g10 rfl Z b13 hZl.out ?_))
    | (with_reducible refine at_wpP ?_; refine wpList_buildA arr_counts rfl rfl ?_; rw [HZ.out])
    | (with_reducible refine at_wpP ?_; refine at_bin .neq 23 _ _ _ rfl ?_; go_must (refine wpList_neqA arr_counts rfl _ _ _ rfl b b rfl rfl Hb.out Hb.out ?_; rw [nbb.out]))
    | (with_reducible refine at_wpP ?_; refine at_bin .eql 23 _ _ _ rfl ?_; go_must (refine wpList_eqlA arr_counts rfl _ _ _ rfl Z Z rfl rfl hZl.out hZl.out ?_; rw [ezz.out])))
  go_ret
  refine ⟨rfl, ?_⟩
  have F7 : Fr noB w w7 := (((((f1.thenN f2).thenN f3).thenN f4).thenN f5).thenT f6 (fun i hi q => by omega)).thenT f7 (fun i hi q => by unfold orNew at q; rcases q with q | q <;> omega)
  exact ((((((F7.thenN f8).thenN f9).thenT f10 (fun i hi q => by unfold onB1 at q; omega)).thenN f11).thenN f12).thenT f13 (fun i hi q => by unfold onB1 at q; omega)).below
set_option maxRecDepth 100000 in
set_option maxHeartbeats 4000000 in
theorem tback_three (G H : Int) (a b : List Int) (w : World) (hG : G64 G) (hH : G64 H) (hal : a.length = 240) (hab : Byt a) (hbl : b.length = 240) (hbb : Byt b) (hne : ¬ G = H) (hpar : ¬ G % 2 = H % 2) :
    Calls Try.prog 5 #[.agg #[.int .u64 G, .int .u64 H], pgV a, pgV b] w fun r w' => r = .returned (.bool true) ∧ Below w.heap.size w w' := by
  have hr1 := back_one G H a b hbl
  have hr0 : tRead (backD G H a b) G = (a, 0) := back_apart G H a b hal hpar
  have bP := tlyP_byt G hab
  have bQ := tlyP_byt H hbb
  obtain ⟨w1a, w1e⟩ := four_wr [] (G % 2) (mod01 G) (tlyP G a)
  obtain ⟨w2a, w2e⟩ := four_wr [(2 + G % 2, tlyP G a)] (H % 2) (mod01 H) (tlyP H b)
  have w2a : (fourD [(2 + G % 2, tlyP G a)]).write (2 + H % 2) (tlyP H b) = backD G H a b := w2a
  have w1a : (fourD []).write (2 + G % 2) (tlyP G a) = fourD [(2 + G % 2, tlyP G a)] := w1a
  have y2 : (backD G H a b).byt := four_byt (by intro x hx; simp at hx; rcases hx with rfl | rfl <;> assumption)
  have hnw := show Hid _ from fun W => new_any 4 (by omega) W
  rw [four_new] at hnw
  have hw1 := show Hid _ from fun (F : Nat → Prop) (g : Nat) (W : World) (h : Disk W F g (fourD [])) => twrite_any g G hG a hal hab W h (Nat.zero_le _)
  have hw2 := show Hid _ from fun (F : Nat → Prop) (g : Nat) (W : World) (h : Disk W F g (fourD [(2 + G % 2, tlyP G a)])) => twrite_any g H hH b hbl hbb W h (by show 1 ≤ 100000; decide)
  have hd1 := show Hid _ from fun (F : Nat → Prop) (g : Nat) (W : World) (h : Disk W F g (backD G H a b)) => tread_any g H hH W h (by show 2 ≤ 100000; decide) y2
  have hd0 := show Hid _ from fun (F : Nat → Prop) (g : Nat) (W : World) (h : Disk W F g (backD G H a b)) => tread_any g G hG W h (by show 2 ≤ 100000; decide) y2
  simp only [w1a, w1e] at hw1
  simp only [w2a, w2e] at hw2
  simp only [hr1] at hd1
  simp only [hr0] at hd0
  obtain ⟨X0, HX0⟩ : ∃ X, Hid (fourD [] = X) := ⟨_, rfl⟩
  obtain ⟨X1, HX1⟩ : ∃ X, Hid (fourD [(2 + G % 2, tlyP G a)] = X) := ⟨_, rfl⟩
  obtain ⟨X2, HX2⟩ : ∃ X, Hid (backD G H a b = X) := ⟨_, rfl⟩
  simp only [HX0.out] at hnw hw1
  simp only [HX1.out] at hw1 hw2
  simp only [HX2.out] at hw2 hd1 hd0
  obtain ⟨Z, HZ⟩ : ∃ Z, Hid (zerB 240 = Z) := ⟨_, rfl⟩
  have hZl : Hid (Z.length = 240) := by show _ = _; rw [← HZ.out]; exact zerB_len 240
  try rw [HZ.out] at hd0
  have Ha := show Hid _ from hal
  have Hb := show Hid _ from hbl
  have eaa : Hid ((a == a) = true) := by show _ = _; exact beq_self_eq_true a
  have ebb : Hid ((b == b) = true) := by show _ = _; exact beq_self_eq_true b
  have nbb : Hid ((!(b == b)) = false) := by show _ = _; rw [beq_self_eq_true b]; rfl
  have ezz : Hid ((Z == Z) = true) := by show _ = _; exact beq_self_eq_true Z
  clear hr1 hr0 bP bQ w1a w1e w2a w2e y2 hal hbl
  have hne1 : (G == H) = false := by simpa using hne
  have e1 := mod2 G hG.1
  have e2 := mod2 H hH.1
  have u1 : IntKind.u64.wrap (G % 2) = G % 2 := wrap_u64_id _ (by omega) (by omega)
  have u2 : IntKind.u64.wrap (H % 2) = H % 2 := wrap_u64_id _ (by omega) (by omega)
  obtain ⟨r, hr⟩ : ∃ r, Hid (G % 2 = r) := ⟨_, rfl⟩
  obtain ⟨s, hs⟩ : ∃ s, Hid (H % 2 = s) := ⟨_, rfl⟩
  rw [hr.out] at e1 u1
  rw [hs.out] at e2 u2
  have hrs : (r == s) = false := by rw [← hr.out, ← hs.out]; simpa using hpar
  clear hpar hne
  go_enter Try.func5, Try.ntmps5
  go_wp2_with (first
    | (with_reducible refine at_wpP ?_; refine wpList_boxV rfl 41 _ rfl [.int .u64 G, .int .u64 H] rfl ?_; intro g3 w1 hg3 b1 f1 s1; have l1 := b1.lt; have z1 := f1.size)
    | (with_reducible refine at_wpP ?_; have f2x := f2; refine wpList_boxV rfl 22 _ rfl (pgv b) rfl ?_; intro g5 w3 hg5 b3 f3 s3; have l3 := b3.lt; have z3 := f3.size)
    | (with_reducible refine at_wpP ?_; refine wpList_boxV rfl 22 _ rfl (pgv a) rfl ?_; intro g4 w2 hg4 b2 f2 s2; have l2 := b2.lt; have z2 := f2.size)
    | (go_at_call 10; go_must (refine (talive_any _).mono ?_; rintro e w4 ⟨rfl, f4⟩; have z4 := f4.size))
    | (go_at_call 9; go_must (refine (hnw.out _).mono ?_; rintro e w5 ⟨g, rfl, d5, f5⟩; have z5 := f5.size; have N5 := ((((b1.fr0 f2).fr0 f3).fr0 f4).fr0 f5); have A5 := (((b2.fr0 f3).fr0 f4).fr0 f5); have B5 := ((b3.fr0 f4).fr0 f5); obtain ⟨q50, _⟩ := N5.cell 0 _ rfl))
    | (go_at_call 18; have d6x := d6; go_must (refine (hw2.out _ g _ d6).mono ?_; rintro e w7 ⟨rfl, d7, f7⟩; have z7 := f7.size; have N7 := N6.fr f7 (fun q => by unfold orNew at q; rcases q with q | q <;> omega); have A7 := A6.fr f7 (fun q => by unfold orNew at q; rcases q with q | q <;> omega); have B7 := B6.fr f7 (fun q => by unfold orNew at q; rcases q with q | q <;> omega); obtain ⟨q71, _⟩ := N7.cell 1 _ rfl; have d7' := d7.tight))
    | (go_at_call 18; go_must (refine (hw1.out _ g _ d5).mono ?_; rintro e w6 ⟨rfl, d6, f6⟩; have z6 := f6.size; have N6 := N5.fr f6 (fun q => by omega); have A6 := A5.fr f6 (fun q => by omega); have B6 := B5.fr f6 (fun q => by omega); obtain ⟨q61, _⟩ := N6.cell 1 _ rfl))
    | (go_at_call 8; have b10x := b10; go_must (refine (hd0.out _ g _ (((d7'.fr0 f8).fr0 f9).fr f10 (fun k hk hF q => by obtain ⟨_, hF⟩ := hF; unfold onB1 at q; omega))).mono ?_; rintro e w11 ⟨rfl, f11⟩; have z11 := f11.size))
    | (go_at_call 8; go_must (refine (hd1.out _ g _ d7).mono ?_; rintro e w8 ⟨rfl, f8⟩; have z8 := f8.size))
    | (with_reducible refine at_wpP ?_; have f11x := f11; refine wpList_allocA arr_counts rfl rfl ?_; rw [HZ.out]; intro g10 w12 hg10 b12 f12 s12; have z12 := f12.size; have l12 := b12.lt)
    | (with_reducible refine at_wpP ?_; refine wpList_allocA arr_counts rfl rfl ?_; rw [HZ.out]; intro g8 w9 hg8 b9 f9 s9; have z9 := f9.size; have l9 := b9.lt)
    | (with_reducible refine at_wpP ?_; refine at_st 23 _ _ rfl ?_; have b12x := b12; go_must (refine wpList_storeA arr_counts rfl _ _ rfl g10 rfl a rfl _ b12 Ha.out hZl.out ?_; intro w13 b13 f13; have z13 := f13.size; have N13 := ((N10.fr0 f11).fr0 f12).ne f13 (by omega); have A13 := ((A10.fr0 f11).fr0 f12).ne f13 (by omega); have B13 := ((B10.fr0 f11).fr0 f12).ne f13 (by omega); have Y13 := ((b10.fr0 f11).fr0 f12).ne f13 (by omega); obtain ⟨q130, _⟩ := N13.cell 0 _ rfl; obtain ⟨q131, _⟩ := N13.cell 1 _ rfl))
    | (with_reducible refine at_wpP ?_; refine at_st 23 _ _ rfl ?_; go_must (refine wpList_storeA arr_counts rfl _ _ rfl g8 rfl b rfl _ b9 Hb.out hZl.out ?_; intro w10 b10 f10; have z10 := f10.size; have N10 := ((N7.fr0 f8).fr0 f9).ne f10 (by omega); have A10 := ((A7.fr0 f8).fr0 f9).ne f10 (by omega); have B10 := ((B7.fr0 f8).fr0 f9).ne f10 (by omega); obtain ⟨q100, _⟩ := N10.cell 0 _ rfl))
    | (with_reducible refine at_wpP ?_; refine at_ld 22 _ rfl ?_; go_must (first | refine wpList_loadA arr_240 rfl _ rfl g5 rfl b B13 Hb.out ?_ | refine wpList_loadA arr_240 rfl _ rfl g4 rfl a A13 Ha.out ?_ | refine wpList_loadA arr_240 rfl _ rfl g5 rfl b B6 Hb.out ?_ | refine wpList_loadA arr_240 rfl _ rfl g4 rfl a A5 Ha.out ?_))
    | (with_reducible refine at_wpP ?_; refine at_ld 23 _ rfl ?_; go_must (first | refine wpList_loadA arr_counts rfl _ rfl g8 rfl b Y13 Hb.out ?_ | refine wpList_loadA arr_counts rfl _ rfl g10 rfl a b13 Ha.out ?_))
    | (with_reducible refine at_wpP ?_; refine wpList_buildA arr_counts rfl rfl ?_; rw [HZ.out])
    | (with_reducible refine at_wpP ?_; refine at_bin .neq 23 _ _ _ rfl ?_; go_must (refine wpList_neqA arr_counts rfl _ _ _ rfl b b rfl rfl Hb.out Hb.out ?_; rw [nbb.out]))
    | (with_reducible refine at_wpP ?_; refine at_bin .eql 23 _ _ _ rfl ?_; go_must (refine wpList_eqlA arr_counts rfl _ _ _ rfl a a rfl rfl Ha.out Ha.out ?_; rw [eaa.out])))
  go_ret
  refine ⟨rfl, ?_⟩
  have F7 : Fr noB w w7 := (((((f1.thenN f2).thenN f3).thenN f4).thenN f5).thenT f6 (fun i hi q => by omega)).thenT f7 (fun i hi q => by unfold orNew at q; rcases q with q | q <;> omega)
  exact ((((((F7.thenN f8).thenN f9).thenT f10 (fun i hi q => by unfold onB1 at q; omega)).thenN f11).thenN f12).thenT f13 (fun i hi q => by unfold onB1 at q; omega)).below
theorem tback_walk (vg : Value) (m : Int × Int) (va : Value) (a : List Int) (vb : Value) (b : List Int) (w : World) (hg : IsTwo vg m) (ha : IsArr va 240 a) (hb : IsArr vb 240 b) :
    Calls Try.prog 5 #[vg, va, vb] w fun r w' => r = .returned (.bool true) ∧ Below w.heap.size w w' := by
  obtain ⟨rfl, h1, h2⟩ := hg
  obtain ⟨rfl, ha1, ha2⟩ := ha
  obtain ⟨rfl, hb1, hb2⟩ := hb
  by_cases e : m.1 = m.2
  · exact tback_one _ _ a b w h1 h2 ha1 ha2 hb1 hb2 e
  · by_cases e2 : m.1 % 2 = m.2 % 2
    · exact tback_two _ _ a b w h1 h2 ha1 ha2 hb1 hb2 e e2
    · exact tback_three _ _ a b w h1 h2 ha1 ha2 hb1 hb2 e e2
end Go.Proofs.Ytdfffbbdeaefeaa
