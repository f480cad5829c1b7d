/- LabelBack: the walk. -/
import Derived.Test.YtcpkkdffedndiaaDoorOpenL
import Derived.Test.YtcpkkdffedndiaaDoorL9
import Derived.Test.YtcpkkdffedndiaaDoorN2
import Derived.Test.YtcpkkdffedndiaaDoorN3
import Derived.Laws.StructEq
namespace Go.Proofs.YtcpkkdffedndiaaDoor
open Go.RowKit Go.Proofs.U
set_option linter.unusedSimpArgs false
set_option linter.unusedVariables false

def dval (l : List UInt8) : Nat := l.foldl (fun n b => 10 * n + (b.toNat - 48)) 0
theorem dval_dec : ∀ (k m : Nat), m ≤ k → dval (Lib.decDigits m) = m := by
  intro k
  induction k with
  | zero =>
    intro m hk
    obtain rfl : m = 0 := by omega
    rw [Lib.decDigits_one (by decide)]; decide
  | succ k ih =>
    intro m hk
    by_cases hs : m < 10
    · rw [Lib.decDigits_one hs]
      have := u8_dig m hs
      simp only [dval, List.foldl_cons, List.foldl_nil, this]
      omega
    · have e : Lib.decDigits m = Lib.decDigits (m / 10) ++ [UInt8.ofNat (48 + m % 10)] := by rw [Lib.decDigits, dif_neg hs]
      have h1 := ih (m / 10) (by omega)
      have := u8_dig (m % 10) (by omega)
      unfold dval at h1 ⊢
      rw [e, List.foldl_append, h1]
      simp only [List.foldl_cons, List.foldl_nil, this]
      omega
theorem txL_inj {a b c d : Nat} (h : txL a b = txL c d) : a = c ∧ b = d := by
  obtain ⟨h1, h2⟩ := app_dot_inj (dot_not a) (dot_not c) h
  constructor
  · rw [← dval_dec a a (Nat.le_refl _), h1, dval_dec c c (Nat.le_refl _)]
  · rw [← dval_dec b b (Nat.le_refl _), h2, dval_dec d d (Nat.le_refl _)]

set_option maxHeartbeats 2000000 in
theorem b1 (m1 m2 : Nat) (s T : ByteArray) (hlen : ¬ (200 : Int) < (s.size : Int)) (w : World) (ht : Tab w)
    (xt : ∀ w, Tab w → Calls Tryd.prog 25 #[lab (m1 : Int) (m2 : Int)] w fun r w' => r = .returned (.string T) ∧ Fr noB w w')
    (hok : okL (m1 : Int) (m2 : Int) = true)
    (pT : ∀ w, Calls Tryd.prog 24 #[.string T] w fun e w' => e = .returned (.tuple #[lab (m1 : Int) (m2 : Int), .int .i64 0]) ∧ Fr noB w w')
    (e q : Nat) (Y : ByteArray) (hY : (Y.toList == s.toList) = true) (pS : ∀ w, Calls Tryd.prog 24 #[.string s] w fun r w' => r = .returned (.tuple #[lab (e : Int) (q : Int), .int .i64 0]) ∧ Fr noB w w')
    (xs : ∀ w, Tab w → Calls Tryd.prog 25 #[lab (e : Int) (q : Int)] w fun r w' => r = .returned (.string Y) ∧ Fr noB w w') :
    Calls Tryd.prog 7 #[lab (m1 : Int) (m2 : Int), .string s] w fun r w' => r = .returned (.bool true) ∧ Below w.heap.size w w' := by
  have F0 : Fr noB w (w.alloc (.cells #[.int .u32 (m1 : Int), .int .u32 (m2 : Int)] 24)) := (Fr.refl _ _).alloc _
  go_enter Tryd.func7, Tryd.ntmps7
  go_wp2_with (go_at_call 12; go_must (refine (alive_any _ (ht.fr0 F0)).mono ?_; rintro e w1 ⟨rfl, f1⟩; have F1 := F0.thenN f1; have C1 := (Bx.made w (m1 : Int) (m2 : Int)).fr0 f1; obtain ⟨k1, k2, k3, k4⟩ := C1.all))
  refine (xt _ (ht.fr0 F1)).mono ?_
  rintro e w2 ⟨rfl, f2⟩
  have F2 := F1.thenN f2
  have C2 := C1.fr0 f2
  clear k1 k2 k3 k4
  go_wp2_with fail
  refine (pT _).mono ?_
  rintro e w3 ⟨rfl, f3⟩
  have F3 := F2.thenN f3
  have C3 := C2.fr0 f3
  have t3 := C3.lt
  go_wp2_with (with_reducible refine at_wp ?_; refine wpList_stL rfl _ _ rfl w3.heap.size rfl _ _ _ _ rfl (Bx.made w3 0 0) ?_; intro w4 D4 f4 z4; have F4 := ac3 F3 _ f4; have C4 := (C3.alloc _).fr f4 (fun q => by unfold onL at q; omega))
  refine (pS _).mono ?_
  rintro e w5 ⟨rfl, f5⟩
  have F5 := F4.thenN f5
  have C5 := C4.fr0 f5
  have D5 := D4.fr0 f5
  have t5 := C5.lt
  have u5 := D5.lt
  go_wp2_with (first
    | (go_at_call 16; go_must (refine (right_any _ _ _).mono ?_; rintro e w7 ⟨rfl, f7⟩; have F7 := F6.thenN f7; have C7 := C6.fr0 f7; have D7 := D6.fr0 f7; have E7 := E6.fr0 f7; obtain ⟨n1, n2, n3, n4⟩ := C7.all; obtain ⟨p1, p2, p3, p4⟩ := D7.all; obtain ⟨q1, q2, q3, q4⟩ := E7.all))
    | (with_reducible refine at_wp ?_; refine wpList_stL rfl _ _ rfl w5.heap.size rfl _ _ _ _ rfl (Bx.made w5 0 0) ?_; intro w6 E6 f6 z6; have F6 := ac3 F5 _ f6; have C6 := (C5.alloc _).fr f6 (fun q => by unfold onL at q; omega); have D6 := (D5.alloc _).fr f6 (fun q => by unfold onL at q; omega); obtain ⟨n1, n2, n3, n4⟩ := C6.all; obtain ⟨p1, p2, p3, p4⟩ := D6.all; obtain ⟨q1, q2, q3, q4⟩ := E6.all))
  refine (xs _ (ht.fr0 F7)).mono ?_
  rintro e w8 ⟨rfl, f8⟩
  go_wp2
  go_ret
  exact ⟨rfl, (F7.thenN f8).below⟩

set_option maxHeartbeats 2000000 in
theorem b2 (m1 m2 : Nat) (s T : ByteArray) (hlen : ¬ (200 : Int) < (s.size : Int)) (w : World) (ht : Tab w)
    (xt : ∀ w, Tab w → Calls Tryd.prog 25 #[lab (m1 : Int) (m2 : Int)] w fun r w' => r = .returned (.string T) ∧ Fr noB w w')
    (hok : okL (m1 : Int) (m2 : Int) = true)
    (pT : ∀ w, Calls Tryd.prog 24 #[.string T] w fun e w' => e = .returned (.tuple #[lab (m1 : Int) (m2 : Int), .int .i64 0]) ∧ Fr noB w w')
    (pS : ∀ w, Calls Tryd.prog 24 #[.string s] w fun r w' => r = .returned (.tuple #[lab 0 0, .int .i64 31]) ∧ Fr noB w w') :
    Calls Tryd.prog 7 #[lab (m1 : Int) (m2 : Int), .string s] w fun r w' => r = .returned (.bool true) ∧ Below w.heap.size w w' := by
  have F0 : Fr noB w (w.alloc (.cells #[.int .u32 (m1 : Int), .int .u32 (m2 : Int)] 24)) := (Fr.refl _ _).alloc _
  go_enter Tryd.func7, Tryd.ntmps7
  go_wp2_with (go_at_call 12; go_must (refine (alive_any _ (ht.fr0 F0)).mono ?_; rintro e w1 ⟨rfl, f1⟩; have F1 := F0.thenN f1; have C1 := (Bx.made w (m1 : Int) (m2 : Int)).fr0 f1; obtain ⟨k1, k2, k3, k4⟩ := C1.all))
  refine (xt _ (ht.fr0 F1)).mono ?_
  rintro e w2 ⟨rfl, f2⟩
  have F2 := F1.thenN f2
  have C2 := C1.fr0 f2
  clear k1 k2 k3 k4
  go_wp2_with fail
  refine (pT _).mono ?_
  rintro e w3 ⟨rfl, f3⟩
  have F3 := F2.thenN f3
  have C3 := C2.fr0 f3
  have t3 := C3.lt
  go_wp2_with (with_reducible refine at_wp ?_; refine wpList_stL rfl _ _ rfl w3.heap.size rfl _ _ _ _ rfl (Bx.made w3 0 0) ?_; intro w4 D4 f4 z4; have F4 := ac3 F3 _ f4; have C4 := (C3.alloc _).fr f4 (fun q => by unfold onL at q; omega))
  refine (pS _).mono ?_
  rintro e w5 ⟨rfl, f5⟩
  have F5 := F4.thenN f5
  have C5 := C4.fr0 f5
  have D5 := D4.fr0 f5
  have t5 := C5.lt
  have u5 := D5.lt
  go_wp2_with (first
    | (go_at_call 16; go_must (refine (right_any _ _ _).mono ?_; rintro e w7 ⟨rfl, f7⟩; have F7 := F6.thenN f7; have C7 := C6.fr0 f7; have D7 := D6.fr0 f7; have E7 := E6.fr0 f7; obtain ⟨n1, n2, n3, n4⟩ := C7.all; obtain ⟨p1, p2, p3, p4⟩ := D7.all; obtain ⟨q1, q2, q3, q4⟩ := E7.all))
    | (with_reducible refine at_wp ?_; refine wpList_stL rfl _ _ rfl w5.heap.size rfl _ _ _ _ rfl (Bx.made w5 0 0) ?_; intro w6 E6 f6 z6; have F6 := ac3 F5 _ f6; have C6 := (C5.alloc _).fr f6 (fun q => by unfold onL at q; omega); have D6 := (D5.alloc _).fr f6 (fun q => by unfold onL at q; omega); obtain ⟨n1, n2, n3, n4⟩ := C6.all; obtain ⟨p1, p2, p3, p4⟩ := D6.all; obtain ⟨q1, q2, q3, q4⟩ := E6.all))
  go_ret
  exact ⟨rfl, F7.below⟩

set_option maxHeartbeats 2000000 in
theorem b3 (m1 m2 : Nat) (s T : ByteArray) (hlen : ¬ (200 : Int) < (s.size : Int)) (w : World) (ht : Tab w)
    (xt : ∀ w, Tab w → Calls Tryd.prog 25 #[lab (m1 : Int) (m2 : Int)] w fun r w' => r = .returned (.string T) ∧ Fr noB w w')
    (hok : okL (m1 : Int) (m2 : Int) = false)
    (pT : ∀ w, Calls Tryd.prog 24 #[.string T] w fun e w' => e = .returned (.tuple #[lab 0 0, .int .i64 31]) ∧ Fr noB w w')
    (e q : Nat) (Y : ByteArray) (hY : (Y.toList == s.toList) = true) (pS : ∀ w, Calls Tryd.prog 24 #[.string s] w fun r w' => r = .returned (.tuple #[lab (e : Int) (q : Int), .int .i64 0]) ∧ Fr noB w w')
    (xs : ∀ w, Tab w → Calls Tryd.prog 25 #[lab (e : Int) (q : Int)] w fun r w' => r = .returned (.string Y) ∧ Fr noB w w') :
    Calls Tryd.prog 7 #[lab (m1 : Int) (m2 : Int), .string s] w fun r w' => r = .returned (.bool true) ∧ Below w.heap.size w w' := by
  have F0 : Fr noB w (w.alloc (.cells #[.int .u32 (m1 : Int), .int .u32 (m2 : Int)] 24)) := (Fr.refl _ _).alloc _
  go_enter Tryd.func7, Tryd.ntmps7
  go_wp2_with (go_at_call 12; go_must (refine (alive_any _ (ht.fr0 F0)).mono ?_; rintro e w1 ⟨rfl, f1⟩; have F1 := F0.thenN f1; have C1 := (Bx.made w (m1 : Int) (m2 : Int)).fr0 f1; obtain ⟨k1, k2, k3, k4⟩ := C1.all))
  refine (xt _ (ht.fr0 F1)).mono ?_
  rintro e w2 ⟨rfl, f2⟩
  have F2 := F1.thenN f2
  have C2 := C1.fr0 f2
  clear k1 k2 k3 k4
  go_wp2_with fail
  refine (pT _).mono ?_
  rintro e w3 ⟨rfl, f3⟩
  have F3 := F2.thenN f3
  have C3 := C2.fr0 f3
  have t3 := C3.lt
  go_wp2_with (with_reducible refine at_wp ?_; refine wpList_stL rfl _ _ rfl w3.heap.size rfl _ _ _ _ rfl (Bx.made w3 0 0) ?_; intro w4 D4 f4 z4; have F4 := ac3 F3 _ f4; have C4 := (C3.alloc _).fr f4 (fun q => by unfold onL at q; omega))
  refine (pS _).mono ?_
  rintro e w5 ⟨rfl, f5⟩
  have F5 := F4.thenN f5
  have C5 := C4.fr0 f5
  have D5 := D4.fr0 f5
  have t5 := C5.lt
  have u5 := D5.lt
  go_wp2_with (first
    | (go_at_call 16; go_must (refine (right_any _ _ _).mono ?_; rintro e w7 ⟨rfl, f7⟩; have F7 := F6.thenN f7; have C7 := C6.fr0 f7; have D7 := D6.fr0 f7; have E7 := E6.fr0 f7; obtain ⟨n1, n2, n3, n4⟩ := C7.all; obtain ⟨p1, p2, p3, p4⟩ := D7.all; obtain ⟨q1, q2, q3, q4⟩ := E7.all))
    | (with_reducible refine at_wp ?_; refine wpList_stL rfl _ _ rfl w5.heap.size rfl _ _ _ _ rfl (Bx.made w5 0 0) ?_; intro w6 E6 f6 z6; have F6 := ac3 F5 _ f6; have C6 := (C5.alloc _).fr f6 (fun q => by unfold onL at q; omega); have D6 := (D5.alloc _).fr f6 (fun q => by unfold onL at q; omega); obtain ⟨n1, n2, n3, n4⟩ := C6.all; obtain ⟨p1, p2, p3, p4⟩ := D6.all; obtain ⟨q1, q2, q3, q4⟩ := E6.all))
  refine (xs _ (ht.fr0 F7)).mono ?_
  rintro e w8 ⟨rfl, f8⟩
  go_wp2
  go_ret
  exact ⟨rfl, (F7.thenN f8).below⟩

set_option maxHeartbeats 2000000 in
theorem b4 (m1 m2 : Nat) (s T : ByteArray) (hlen : ¬ (200 : Int) < (s.size : Int)) (w : World) (ht : Tab w)
    (xt : ∀ w, Tab w → Calls Tryd.prog 25 #[lab (m1 : Int) (m2 : Int)] w fun r w' => r = .returned (.string T) ∧ Fr noB w w')
    (hok : okL (m1 : Int) (m2 : Int) = false)
    (pT : ∀ w, Calls Tryd.prog 24 #[.string T] w fun e w' => e = .returned (.tuple #[lab 0 0, .int .i64 31]) ∧ Fr noB w w')
    (pS : ∀ w, Calls Tryd.prog 24 #[.string s] w fun r w' => r = .returned (.tuple #[lab 0 0, .int .i64 31]) ∧ Fr noB w w') :
    Calls Tryd.prog 7 #[lab (m1 : Int) (m2 : Int), .string s] w fun r w' => r = .returned (.bool true) ∧ Below w.heap.size w w' := by
  have F0 : Fr noB w (w.alloc (.cells #[.int .u32 (m1 : Int), .int .u32 (m2 : Int)] 24)) := (Fr.refl _ _).alloc _
  go_enter Tryd.func7, Tryd.ntmps7
  go_wp2_with (go_at_call 12; go_must (refine (alive_any _ (ht.fr0 F0)).mono ?_; rintro e w1 ⟨rfl, f1⟩; have F1 := F0.thenN f1; have C1 := (Bx.made w (m1 : Int) (m2 : Int)).fr0 f1; obtain ⟨k1, k2, k3, k4⟩ := C1.all))
  refine (xt _ (ht.fr0 F1)).mono ?_
  rintro e w2 ⟨rfl, f2⟩
  have F2 := F1.thenN f2
  have C2 := C1.fr0 f2
  clear k1 k2 k3 k4
  go_wp2_with fail
  refine (pT _).mono ?_
  rintro e w3 ⟨rfl, f3⟩
  have F3 := F2.thenN f3
  have C3 := C2.fr0 f3
  have t3 := C3.lt
  go_wp2_with (with_reducible refine at_wp ?_; refine wpList_stL rfl _ _ rfl w3.heap.size rfl _ _ _ _ rfl (Bx.made w3 0 0) ?_; intro w4 D4 f4 z4; have F4 := ac3 F3 _ f4; have C4 := (C3.alloc _).fr f4 (fun q => by unfold onL at q; omega))
  refine (pS _).mono ?_
  rintro e w5 ⟨rfl, f5⟩
  have F5 := F4.thenN f5
  have C5 := C4.fr0 f5
  have D5 := D4.fr0 f5
  have t5 := C5.lt
  have u5 := D5.lt
  go_wp2_with (first
    | (go_at_call 16; go_must (refine (right_any _ _ _).mono ?_; rintro e w7 ⟨rfl, f7⟩; have F7 := F6.thenN f7; have C7 := C6.fr0 f7; have D7 := D6.fr0 f7; have E7 := E6.fr0 f7; obtain ⟨n1, n2, n3, n4⟩ := C7.all; obtain ⟨p1, p2, p3, p4⟩ := D7.all; obtain ⟨q1, q2, q3, q4⟩ := E7.all))
    | (with_reducible refine at_wp ?_; refine wpList_stL rfl _ _ rfl w5.heap.size rfl _ _ _ _ rfl (Bx.made w5 0 0) ?_; intro w6 E6 f6 z6; have F6 := ac3 F5 _ f6; have C6 := (C5.alloc _).fr f6 (fun q => by unfold onL at q; omega); have D6 := (D5.alloc _).fr f6 (fun q => by unfold onL at q; omega); obtain ⟨n1, n2, n3, n4⟩ := C6.all; obtain ⟨p1, p2, p3, p4⟩ := D6.all; obtain ⟨q1, q2, q3, q4⟩ := E6.all))
  go_ret
  exact ⟨rfl, F7.below⟩


set_option maxHeartbeats 2000000 in
theorem back_walk (va : Value) (a : Int × Int) (s : ByteArray) (w : World) (ha : va = lab a.1 a.2 ∧ U2 a.1 a.2) (hs : s.size ≤ maxLen) (ht : Tab w) :
    Calls Tryd.prog 7 #[va, .string s] w fun r w' => r = .returned (.bool true) ∧ Below w.heap.size w w' := by
  obtain ⟨a1, a2⟩ := a
  obtain ⟨rfl, ha⟩ := ha
  simp only at ha ⊢
  obtain ⟨m1, rfl⟩ : ∃ m : Nat, a1 = m := ⟨a1.toNat, by have := ha.e0; omega⟩
  obtain ⟨m2, rfl⟩ : ∃ m : Nat, a2 = m := ⟨a2.toNat, by have := ha.s0; omega⟩
  have hs63 : (s.size : Int) ≤ 9223372036854775807 := by unfold maxLen at hs; omega
  by_cases hlen : (200 : Int) < (s.size : Int)
  · have F0 : Fr noB w (w.alloc (.cells #[.int .u32 (m1 : Int), .int .u32 (m2 : Int)] 24)) := (Fr.refl _ _).alloc _
    go_enter Tryd.func7, Tryd.ntmps7
    go_wp2_with (go_at_call 12; go_must (refine (alive_any _ (ht.fr0 F0)).mono ?_; rintro e w1 ⟨rfl, f1⟩; have F1 := F0.thenN f1))
    go_ret
    exact ⟨rfl, F1.below⟩
  · have xt := fun w ht => text_any (m1 : Int) (m2 : Int) ha w ht
    have hT := txt_list m1 m2
    have hTs : (txt (m1 : Int) (m2 : Int)).size ≤ 41 := by
      have d1 := dig_size (m1 : Int) ha.e0 ha.e1
      have d2 := dig_size (m2 : Int) ha.s0 ha.s1
      unfold txt
      rw [ByteArray.size_append, ByteArray.size_append]
      have : dot.size = 1 := rfl
      omega
    have pT := fun w => parse_any (txt (m1 : Int) (m2 : Int)) (by omega) w
    rw [hT] at pT
    have pS := fun w => parse_any s (by omega) w
    have hTl : okL (m1 : Int) (m2 : Int) = true ∧ prs (txL m1 m2) = (m1, m2, 0) ∨ okL (m1 : Int) (m2 : Int) = false ∧ prs (txL m1 m2) = (0, 0, 31) := by
      cases hok : okL (m1 : Int) (m2 : Int) with
      | true =>
        left
        have : m1 ≤ 1048576 ∧ m2 ≤ 1048576 := by simp [okL] at hok; omega
        exact ⟨rfl, prs_txt m1 m2 this.1 this.2⟩
      | false =>
        right
        refine ⟨rfl, prs_no fun e q he hq hl => ?_⟩
        obtain ⟨rfl, rfl⟩ := txL_inj hl
        have : okL (m1 : Int) (m2 : Int) = true := by simp [okL]; omega
        rw [this] at hok; cases hok
    rcases prs_cases s.data.toList with hc | hc
    · obtain ⟨g1, g2, g3⟩ := prs_ok hc
      generalize prs s.data.toList = M at *
      obtain ⟨e, q, c⟩ := M
      simp only at hc g1 g2 g3 pS
      subst hc
      have hY : ((txt (e : Int) (q : Int)).toList == s.toList) = true := by
        rw [Go.ByteArray.toList_eq, Go.ByteArray.toList_eq, txt_list, g1]; simp
      have xs := fun w ht => text_any (e : Int) (q : Int) ⟨by omega, by omega, by omega, by omega⟩ w ht
      rcases hTl with ⟨hok, hp⟩ | ⟨hok, hp⟩
      · rw [hp] at pT
        exact b1 m1 m2 s _ hlen w ht xt hok pT e q _ hY pS xs
      · rw [hp] at pT
        exact b3 m1 m2 s _ hlen w ht xt hok pT e q _ hY pS xs
    · rw [hc] at pS
      rcases hTl with ⟨hok, hp⟩ | ⟨hok, hp⟩
      · rw [hp] at pT
        exact b2 m1 m2 s _ hlen w ht xt hok pT pS
      · rw [hp] at pT
        exact b4 m1 m2 s _ hlen w ht xt hok pT pS
end Go.Proofs.YtcpkkdffedndiaaDoor
